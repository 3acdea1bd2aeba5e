/-
  The generators of the laws: the contracts of the reader.
-/
import Derived.Test.YtnojlapjkdihmaaG01
import Derived.Test.YtnojlapjkdihmaaG03
namespace Go.Proofs.Ytnojlapjkdihmaa
open Go.RowKit

/-- A reader lies in block rb; it has been asked at most k times. -/
def Rdr (w : World) (rb k : Nat) : Prop :=
  ∃ (A : Option Addr) (c p : Nat) (xs : List Int), w.heap[rb]? = some (.cells #[.slice A xs.length c, .int .i64 (p : Int)] 104 (0, 0)) ∧ p ≤ k ∧ xs.length ≤ 2000 ∧ (∀ x ∈ xs, 0 ≤ x ∧ x ≤ 255) ∧
    (xs = [] ∨ ∃ b off, A = some ⟨b, off, none⟩ ∧ b < rb ∧ ∀ j x, xs[j]? = some x → w.cell? ⟨b, off + j, none⟩ = some (.int .u8 x))

theorem Rdr.more {w : World} {rb k k' : Nat} (h : Rdr w rb k) (hk : k ≤ k') : Rdr w rb k' := by
  obtain ⟨A, c, p, xs, h1, h2, h3⟩ := h
  exact ⟨A, c, p, xs, h1, Nat.le_trans h2 hk, h3⟩
theorem Rdr.lt {w : World} {rb k : Nat} (h : Rdr w rb k) : rb < w.heap.size := by
  obtain ⟨A, c, p, xs, h1, _⟩ := h
  exact lt_of_block h1
theorem Rdr.keep {w w' : World} {rb k : Nat} (h : Rdr w rb k) (hw : ∀ g, g < w.heap.size → w'.heap[g]? = w.heap[g]?) : Rdr w' rb k := by
  have hl := h.lt
  obtain ⟨A, c, p, xs, h1, h2, h3, h4, h5⟩ := h
  refine ⟨A, c, p, xs, (hw rb hl).trans h1, h2, h3, h4, ?_⟩
  rcases h5 with h5 | ⟨b, off, hA, hb, hc⟩
  · exact .inl h5
  · exact .inr ⟨b, off, hA, hb, fun j x hx => by
      have h6 := hc j x hx
      exact (World.cell?_of_block (hw b (World.block_lt_of_cell? w _ h6))).trans h6⟩
theorem Rdr.below {w w' : World} {rb k : Nat} (h : Rdr w rb k) (hb : Below w.heap.size w w') : Rdr w' rb k := h.keep hb.block
theorem Rdr.drewN {w : World} {rb k : Nat} (h : Rdr w rb k) (n : Nat) : Rdr (w.drewN n) rb k := h

theorem xor_i64_nat (a b : Nat) (ha : a < 4294967296) (hb : b < 4294967296) : bits .xor .i64 (a : Int) (b : Int) = ((a ^^^ b : Nat) : Int) ∧ a ^^^ b < 4294967296 := by
  have hx : a ^^^ b < 2 ^ 32 := Nat.xor_lt_two_pow (by omega) (by omega)
  have h1 : (BitVec.ofInt 64 (a : Int)).toNat = a := by
    rw [BitVec.ofInt_natCast, BitVec.toNat_ofNat]; exact Nat.mod_eq_of_lt (by omega)
  have h2 : (BitVec.ofInt 64 (b : Int)).toNat = b := by
    rw [BitVec.ofInt_natCast, BitVec.toNat_ofNat]; exact Nat.mod_eq_of_lt (by omega)
  refine ⟨?_, by omega⟩
  show IntKind.i64.wrap ((BitVec.ofInt 64 (a : Int) ^^^ BitVec.ofInt 64 (b : Int)).toNat : Int) = _
  rw [BitVec.toNat_xor, h1, h2, IntKind.wrap_i64]
  omega

/-- What pick hands back. -/
def PickIs (w : World) (rb k : Nat) (n : Int) (e : Ending) (w' : World) : Prop :=
  ∃ m : Int, e = .returned (.int .i64 m) ∧ 0 ≤ m ∧ (m < n ∨ m = 0) ∧ Rdr w' rb (k + 1) ∧ w.grownBy w' (some rb)

theorem Rdr.asked {w : World} {rb p c : Nat} {A : Option Addr} {xs : List Int} {k : Nat} (h1 : w.heap[rb]? = some (.cells #[.slice A xs.length c, .int .i64 (p : Int)] 104 (0, 0))) (h2 : p ≤ k) (h3 : xs.length ≤ 2000) (h4 : ∀ x ∈ xs, 0 ≤ x ∧ x ≤ 255)
    (h5 : xs = [] ∨ ∃ b off, A = some ⟨b, off, none⟩ ∧ b < rb ∧ ∀ j x, xs[j]? = some x → w.cell? ⟨b, off + j, none⟩ = some (.int .u8 x)) :
    Rdr (w.setCell ⟨rb, 1, none⟩ (.int .i64 ((p : Int) + 1))) rb (k + 1) ∧ w.grownBy (w.setCell ⟨rb, 1, none⟩ (.int .i64 ((p : Int) + 1))) (some rb) := by
  refine ⟨⟨A, c, p + 1, xs, ?_, by omega, h3, h4, ?_⟩, ⟨rfl, rfl, rfl, by simp, fun g hg hne => ?_⟩⟩
  · have := heap_setCell_same w rb 1 _ _ (.int .i64 ((p : Int) + 1)) h1
    rw [this]; simp
  · rcases h5 with h5 | ⟨b, off, hA, hb, hc⟩
    · exact .inl h5
    · exact .inr ⟨b, off, hA, hb, fun j x hx => by
        rw [World.cell?_setCell_other w ⟨rb, 1, none⟩ ⟨b, off + j, none⟩ _ (fun e => by injection e with e1; omega)]
        exact hc j x hx⟩
  · exact heap_setCell_other w ⟨rb, 1, none⟩ g _ (fun e => hne (by simp [e]))

set_option maxRecDepth 100000 in
set_option maxHeartbeats 2000000 in
theorem pick_any (rb k : Nat) (n : Int) (w : World) (h : Rdr w rb k) (hk : k ≤ 1000000) (hn0 : -2147483648 ≤ n) (hn : n ≤ 2147483647) :
    Calls Try.prog 67 #[.pointer (some ⟨rb, 0, none⟩), .int .i64 n] w (PickIs w rb k n) := by
  obtain ⟨A, c, p, xs, h1, h2, h3, h4, h5⟩ := h
  have HD := Lib.hid (Rdr.asked h1 h2 h3 h4 h5)
  have c0 : w.cell? ⟨rb, 0, none⟩ = some (.slice A xs.length c) := by simp [World.cell?, h1]
  have c1 : w.cell? ⟨rb, 1, none⟩ = some (.int .i64 (p : Int)) := by simp [World.cell?, h1]
  have f1 : w.frozen? ⟨rb, 1, none⟩ = false := by simp [World.frozen?, h1]
  have hp : (p : Int) ≤ 1000000 := by omega
  clear h1
  by_cases hn1 : n < 1
  · go_enter Try.func67, Try.ntmps67
    go_wp2
    go_ret
    exact ⟨0, rfl, by decide, .inr rfl, HD.out.1, HD.out.2⟩
  by_cases hl : xs.length = 0
  · have hl0 : ((xs.length : Int) == 0) = true := by simp [hl]
    clear hl
    go_enter Try.func67, Try.ntmps67
    go_wp2
    go_ret
    exact ⟨0, rfl, by decide, .inr rfl, HD.out.1, HD.out.2⟩
  have hl1 : 1 ≤ xs.length := by omega
  have hl0 : ((xs.length : Int) == 0) = false := beq_eq_false_iff_ne.2 (by omega)
  obtain ⟨b, off, rfl, hbr, hcell⟩ : ∃ b off, A = some ⟨b, off, none⟩ ∧ b < rb ∧ ∀ j x, xs[j]? = some x → w.cell? ⟨b, off + j, none⟩ = some (.int .u8 x) := by
    rcases h5 with h5 | h5
    · subst h5; simp at hl1
    · exact h5
  have HC := Lib.hid hcell
  have H4 := Lib.hid h4
  have hnp : 0 < n := by omega
  clear hcell h4 h5 hl hn1
  by_cases hpl : p < xs.length
  · obtain ⟨x, hx⟩ := at_some hpl
    have hc := HC.out p x hx
    have hxb := H4.out x (List.mem_of_getElem? hx)
    have hx0 := hxb.1
    have hx1 := hxb.2
    clear hx hxb
    go_enter Try.func67, Try.ntmps67
    go_wp2
    go_ret
    exact ⟨x % n, rfl, Int.emod_nonneg _ (by omega), .inl (Int.emod_lt_of_pos _ (by omega)), HD.out.1, HD.out.2⟩
  · obtain ⟨L, hL⟩ : ∃ L, L = xs.length := ⟨_, rfl⟩
    have hL1 : 1 ≤ L := by omega
    have hL2 : L ≤ 2000 := by omega
    have hpl' : L ≤ p := by omega
    obtain ⟨i1, hi1⟩ : ∃ i1, i1 = p % L := ⟨_, rfl⟩
    obtain ⟨i2, hi2⟩ : ∃ i2, i2 = (p * 7 + 3) % L := ⟨_, rfl⟩
    obtain ⟨d, hd⟩ : ∃ d, d = p / L := ⟨_, rfl⟩
    have hi1l : i1 < L := by rw [hi1]; exact Nat.mod_lt _ (by omega)
    have hi2l : i2 < L := by rw [hi2]; exact Nat.mod_lt _ (by omega)
    have hdl : d ≤ p := by rw [hd]; exact Nat.div_le_self _ _
    obtain ⟨x1, hx1⟩ := at_some (xs := xs) (k := i1) (by omega)
    obtain ⟨x2, hx2⟩ := at_some (xs := xs) (k := i2) (by omega)
    have hb1 := H4.out x1 (List.mem_of_getElem? hx1)
    have hb2 := H4.out x2 (List.mem_of_getElem? hx2)
    have g1 : (w.setCell ⟨rb, 1, none⟩ (.int .i64 ((p : Int) + 1))).cell? ⟨b, off + i1, none⟩ = some (.int .u8 x1) := by
      rw [World.cell?_setCell_other w ⟨rb, 1, none⟩ ⟨b, off + i1, none⟩ _ (fun e => by injection e with e1; omega)]
      exact HC.out i1 x1 hx1
    have g2 : (w.setCell ⟨rb, 1, none⟩ (.int .i64 ((p : Int) + 1))).cell? ⟨b, off + i2, none⟩ = some (.int .u8 x2) := by
      rw [World.cell?_setCell_other w ⟨rb, 1, none⟩ ⟨b, off + i2, none⟩ _ (fun e => by injection e with e1; omega)]
      exact HC.out i2 x2 hx2
    clear hx1 hx2
    rw [← hL] at c0 hl0
    have hz : ¬ (L : Int) = 0 := by omega
    have z0 : (0 : Int) ≤ (p : Int) := by omega
    have z1 : (L : Int) ≤ (p : Int) := by omega
    obtain ⟨h10, h11⟩ := hb1
    obtain ⟨h20, h21⟩ := hb2
    have e1 : (p : Int).tmod (L : Int) = (i1 : Int) := by rw [Int.tmod_eq_emod_of_nonneg z0, hi1]; exact (Int.natCast_emod p L).symm
    have e2 : IntKind.i64.wrap ((p : Int) * 7) = (p : Int) * 7 := IntWalk.i64_in _ (by omega)
    have e3 : IntKind.i64.wrap ((p : Int) * 7 + 3) = (p : Int) * 7 + 3 := IntWalk.i64_in _ (by omega)
    have e4 : ((p : Int) * 7 + 3).tmod (L : Int) = (i2 : Int) := by
      rw [Int.tmod_eq_emod_of_nonneg (by omega), hi2, Int.natCast_emod]; simp
    have e5 : (p : Int).tdiv (L : Int) = (d : Int) := by rw [Int.tdiv_eq_ediv_of_nonneg z0, hd]; exact (Int.natCast_ediv p L).symm
    have e6 : IntKind.i64.wrap (x1 * 131) = x1 * 131 := IntWalk.i64_in _ (by omega)
    have e7 : IntKind.i64.wrap (x2 * 1117) = x2 * 1117 := IntWalk.i64_in _ (by omega)
    have e8 : IntKind.i64.wrap (x1 * 131 + x2 * 1117) = x1 * 131 + x2 * 1117 := IntWalk.i64_in _ (by omega)
    have e9 : IntKind.i64.wrap ((p : Int) * 29) = (p : Int) * 29 := IntWalk.i64_in _ (by omega)
    have e10 : IntKind.i64.wrap (x1 * 131 + x2 * 1117 + (p : Int) * 29) = x1 * 131 + x2 * 1117 + (p : Int) * 29 := IntWalk.i64_in _ (by omega)
    have e11 : IntKind.i64.wrap ((d : Int) * 53) = (d : Int) * 53 := IntWalk.i64_in _ (by omega)
    obtain ⟨X, hX⟩ := Int.eq_ofNat_of_zero_le (show 0 ≤ x1 * 131 + x2 * 1117 + (p : Int) * 29 + (d : Int) * 53 by omega)
    have hXl : X < 4294967296 := by omega
    have e12 : IntKind.i64.wrap (x1 * 131 + x2 * 1117 + (p : Int) * 29 + (d : Int) * 53) = (X : Int) := by rw [← hX]; exact IntWalk.i64_in _ (by omega)
    obtain ⟨Y, hY⟩ : ∃ Y : Nat, Y = X ^^^ (X / 64) := ⟨_, rfl⟩
    have hxy := xor_i64_nat X (X / 64) hXl (Nat.lt_of_le_of_lt (Nat.div_le_self _ _) hXl)
    rw [← hY] at hxy
    have e15 : bits .xor .i64 (X : Int) ((X : Int) / 64) = (Y : Int) := by rw [← hxy.1]; simp
    have hYl : Y < 4294967296 := hxy.2
    have hXi : (X : Int) ≤ 4294967296 := by omega
    have hYi : (Y : Int) ≤ 4294967296 := by omega
    have e13 : IntKind.i64.wrap x1 = x1 := IntWalk.i64_in _ (by omega)
    have e14 : IntKind.i64.wrap x2 = x2 := IntWalk.i64_in _ (by omega)
    have y1 : (i1 : Int) < (L : Int) := by omega
    have y2 : (i2 : Int) < (L : Int) := by omega
    have y3 : (0 : Int) ≤ (i1 : Int) := by omega
    have y4 : (0 : Int) ≤ (i2 : Int) := by omega
    clear hL hi1 hi2 hd hpl hl1 h3 hX hY hxy
    go_enter Try.func67, Try.ntmps67
    go_wp2
    go_quiet (fail)
    clear e1 e2 e3 e4 e5 e6 e7 e8 e9 e10 e11 e12 e13 e14
    go_wp2
    go_ret
    exact ⟨(Y : Int) % n, rfl, Int.emod_nonneg _ (by omega), .inl (Int.emod_lt_of_pos _ (by omega)), HD.out.1.drewN nq, HD.out.2.trans ⟨rfl, rfl, rfl, Nat.le_refl _, fun _ _ _ => rfl⟩⟩

end Go.Proofs.Ytnojlapjkdihmaa

/-
  The generators of the laws: the contracts of one, of, and of those of bids, kinds and reserves.
-/
namespace Go.Proofs.Ytnojlapjkdihmaa
open Go.RowKit

theorem gb_new {w w1 w2 : World} {rb g : Nat} (h : w.grownBy w1 (some rb)) (h2 : w1.grownBy w2 (some g)) (hg : w.heap.size ≤ g) : w.grownBy w2 (some rb) :=
  ⟨h2.os.trans h.os, h2.tape.trans h.tape, h2.output.trans h.output, Nat.le_trans h.size h2.size, fun k hk hne =>
    (h2.block k (Nat.lt_of_lt_of_le hk h.size) (fun e => by have := Option.some.inj e; omega)).trans (h.block k hk hne)⟩
theorem gb_alloc {w w1 : World} {rb : Nat} (h : w.grownBy w1 (some rb)) (o : Obj) : w.grownBy (w1.alloc o) (some rb) := h.trans (World.grownBy_alloc w1 o (some rb))
theorem gb_drewN {w w1 : World} {rb : Nat} (h : w.grownBy w1 (some rb)) (n : Nat) : w.grownBy (w1.drewN n) (some rb) := h.trans ⟨rfl, rfl, rfl, Nat.le_refl _, fun _ _ _ => rfl⟩
theorem gb_set {w w1 : World} {rb g i : Nat} {v : Value} (h : w.grownBy w1 (some rb)) (hg : w.heap.size ≤ g) : w.grownBy (w1.setCell ⟨g, i, none⟩ v) (some rb) :=
  gb_new (g := g) h ⟨rfl, rfl, rfl, by simp, fun k _ hk => heap_setCell_other w1 ⟨g, i, none⟩ k v (fun e => hk (by simp [e]))⟩ hg
theorem gb_below {w w1 : World} {B rb : Nat} (h : w.grownBy w1 (some rb)) (hB : B ≤ w.heap.size) (hr : B ≤ rb) : Below B w w1 :=
  (Below.refl B w).grown h hB (fun k hk => by have := Option.some.inj hk; omega)

theorem Rdr.alloc {w : World} {rb k : Nat} (h : Rdr w rb k) (o : Obj) : Rdr (w.alloc o) rb k := h.keep (fun g hg => Below.heap_alloc w o g hg)
/-- A reader stays while a block behind it is written. -/
theorem Rdr.grown {w w' : World} {rb k g : Nat} (h : Rdr w rb k) (hg : w.grownBy w' (some g)) (hlt : rb < g) : Rdr w' rb k := by
  have hl := h.lt
  obtain ⟨A, c, p, xs, h1, h2, h3, h4, h5⟩ := h
  refine ⟨A, c, p, xs, (hg.block rb hl (fun e => by have := Option.some.inj e; omega)).trans h1, h2, h3, h4, ?_⟩
  rcases h5 with h5 | ⟨b, off, hA, hb, hc⟩
  · exact .inl h5
  · exact .inr ⟨b, off, hA, hb, fun j x hx => hg.cell (hc j x hx) (fun e => by have := Option.some.inj e; simp at this; omega)⟩
theorem Rdr.set_ {w : World} {rb k g i : Nat} {v : Value} (h : Rdr w rb k) (hlt : rb < g) : Rdr (w.setCell ⟨g, i, none⟩ v) rb k :=
  h.grown (g := g) ⟨rfl, rfl, rfl, by simp, fun k _ hk => heap_setCell_other w ⟨g, i, none⟩ k v (fun e => hk (by simp [e]))⟩ hlt

/-- What one hands back: one of the numbers. -/
def OneIs (w : World) (rb k : Nat) (zs : List Int) (e : Ending) (w' : World) : Prop :=
  ∃ x, x ∈ zs ∧ e = .returned (.int .i64 x) ∧ Rdr w' rb (k + 1) ∧ w.grownBy w' (some rb)

theorem one_any (rb k g c n B : Nat) (zs : List Int) (w : World) (hn : zs.length = n) (h : Rdr w rb k) (ho : Own w B (some ⟨g, 0, none⟩) c zs) (hg : g ≠ rb) (hn1 : 1 ≤ n) (hn2 : n ≤ 1048576) (hk : k ≤ 1000000) :
    Calls Try.prog 66 #[.pointer (some ⟨rb, 0, none⟩), .slice (some ⟨g, 0, none⟩) n c] w (OneIs w rb k zs) := by
  have HN := Lib.hid hn
  clear hn
  go_enter Try.func66, Try.ntmps66
  go_wp2_with fail
  refine (pick_any rb k n w h hk (by omega) (by omega)).mono ?_
  rintro e w1 ⟨m, rfl, hm0, hm1, hr, hgr⟩
  obtain ⟨j, rfl⟩ := Int.eq_ofNat_of_zero_le hm0
  have hj : j < n := by omega
  obtain ⟨x, hx⟩ := at_some (xs := zs) (k := j) (by rw [HN.out]; exact hj)
  have ho1 := ho.kept_ (A2 := some ⟨rb, 0, none⟩) hgr (.inr (fun e => hg (Option.some.inj e)))
  have hc := ho1.cell hx
  have HX := Lib.hid (List.mem_of_getElem? hx)
  clear hx hm1 ho1
  go_wp2
  go_ret
  exact ⟨x, HX.out, rfl, hr, hgr⟩

/-- What of hands back: one of the words. -/
def OfIs (w : World) (rb k : Nat) (ss : List ByteArray) (e : Ending) (w' : World) : Prop :=
  ∃ s, s ∈ ss ∧ e = .returned (.string s) ∧ Rdr w' rb (k + 1) ∧ w.grownBy w' (some rb)

theorem of_any (rb k g c n : Nat) (ss : List ByteArray) (w : World) (hn : ss.length = n) (h : Rdr w rb k) (hc : ∀ j s, ss[j]? = some s → w.cell? ⟨g, j, none⟩ = some (.string s)) (hg : g ≠ rb) (hn1 : 1 ≤ n) (hn2 : n ≤ 1048576) (hk : k ≤ 1000000) :
    Calls Try.prog 202 #[.pointer (some ⟨rb, 0, none⟩), .slice (some ⟨g, 0, none⟩) n c] w (OfIs w rb k ss) := by
  have HN := Lib.hid hn
  have HC := Lib.hid hc
  clear hn hc
  go_enter Try.func202, Try.ntmps202
  go_wp2_with fail
  refine (pick_any rb k n w h hk (by omega) (by omega)).mono ?_
  rintro e w1 ⟨m, rfl, hm0, hm1, hr, hgr⟩
  obtain ⟨j, rfl⟩ := Int.eq_ofNat_of_zero_le hm0
  have hj : j < n := by omega
  obtain ⟨s, hs⟩ : ∃ s, ss[j]? = some s := ⟨_, List.getElem?_eq_getElem (by rw [HN.out]; exact hj)⟩
  have hcell : w1.cell? ⟨g, j, none⟩ = some (.string s) := hgr.cell (HC.out j s hs) (fun e => hg (Option.some.inj e))
  have HX := Lib.hid (List.mem_of_getElem? hs)
  clear hs hm1
  go_wp2
  go_ret
  exact ⟨s, HX.out, rfl, hr, hgr⟩

theorem newReader_any (A : Option Addr) (c : Nat) (xs : List Int) (w : World) (h : Came .u8 w A c xs) :
    Calls Try.prog 61 #[.slice A xs.length c] w fun e w' => ∃ rb, e = .returned (.pointer (some ⟨rb, 0, none⟩)) ∧ w.heap.size ≤ rb ∧ Rdr w' rb 0 ∧ Below w.heap.size w w' := by
  obtain ⟨hc1, hc2, hwf, hcell⟩ := h
  have hb : ∀ x ∈ xs, 0 ≤ x ∧ x ≤ 255 := by
    intro x hx
    have := hwf x hx
    simp only [Lit.wf, Bool.and_eq_true, decide_eq_true_eq] at this
    have h1 : IntKind.u8.min = 0 := rfl
    have h2 : IntKind.u8.max = 255 := rfl
    omega
  have hread : xs = [] ∨ ∃ b off, A = some ⟨b, off, none⟩ ∧ b < w.heap.size ∧ ∀ j x, xs[j]? = some x → w.cell? ⟨b, off + j, none⟩ = some (.int .u8 x) := by
    rcases hcell with ⟨h, _⟩ | ⟨b, off, hA, hc⟩
    · exact .inl h
    · rcases xs with _ | ⟨x0, xt⟩
      · exact .inl rfl
      · refine .inr ⟨b, off, hA, World.block_lt_of_cell? w _ (hc 0 (by simp)), fun j x hx => ?_⟩
        rw [hc j (List.getElem?_eq_some_iff.1 hx).1, hx]; rfl
  have HB := Lib.hid hb
  have HR := Lib.hid hread
  unfold maxLen at hc2
  clear hwf hcell hb hread
  have fin : ∀ (c' : Nat) (n : Nat), n ≤ 2000 → n ≤ xs.length → Rdr (w.alloc (.cells #[.slice A n c', .int .i64 0] 104)) w.heap.size 0 := by
    intro c' n hn hnx
    have hl : (xs.take n).length = n := by simp; omega
    refine ⟨A, c', 0, xs.take n, by rw [hl]; exact heap_alloc_new w _, Nat.le_refl _, by omega, fun x hx => HB.out x (List.mem_of_mem_take hx), ?_⟩
    rcases HR.out with h | ⟨b, off, hA, hbl, hc⟩
    · exact .inl (by rw [h]; simp)
    · refine .inr ⟨b, off, hA, hbl, fun j x hx => ?_⟩
      have hj : j < n := by have := (List.getElem?_eq_some_iff.1 hx).1; omega
      rw [List.getElem?_take_of_lt hj] at hx
      exact (World.cell?_alloc_lt w _ ⟨b, off + j, none⟩ hbl).trans (hc j x hx)
  have HF := Lib.hid fin
  clear fin
  by_cases hl : 2000 < xs.length
  · have hlc : 2000 ≤ c := by omega
    go_enter Try.func61, Try.ntmps61
    go_wp2
    go_ret
    exact ⟨_, rfl, Nat.le_refl _, HF.out c 2000 (by omega) (by omega), (Below.refl _ _).alloc (Nat.le_refl _) _⟩
  · go_enter Try.func61, Try.ntmps61
    go_wp2
    go_ret
    exact ⟨_, rfl, Nat.le_refl _, HF.out c xs.length (by omega) (by omega), (Below.refl _ _).alloc (Nat.le_refl _) _⟩

theorem lit_str (w : World) (ss : List ByteArray) (j : Nat) (s : ByteArray) (h : ss[j]? = some s) :
    (w.alloc (.cells (ss.map Value.string).toArray 9)).cell? ⟨w.heap.size, j, none⟩ = some (.string s) := by
  rw [cell_of_row _ w.heap.size j _ _ _ (heap_alloc_new w _)]
  simp [h]

/-- A word, a reader that has been asked, and what else was there. -/
def WordIs (w : World) (rb k : Nat) (e : Ending) (w' : World) : Prop := ∃ s : ByteArray, e = .returned (.string s) ∧ s.size ≤ 1048576 ∧ Rdr w' rb k ∧ w.grownBy w' (some rb)
def NumIs (w : World) (rb k : Nat) (e : Ending) (w' : World) : Prop := ∃ x : Int, e = .returned (.int .i64 x) ∧ -2147483648 ≤ x ∧ x ≤ 2147483647 ∧ Rdr w' rb k ∧ w.grownBy w' (some rb)
def BidsIs (w : World) (rb k N : Nat) (e : Ending) (w' : World) : Prop :=
  ∃ g c ys, e = .returned (.slice (some ⟨g, 0, none⟩) ys.length c) ∧ Own w' w.heap.size (some ⟨g, 0, none⟩) c ys ∧ ys.length ≤ N ∧ Rdr w' rb k ∧ w.grownBy w' (some rb)

def lenOf : Value → Nat
  | .slice _ n _ => n
  | _ => 0

end Go.Proofs.Ytnojlapjkdihmaa

/-
  Rows of numbers that are drawn: one more, one in place of another.
-/
namespace Go.Proofs.Ytnojlapjkdihmaa
open Go.RowKit

theorem RowsU.more {w w1 : World} {B : Nat} {v v' : Value} {ps : List (Nat × Nat × List Int)} {p : Nat × Nat × List Int} {tmp : Obj} (h : RowsU w B v ps) (ho : Own w B (some ⟨p.1, 0, none⟩) p.2.1 p.2.2) (hn : p.1 ∉ ps.map (·.1))
    (hown : w1.ownsRow B 24 1 v' (ps.length + 1) (ps.map slU ++ [slU p])) (hg : (w.alloc tmp).grownBy w1 v.ownBlock) : RowsU w1 B v' (ps ++ [p]) := by
  have hk : ∀ q : Nat × Nat × List Int, Own w B (some ⟨q.1, 0, none⟩) q.2.1 q.2.2 → Own w1 B (some ⟨q.1, 0, none⟩) q.2.1 q.2.2 := by
    intro q hq
    have h1 := World.ownsRow.kept (show (w.alloc tmp).ownsRow B 3 1 _ _ _ from hq.below ((Below.refl _ w).alloc (Nat.le_refl _) tmp)) hg (.inr (by
      have := rowU_apart h.row hq
      simp only [Value.ownBlock]
      exact fun e => this e.symm))
    exact h1
  refine ⟨by simpa using hown, ?_, ?_⟩
  · intro q hq
    rcases List.mem_append.1 hq with hq | hq
    · exact hk q (h.each q hq)
    · obtain rfl : q = p := by simpa using hq
      exact hk q ho
  · rw [List.map_append, List.nodup_append]
    refine ⟨h.nodup, by simp, ?_⟩
    intro a ha b hb hab
    simp at hb
    subst hb hab
    exact hn ha
/-- The first row another. -/
theorem RowsU.put {w : World} {B g c : Nat} {p q : Nat × Nat × List Int} {rs : List (Nat × Nat × List Int)} (h : RowsU w B (.slice (some ⟨g, 0, none⟩) (p :: rs).length c) (p :: rs)) (ho : Own w B (some ⟨q.1, 0, none⟩) q.2.1 q.2.2) (hn : q.1 ∉ (p :: rs).map (·.1)) :
    RowsU (w.setCell ⟨g, 0, none⟩ (slU q)) B (.slice (some ⟨g, 0, none⟩) (p :: rs).length c) (q :: rs) := by
  have hst := World.ownsRow.stored h.row 0 (slU q)
  have hap : ∀ r : Nat × Nat × List Int, Own w B (some ⟨r.1, 0, none⟩) r.2.1 r.2.2 → Own (w.setCell ⟨g, 0, none⟩ (slU q)) B (some ⟨r.1, 0, none⟩) r.2.1 r.2.2 := fun r hr => by
    have := rowU_apart h.row hr
    exact hr.kept_ (A2 := some ⟨g, 0, none⟩) hst.2 (.inr (fun e => this e.symm))
  refine ⟨by simpa using hst.1, fun r hr => ?_, ?_⟩
  · rcases List.mem_cons.1 hr with rfl | hr
    · exact hap _ ho
    · exact hap _ (h.each r (by simp [hr]))
  · have h1 := h.nodup
    rw [List.map_cons, List.nodup_cons] at h1 ⊢
    exact ⟨fun hm => hn (by rw [List.map_cons]; exact List.mem_cons_of_mem _ hm), h1.2⟩
theorem RowsU.ask {w w' : World} {rb B : Nat} {v : Value} {ps : List (Nat × Nat × List Int)} (h : RowsU w B v ps) (hg : w.grownBy w' (some rb)) (hB : rb < B) : RowsU w' B v ps :=
  h.kept hg (fun e => by have := (World.ownsRow.lt h.row rb e).1; omega) (fun p hp e => by have := (h.each p hp).ge; omega)
theorem RowsU.notIn {w w0 : World} {B B' g c : Nat} {v : Value} {zs : List Int} {ps : List (Nat × Nat × List Int)} (h : RowsU w0 B v ps) (hs : w0.heap.size ≤ B') (ho : Own w B' (some ⟨g, 0, none⟩) c zs) : g ∉ ps.map (·.1) := by
  intro hg
  obtain ⟨p, hp, rfl⟩ := List.mem_map.1 hg
  have h1 := (h.each p hp).lt
  have h2 := ho.ge
  omega
theorem RowsU.one {w : World} {B : Nat} {v : Value} {ps : List (Nat × Nat × List Int)} (h : RowsU w B v ps) (hp : 1 ≤ ps.length) : ∃ g c, v = .slice (some ⟨g, 0, none⟩) ps.length c := by
  rcases h.shape with ⟨rfl, _⟩ | ⟨g, c, hv, _⟩
  · simp at hp
  · exact ⟨g, c, hv⟩

theorem rowr_empty (w : World) : (w.alloc (.cells #[] 24)).ownsRow w.heap.size 24 1 (.slice (some ⟨w.heap.size, 0, none⟩) 0 0) 0 [] := World.ownsRow_lit w #[] 0 (Nat.le_refl _) (Nat.zero_le _) rfl
theorem rowsU_empty (w : World) : RowsU (w.alloc (.cells #[] 24)) w.heap.size (.slice (some ⟨w.heap.size, 0, none⟩) 0 0) [] := ⟨rowr_empty w, fun _ h => absurd h (by simp), by simp⟩

theorem Own.alloc_ {w : World} {B : Nat} {A : Option Addr} {c : Nat} {xs : List Int} (h : Own w B A c xs) (o : Obj) : Own (w.alloc o) B A c xs := World.ownsRow.alloc h o

end Go.Proofs.Ytnojlapjkdihmaa
