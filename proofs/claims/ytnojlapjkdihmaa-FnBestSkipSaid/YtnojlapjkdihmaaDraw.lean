/-
  The generators of the laws: the contracts of the reader.
-/
import Derived.Test.YtnojlapjkdihmaaG07
namespace Go.Proofs.Ytnojlapjkdihmaa
open Go.RowKit

/-- A reader lies in block rb; it has been asked at most k times. -/
def Rdr (w : World) (rb k : Nat) : Prop :=
  ∃ (A : Option Addr) (c p : Nat) (xs : List Int), w.heap[rb]? = some (.cells #[.slice A xs.length c, .int .i64 (p : Int)] 104 (0, 0)) ∧ p ≤ k ∧ xs.length ≤ 2000 ∧ (∀ x ∈ xs, 0 ≤ x ∧ x ≤ 255) ∧
    (xs = [] ∨ ∃ b off, A = some ⟨b, off, none⟩ ∧ b < rb ∧ ∀ j x, xs[j]? = some x → w.cell? ⟨b, off + j, none⟩ = some (.int .u8 x))

theorem Rdr.more {w : World} {rb k k' : Nat} (h : Rdr w rb k) (hk : k ≤ k') : Rdr w rb k' := by
  obtain ⟨A, c, p, xs, h1, h2, h3⟩ := h
  exact ⟨A, c, p, xs, h1, Nat.le_trans h2 hk, h3⟩
theorem Rdr.lt {w : World} {rb k : Nat} (h : Rdr w rb k) : rb < w.heap.size := by
  obtain ⟨A, c, p, xs, h1, _⟩ := h
  exact lt_of_block h1
theorem Rdr.keep {w w' : World} {rb k : Nat} (h : Rdr w rb k) (hw : ∀ g, g < w.heap.size → w'.heap[g]? = w.heap[g]?) : Rdr w' rb k := by
  have hl := h.lt
  obtain ⟨A, c, p, xs, h1, h2, h3, h4, h5⟩ := h
  refine ⟨A, c, p, xs, (hw rb hl).trans h1, h2, h3, h4, ?_⟩
  rcases h5 with h5 | ⟨b, off, hA, hb, hc⟩
  · exact .inl h5
  · exact .inr ⟨b, off, hA, hb, fun j x hx => by
      have h6 := hc j x hx
      exact (World.cell?_of_block (hw b (World.block_lt_of_cell? w _ h6))).trans h6⟩
theorem Rdr.below {w w' : World} {rb k : Nat} (h : Rdr w rb k) (hb : Below w.heap.size w w') : Rdr w' rb k := h.keep hb.block
theorem Rdr.drewN {w : World} {rb k : Nat} (h : Rdr w rb k) (n : Nat) : Rdr (w.drewN n) rb k := h

theorem xor_i64_nat (a b : Nat) (ha : a < 4294967296) (hb : b < 4294967296) : bits .xor .i64 (a : Int) (b : Int) = ((a ^^^ b : Nat) : Int) ∧ a ^^^ b < 4294967296 := by
  have hx : a ^^^ b < 2 ^ 32 := Nat.xor_lt_two_pow (by omega) (by omega)
  have h1 : (BitVec.ofInt 64 (a : Int)).toNat = a := by
    rw [BitVec.ofInt_natCast, BitVec.toNat_ofNat]; exact Nat.mod_eq_of_lt (by omega)
  have h2 : (BitVec.ofInt 64 (b : Int)).toNat = b := by
    rw [BitVec.ofInt_natCast, BitVec.toNat_ofNat]; exact Nat.mod_eq_of_lt (by omega)
  refine ⟨?_, by omega⟩
  show IntKind.i64.wrap ((BitVec.ofInt 64 (a : Int) ^^^ BitVec.ofInt 64 (b : Int)).toNat : Int) = _
  rw [BitVec.toNat_xor, h1, h2, IntKind.wrap_i64]
  omega

/-- What pick hands back. -/
def PickIs (w : World) (rb k : Nat) (n : Int) (e : Ending) (w' : World) : Prop :=
  ∃ m : Int, e = .returned (.int .i64 m) ∧ 0 ≤ m ∧ (m < n ∨ m = 0) ∧ Rdr w' rb (k + 1) ∧ w.grownBy w' (some rb)

theorem Rdr.asked {w : World} {rb p c : Nat} {A : Option Addr} {xs : List Int} {k : Nat} (h1 : w.heap[rb]? = some (.cells #[.slice A xs.length c, .int .i64 (p : Int)] 104 (0, 0))) (h2 : p ≤ k) (h3 : xs.length ≤ 2000) (h4 : ∀ x ∈ xs, 0 ≤ x ∧ x ≤ 255)
    (h5 : xs = [] ∨ ∃ b off, A = some ⟨b, off, none⟩ ∧ b < rb ∧ ∀ j x, xs[j]? = some x → w.cell? ⟨b, off + j, none⟩ = some (.int .u8 x)) :
    Rdr (w.setCell ⟨rb, 1, none⟩ (.int .i64 ((p : Int) + 1))) rb (k + 1) ∧ w.grownBy (w.setCell ⟨rb, 1, none⟩ (.int .i64 ((p : Int) + 1))) (some rb) := by
  refine ⟨⟨A, c, p + 1, xs, ?_, by omega, h3, h4, ?_⟩, ⟨rfl, rfl, rfl, by simp, fun g hg hne => ?_⟩⟩
  · have := heap_setCell_same w rb 1 _ _ (.int .i64 ((p : Int) + 1)) h1
    rw [this]; simp
  · rcases h5 with h5 | ⟨b, off, hA, hb, hc⟩
    · exact .inl h5
    · exact .inr ⟨b, off, hA, hb, fun j x hx => by
        rw [World.cell?_setCell_other w ⟨rb, 1, none⟩ ⟨b, off + j, none⟩ _ (fun e => by injection e with e1; omega)]
        exact hc j x hx⟩
  · exact heap_setCell_other w ⟨rb, 1, none⟩ g _ (fun e => hne (by simp [e]))

set_option maxRecDepth 100000 in
set_option maxHeartbeats 2000000 in
theorem pick_any (rb k : Nat) (n : Int) (w : World) (h : Rdr w rb k) (hk : k ≤ 1000000) (hn0 : -2147483648 ≤ n) (hn : n ≤ 2147483647) :
    Calls Try.prog 67 #[.pointer (some ⟨rb, 0, none⟩), .int .i64 n] w (PickIs w rb k n) := by
  obtain ⟨A, c, p, xs, h1, h2, h3, h4, h5⟩ := h
  have HD := Lib.hid (Rdr.asked h1 h2 h3 h4 h5)
  have c0 : w.cell? ⟨rb, 0, none⟩ = some (.slice A xs.length c) := by simp [World.cell?, h1]
  have c1 : w.cell? ⟨rb, 1, none⟩ = some (.int .i64 (p : Int)) := by simp [World.cell?, h1]
  have f1 : w.frozen? ⟨rb, 1, none⟩ = false := by simp [World.frozen?, h1]
  have hp : (p : Int) ≤ 1000000 := by omega
  clear h1
  by_cases hn1 : n < 1
  · go_enter Try.func67, Try.ntmps67
    go_wp2
    go_ret
    exact ⟨0, rfl, by decide, .inr rfl, HD.out.1, HD.out.2⟩
  by_cases hl : xs.length = 0
  · have hl0 : ((xs.length : Int) == 0) = true := by simp [hl]
    clear hl
    go_enter Try.func67, Try.ntmps67
    go_wp2
    go_ret
    exact ⟨0, rfl, by decide, .inr rfl, HD.out.1, HD.out.2⟩
  have hl1 : 1 ≤ xs.length := by omega
  have hl0 : ((xs.length : Int) == 0) = false := beq_eq_false_iff_ne.2 (by omega)
  obtain ⟨b, off, rfl, hbr, hcell⟩ : ∃ b off, A = some ⟨b, off, none⟩ ∧ b < rb ∧ ∀ j x, xs[j]? = some x → w.cell? ⟨b, off + j, none⟩ = some (.int .u8 x) := by
    rcases h5 with h5 | h5
    · subst h5; simp at hl1
    · exact h5
  have HC := Lib.hid hcell
  have H4 := Lib.hid h4
  have hnp : 0 < n := by omega
  clear hcell h4 h5 hl hn1
  by_cases hpl : p < xs.length
  · obtain ⟨x, hx⟩ := at_some hpl
    have hc := HC.out p x hx
    have hxb := H4.out x (List.mem_of_getElem? hx)
    have hx0 := hxb.1
    have hx1 := hxb.2
    clear hx hxb
    go_enter Try.func67, Try.ntmps67
    go_wp2
    go_ret
    exact ⟨x % n, rfl, Int.emod_nonneg _ (by omega), .inl (Int.emod_lt_of_pos _ (by omega)), HD.out.1, HD.out.2⟩
  · obtain ⟨L, hL⟩ : ∃ L, L = xs.length := ⟨_, rfl⟩
    have hL1 : 1 ≤ L := by omega
    have hL2 : L ≤ 2000 := by omega
    have hpl' : L ≤ p := by omega
    obtain ⟨i1, hi1⟩ : ∃ i1, i1 = p % L := ⟨_, rfl⟩
    obtain ⟨i2, hi2⟩ : ∃ i2, i2 = (p * 7 + 3) % L := ⟨_, rfl⟩
    obtain ⟨d, hd⟩ : ∃ d, d = p / L := ⟨_, rfl⟩
    have hi1l : i1 < L := by rw [hi1]; exact Nat.mod_lt _ (by omega)
    have hi2l : i2 < L := by rw [hi2]; exact Nat.mod_lt _ (by omega)
    have hdl : d ≤ p := by rw [hd]; exact Nat.div_le_self _ _
    obtain ⟨x1, hx1⟩ := at_some (xs := xs) (k := i1) (by omega)
    obtain ⟨x2, hx2⟩ := at_some (xs := xs) (k := i2) (by omega)
    have hb1 := H4.out x1 (List.mem_of_getElem? hx1)
    have hb2 := H4.out x2 (List.mem_of_getElem? hx2)
    have g1 : (w.setCell ⟨rb, 1, none⟩ (.int .i64 ((p : Int) + 1))).cell? ⟨b, off + i1, none⟩ = some (.int .u8 x1) := by
      rw [World.cell?_setCell_other w ⟨rb, 1, none⟩ ⟨b, off + i1, none⟩ _ (fun e => by injection e with e1; omega)]
      exact HC.out i1 x1 hx1
    have g2 : (w.setCell ⟨rb, 1, none⟩ (.int .i64 ((p : Int) + 1))).cell? ⟨b, off + i2, none⟩ = some (.int .u8 x2) := by
      rw [World.cell?_setCell_other w ⟨rb, 1, none⟩ ⟨b, off + i2, none⟩ _ (fun e => by injection e with e1; omega)]
      exact HC.out i2 x2 hx2
    clear hx1 hx2
    rw [← hL] at c0 hl0
    have hz : ¬ (L : Int) = 0 := by omega
    have z0 : (0 : Int) ≤ (p : Int) := by omega
    have z1 : (L : Int) ≤ (p : Int) := by omega
    obtain ⟨h10, h11⟩ := hb1
    obtain ⟨h20, h21⟩ := hb2
    have e1 : (p : Int).tmod (L : Int) = (i1 : Int) := by rw [Int.tmod_eq_emod_of_nonneg z0, hi1]; exact (Int.natCast_emod p L).symm
    have e2 : IntKind.i64.wrap ((p : Int) * 7) = (p : Int) * 7 := IntWalk.i64_in _ (by omega)
    have e3 : IntKind.i64.wrap ((p : Int) * 7 + 3) = (p : Int) * 7 + 3 := IntWalk.i64_in _ (by omega)
    have e4 : ((p : Int) * 7 + 3).tmod (L : Int) = (i2 : Int) := by
      rw [Int.tmod_eq_emod_of_nonneg (by omega), hi2, Int.natCast_emod]; simp
    have e5 : (p : Int).tdiv (L : Int) = (d : Int) := by rw [Int.tdiv_eq_ediv_of_nonneg z0, hd]; exact (Int.natCast_ediv p L).symm
    have e6 : IntKind.i64.wrap (x1 * 131) = x1 * 131 := IntWalk.i64_in _ (by omega)
    have e7 : IntKind.i64.wrap (x2 * 1117) = x2 * 1117 := IntWalk.i64_in _ (by omega)
    have e8 : IntKind.i64.wrap (x1 * 131 + x2 * 1117) = x1 * 131 + x2 * 1117 := IntWalk.i64_in _ (by omega)
    have e9 : IntKind.i64.wrap ((p : Int) * 29) = (p : Int) * 29 := IntWalk.i64_in _ (by omega)
    have e10 : IntKind.i64.wrap (x1 * 131 + x2 * 1117 + (p : Int) * 29) = x1 * 131 + x2 * 1117 + (p : Int) * 29 := IntWalk.i64_in _ (by omega)
    have e11 : IntKind.i64.wrap ((d : Int) * 53) = (d : Int) * 53 := IntWalk.i64_in _ (by omega)
    obtain ⟨X, hX⟩ := Int.eq_ofNat_of_zero_le (show 0 ≤ x1 * 131 + x2 * 1117 + (p : Int) * 29 + (d : Int) * 53 by omega)
    have hXl : X < 4294967296 := by omega
    have e12 : IntKind.i64.wrap (x1 * 131 + x2 * 1117 + (p : Int) * 29 + (d : Int) * 53) = (X : Int) := by rw [← hX]; exact IntWalk.i64_in _ (by omega)
    obtain ⟨Y, hY⟩ : ∃ Y : Nat, Y = X ^^^ (X / 64) := ⟨_, rfl⟩
    have hxy := xor_i64_nat X (X / 64) hXl (Nat.lt_of_le_of_lt (Nat.div_le_self _ _) hXl)
    rw [← hY] at hxy
    have e15 : bits .xor .i64 (X : Int) ((X : Int) / 64) = (Y : Int) := by rw [← hxy.1]; simp
    have hYl : Y < 4294967296 := hxy.2
    have hXi : (X : Int) ≤ 4294967296 := by omega
    have hYi : (Y : Int) ≤ 4294967296 := by omega
    have e13 : IntKind.i64.wrap x1 = x1 := IntWalk.i64_in _ (by omega)
    have e14 : IntKind.i64.wrap x2 = x2 := IntWalk.i64_in _ (by omega)
    have y1 : (i1 : Int) < (L : Int) := by omega
    have y2 : (i2 : Int) < (L : Int) := by omega
    have y3 : (0 : Int) ≤ (i1 : Int) := by omega
    have y4 : (0 : Int) ≤ (i2 : Int) := by omega
    clear hL hi1 hi2 hd hpl hl1 h3 hX hY hxy
    go_enter Try.func67, Try.ntmps67
    go_wp2
    go_quiet (fail)
    clear e1 e2 e3 e4 e5 e6 e7 e8 e9 e10 e11 e12 e13 e14
    go_wp2
    go_ret
    exact ⟨(Y : Int) % n, rfl, Int.emod_nonneg _ (by omega), .inl (Int.emod_lt_of_pos _ (by omega)), HD.out.1.drewN nq, HD.out.2.trans ⟨rfl, rfl, rfl, Nat.le_refl _, fun _ _ _ => rfl⟩⟩

end Go.Proofs.Ytnojlapjkdihmaa
