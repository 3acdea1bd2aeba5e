/-
  Chapter 9, the program: LeastCore.
-/
import Derived.Test.YtpildecpabeanaaG18
import Derived.Test.YtpildecpabeanaaG19
import Derived.Test.YtpildecpabeanaaG28
import Derived.Test.YtpildecpabeanaaG04
namespace Go.Proofs.Ytpildecpabeanaa
open Go.RowKit

/-- What LeastCore hands back: payments that lie in a block of five cells, and their sum. -/
def LcIs (w : World) (ts : List (List Int)) (e : Ending) (w' : World) : Prop :=
  Below w.heap.size w w' ∧ (((VTs ts ∧ ts.length ≤ 3) ∧ ∃ M b, e = .returned (.tuple #[.slice (some ⟨M, 0, none⟩) ts.length 4, .int .i64 (sm4 b)]) ∧ Pm w' M (pmL b) ∧ w.heap.size ≤ M ∧ IsLC ts b) ∨
    (¬ (VTs ts ∧ ts.length ≤ 3) ∧ e = .returned (.tuple #[.slice none 0 0, .int .i64 (-1)])))

set_option maxRecDepth 100000 in
set_option maxHeartbeats 1000000 in
theorem LeastCore_any (A : Option Addr) (c : Nat) (ts : List (List Int)) (w : World) (h : RdR w A c ts) (hl2 : ∀ r ∈ ts, r.length ≤ 1099511627776) :
    Calls Try.prog 33 #[.slice A ts.length c] w (LcIs w ts) := by
  have HC := Lib.hid (areTables_any A c ts w h hl2)
  rcases hb : vtsB ts with _ | _
  · have HE : Hid (¬ (VTs ts ∧ ts.length ≤ 3)) := Lib.hid (fun h => by rw [vtsB_true h.1] at hb; cases hb)
    rw [hb] at HC
    clear hb
    go_enter Try.func33, Try.ntmps33
    go_wp2_with (go_at_call 77; refine HC.out.mono ?_; rintro e w1 ⟨rfl, hb⟩)
    go_ret2
    exact ⟨hb, .inr ⟨HE.out, rfl⟩⟩
  · rw [hb] at HC
    have hv := vtsB_iff.1 hb
    clear hb
    by_cases h3 : ts.length ≤ 3
    · have h4 := hv.1.2
      have HYES := Lib.hid (And.intro hv h3)
      have HCO := Lib.hid (fun (w1 : World) (hb : Below w.heap.size w w1) => coreOf_yes A c ts.length ts w1 rfl (h.below hb) hl2 hv)
      have HSU := Lib.hid (owL_sum h4)
      have HLP := Lib.hid (fun (g : Nat) (w1 : World) (h1 : Rd w1 (some ⟨g, 0, none⟩) (2 ^ ts.length) (leL ts)) => leastPayments_any (at0 (owL ts)) (some ⟨g, 0, none⟩) (2 ^ ts.length) (2 ^ ts.length) (leL ts) w1 h1 (leL_len ts) (pow_len h4).2 (owO30 hv.2) (own_core hv.2 h4))
      have HLC := Lib.hid (fun (b : Nat → Int) (h1 : InO (at0 (owL ts)) b) (h2 : HasP (at0 (owL ts)) b (leL ts) (2 ^ ts.length)) (h3 : ∀ q, InO (at0 (owL ts)) q → HasP (at0 (owL ts)) q (leL ts) (2 ^ ts.length) → MF b ≤ MF q) => least_lc h4 h1 h2 h3)
      rw [← HSU.out] at HLP
      have hn3 : decide (3 < (ts.length : Int)) = false := by simp; omega
      have hn0 : (0 : Int) ≤ (ts.length : Int) := by omega
      have hn4 : (ts.length : Int) ≤ 4 := by omega
      clear hv HSU
      go_enter Try.func33, Try.ntmps33
      go_wp2_with fail
      refine HC.out.mono ?_
      rintro e w1 ⟨rfl, b1⟩
      have HB1 := Lib.hid b1
      clear b1
      go_wp2_with fail
      refine (HCO.out w1 HB1.out).mono ?_
      rintro e w2 ⟨g, rfl, o2, b2⟩
      have HR2 := Lib.hid o2.rd
      have HB2 := Lib.hid (HB1.out.trans (b2.mono HB1.out.size))
      clear o2 b2
      go_wp2_with fail
      refine (HLP.out g w2 HR2.out).mono ?_
      rintro e w3 ⟨⟨b, rfl, i1, i2, i3⟩, b3⟩
      have HB3 := Lib.hid (HB2.out.trans (b3.mono HB2.out.size))
      have HL := Lib.hid (HLC.out b i1 i2 i3)
      clear i1 i2 i3 b3 HLC
      unfold pmV
      have HPM : Hid (Pm (w3.alloc (.cells #[.int .i64 (b 0), .int .i64 (b 1), .int .i64 (b 2), .int .i64 (b 3), .int .i64 (sm4 b)] 71)) w3.heap.size (pmL b)) := Lib.hid (Pm.new w3 (pmL b) rfl)
      have HBA := Lib.hid (HB3.out.alloc HB3.out.size (.cells #[.int .i64 (b 0), .int .i64 (b 1), .int .i64 (b 2), .int .i64 (b 3), .int .i64 (sm4 b)] 71))
      go_wp2_with fail
      obtain ⟨W4, hW4⟩ : ∃ W4, W4 = w3.alloc (.cells #[.int .i64 (b 0), .int .i64 (b 1), .int .i64 (b 2), .int .i64 (b 3), .int .i64 (sm4 b)] 71) := ⟨_, rfl⟩
      rw [← hW4] at HPM HBA ⊢
      clear hW4
      have c4 : W4.cell? ⟨w3.heap.size, 4, none⟩ = some (.int .i64 (sm4 b)) := HPM.out.all.2.2.2.2
      go_quiet (fail)
      go_wp2_with fail
      go_ret2
      exact ⟨below_drewN' HBA.out _, .inl ⟨HYES.out, w3.heap.size, b, rfl, HPM.out.keep rfl, HB3.out.size, HL.out⟩⟩
    · have HE : Hid (¬ (VTs ts ∧ ts.length ≤ 3)) := Lib.hid (fun h => h3 h.2)
      have hn3 : decide (3 < (ts.length : Int)) = true := by simp; omega
      clear hv h3
      go_enter Try.func33, Try.ntmps33
      go_wp2_with (go_at_call 77; refine HC.out.mono ?_; rintro e w1 ⟨rfl, hb⟩)
      go_ret2
      exact ⟨hb, .inr ⟨HE.out, rfl⟩⟩

end Go.Proofs.Ytpildecpabeanaa

/-
  Chapter 9: lists that are slices of payments: marked, held, kept; LeastCore of both sides.
-/
namespace Go.Proofs.Ytpildecpabeanaa
open Go.RowKit

/-- A slice that was there when the heap had the size N. -/
def OldRd (N : Nat) (w : World) (A : Option Addr) (c : Nat) (zs : List Int) : Prop := Rd w A c zs ∧ ∀ g, ofA A = some g → g < N
theorem OldRd.of {w : World} {A : Option Addr} {c : Nat} {zs : List Int} (h : Rd w A c zs) (hz : A = none ∨ 1 ≤ zs.length) : OldRd w.heap.size w A c zs := by
  refine ⟨h, fun g hg => ?_⟩
  rcases hz with rfl | hz
  · cases hg
  · obtain ⟨b, off, x, rfl, hb, _⟩ := h.at_ (k := 0) (by omega)
    have : b = g := by simpa [ofA] using hg
    omega
theorem OldRd.keepb {N : Nat} {w w' : World} {A : Option Addr} {c : Nat} {zs : List Int} (h : OldRd N w A c zs) (hb : ∀ g, g < N → w'.heap[g]? = w.heap[g]?) : OldRd N w' A c zs := by
  refine ⟨?_, h.2⟩
  rcases h.1 with h1 | ⟨b, off, rfl, hc⟩
  · exact .inl h1
  · refine .inr ⟨b, off, rfl, fun k hk => ?_⟩
    rw [← hc k hk]
    unfold World.cell?
    rw [hb b (h.2 b rfl)]
theorem OldRd.below {N : Nat} {w w' : World} {A : Option Addr} {c : Nat} {zs : List Int} (h : OldRd N w A c zs) (hN : N ≤ w.heap.size) (hb : Below w.heap.size w w') : OldRd N w' A c zs :=
  h.keepb (fun g hg => hb.block g (by omega))
theorem OldRd.drewN {N : Nat} {w : World} {A : Option Addr} {c : Nat} {zs : List Int} (h : OldRd N w A c zs) (n : Nat) : OldRd N (w.drewN n) A c zs := h

/-- A slice of the call's own, or payments of its own that are sliced. -/
def Own5 (w : World) (B : Nat) (A : Option Addr) (c : Nat) (zs : List Int) : Prop := Own w B A c zs ∨ ∃ M ys, A = some ⟨M, 0, none⟩ ∧ c = 4 ∧ zs.length ≤ 4 ∧ B ≤ M ∧ Pm w M (zs ++ ys)
theorem pm_rd {w : World} {M : Nat} {zs ys : List Int} (h : Pm w M (zs ++ ys)) (hl : zs.length ≤ 4) (c : Nat) : Rd w (some ⟨M, 0, none⟩) c zs := .inr ⟨M, 0, rfl, fun k hk => by
  rw [Nat.zero_add, h.cell (by omega)]
  simp [T, List.getD_eq_getElem?_getD, List.getElem?_append_left hk]⟩
theorem Own5.rd {w : World} {B : Nat} {A : Option Addr} {c : Nat} {zs : List Int} (h : Own5 w B A c zs) : Rd w A c zs := by
  rcases h with h | ⟨M, ys, rfl, rfl, hl, _, h⟩
  · exact h.rd
  · exact pm_rd h hl 4
theorem Own5.below {w w' : World} {B : Nat} {A : Option Addr} {c : Nat} {zs : List Int} (h : Own5 w B A c zs) (hb : Below w.heap.size w w') : Own5 w' B A c zs := by
  rcases h with h | ⟨M, ys, rfl, rfl, hl, hB, h⟩
  · exact .inl (h.below hb)
  · exact .inr ⟨M, ys, rfl, rfl, hl, hB, h.keep (hb.block _ h.lt)⟩
theorem Own5.drewN {w : World} {B : Nat} {A : Option Addr} {c : Nat} {zs : List Int} (h : Own5 w B A c zs) (n : Nat) : Own5 (w.drewN n) B A c zs := h
theorem Own5.blk {w : World} {B k : Nat} {A : Option Addr} {c : Nat} {xs : List Int} (h : Own5 w B A c xs) (hk : ofA A = some k) : B ≤ k ∧ k < w.heap.size := by
  rcases h with h | ⟨M, ys, rfl, rfl, _, hM, h⟩
  · exact own_blk h hk
  · obtain rfl : M = k := by simpa [ofA] using hk
    exact ⟨hM, h.lt⟩
theorem Own5.keepb {w w' : World} {B : Nat} {A : Option Addr} {c : Nat} {zs : List Int} (h : Own5 w B A c zs) (hb : ∀ g, ofA A = some g → w'.heap[g]? = w.heap[g]?) : Own5 w' B A c zs := by
  rcases h with h | ⟨M, ys, rfl, rfl, hl, hB, h⟩
  · exact .inl (own_keepb h hb)
  · exact .inr ⟨M, ys, rfl, rfl, hl, hB, h.keep (hb M rfl)⟩
theorem Own5.grownBelow {w w' wa : World} {B B0 : Nat} {A0 : Option Addr} {c0 : Nat} {xs : List Int} (hb : Below B0 wa w) (ho : Own5 w B A0 c0 xs) (hs : B0 ≤ B) (hw : B0 ≤ w.heap.size) (hg : w.grownBy w' (ofA A0)) : Below B0 wa w' :=
  hb.grown hg hw (fun _ hk => Nat.le_trans hs (ho.blk hk).1)
theorem OldRd.grown {N B : Nat} {w w' : World} {A A5 : Option Addr} {c c5 : Nat} {zs xs : List Int} (h : OldRd N w A c zs) (ho : Own5 w B A5 c5 xs) (hNB : N ≤ B) (hN : N ≤ w.heap.size) (hg : w.grownBy w' (ofA A5)) : OldRd N w' A c zs :=
  h.keepb (fun g hgN => hg.block g (by omega) (fun e => by have := (ho.blk (k := g) (by first | exact e | exact e.symm)).1; omega))

theorem at0_list {l : List Int} {b : Nat → Int} {n : Nat} (hn : n ≤ 4) (h : l = (pmL b).take n) : ∀ i, i < n → at0 l i = b i := by
  intro i hi
  subst h
  unfold at0
  rw [List.getD_eq_getElem?_getD, List.getElem?_take_of_lt hi]
  have : i = 0 ∨ i = 1 ∨ i = 2 ∨ i = 3 := by omega
  rcases this with rfl | rfl | rfl | rfl <;> rfl

theorem LeastCore_both (rows : List (List Int)) : ∃ (zs : List Int) (m : Int), zs.length ≤ 1000 ∧ (rows.length ≤ 1099511627776 → (∀ r ∈ rows, r.length ≤ 1099511627776) →
    (∀ A c w, RdR w A c rows → Calls Try.prog 34 #[.slice A rows.length c] w fun e w' => ∃ A c, e = .returned (.tuple #[.slice A zs.length c, .int .i64 m]) ∧ OldRd w'.heap.size w' A c zs ∧ Below w.heap.size w w') ∧
    (∀ A c w, RdR w A c rows → Calls Try.prog 33 #[.slice A rows.length c] w fun e w' => ∃ A c, e = .returned (.tuple #[.slice A zs.length c, .int .i64 m]) ∧ Own5 w' w.heap.size A c zs ∧ Below w.heap.size w w')) := by
  by_cases hv : VTs rows ∧ rows.length ≤ 3
  · have h4 : rows.length ≤ 4 := by omega
    have h1 := hv.1.1.1
    refine ⟨lcF rows, sm4 (at0 (lcF rows)), by rw [lcF_len hv.1.2 h4]; omega, fun hl hl2 => ⟨fun A c w h => (SLeastCore_any A c rows w h hl hl2).mono ?_, fun A c w h => (LeastCore_any A c rows w h hl2).mono ?_⟩⟩
    · rintro e w' ⟨hb, ⟨_, A', c', l, rfl, hr, hll, hlc⟩ | ⟨hn, _⟩⟩
      · have e := lc_eq hv.1.2 h4 hll hlc
        subst e
        exact ⟨A', c', rfl, OldRd.of hr (.inr (by omega)), hb⟩
      · exact absurd hv hn
    · rintro e w' ⟨hb, ⟨_, M, b, rfl, hpm, hM, hlc⟩ | ⟨hn, _⟩⟩
      · have hs := hlc.same hv.1.2 (lcF_is hv.1.2 h4)
        have hsum : sm4 b = sm4 (at0 (lcF rows)) := by
          unfold sm4
          rw [hs 0 (by omega), hs 1 (by omega), hs 2 (by omega), hs 3 (by omega)]; rfl
        have hlist : lcF rows = (pmL b).take rows.length := by
          apply List.ext_getElem?
          intro i
          rcases Nat.lt_or_ge i rows.length with h' | h'
          · have e1 : i < (lcF rows).length := by rw [lcF_len hv.1.2 h4]; exact h'
            have e2 := hs i (by omega)
            rw [List.getD_eq_getElem?_getD, List.getElem?_eq_getElem e1, Option.getD_some] at e2
            rw [List.getElem?_eq_getElem e1, List.getElem?_take_of_lt h', ← e2]
            have : i = 0 ∨ i = 1 ∨ i = 2 ∨ i = 3 := by omega
            rcases this with rfl | rfl | rfl | rfl <;> rfl
          · rw [List.getElem?_eq_none (by rw [lcF_len hv.1.2 h4]; exact h'), List.getElem?_eq_none (by rw [List.length_take]; omega)]
        refine ⟨_, 4, by rw [lcF_len hv.1.2 h4, hsum], .inr ⟨M, (pmL b).drop rows.length, rfl, rfl, by rw [lcF_len hv.1.2 h4]; omega, hM, ?_⟩, hb⟩
        rw [hlist, List.take_append_drop]; exact hpm
      · exact absurd hv hn
  · refine ⟨[], -1, by simp, fun hl hl2 => ⟨fun A c w h => (SLeastCore_any A c rows w h hl hl2).mono ?_, fun A c w h => (LeastCore_any A c rows w h hl2).mono ?_⟩⟩
    · rintro e w' ⟨hb, ⟨hy, _⟩ | ⟨_, rfl⟩⟩
      · exact absurd hy hv
      · exact ⟨none, 0, rfl, OldRd.of (Rd.nil _) (.inl rfl), hb⟩
    · rintro e w' ⟨hb, ⟨hy, _⟩ | ⟨_, rfl⟩⟩
      · exact absurd hy hv
      · exact ⟨none, 0, rfl, .inl (own_none _ _), hb⟩

end Go.Proofs.Ytpildecpabeanaa

/-
  The generators of the laws: the contracts of the reader.
-/
namespace Go.Proofs.Ytpildecpabeanaa
open Go.RowKit

/-- A reader lies in block rb; it has been asked at most k times. -/
def Rdr (w : World) (rb k : Nat) : Prop :=
  ∃ (A : Option Addr) (c p : Nat) (xs : List Int), w.heap[rb]? = some (.cells #[.slice A xs.length c, .int .i64 (p : Int)] 102 (0, 0)) ∧ p ≤ k ∧ xs.length ≤ 2000 ∧ (∀ x ∈ xs, 0 ≤ x ∧ x ≤ 255) ∧
    (xs = [] ∨ ∃ b off, A = some ⟨b, off, none⟩ ∧ b < rb ∧ ∀ j x, xs[j]? = some x → w.cell? ⟨b, off + j, none⟩ = some (.int .u8 x))

theorem Rdr.more {w : World} {rb k k' : Nat} (h : Rdr w rb k) (hk : k ≤ k') : Rdr w rb k' := by
  obtain ⟨A, c, p, xs, h1, h2, h3⟩ := h
  exact ⟨A, c, p, xs, h1, Nat.le_trans h2 hk, h3⟩
theorem Rdr.lt {w : World} {rb k : Nat} (h : Rdr w rb k) : rb < w.heap.size := by
  obtain ⟨A, c, p, xs, h1, _⟩ := h
  exact lt_of_block h1
theorem Rdr.keep {w w' : World} {rb k : Nat} (h : Rdr w rb k) (hw : ∀ g, g < w.heap.size → w'.heap[g]? = w.heap[g]?) : Rdr w' rb k := by
  have hl := h.lt
  obtain ⟨A, c, p, xs, h1, h2, h3, h4, h5⟩ := h
  refine ⟨A, c, p, xs, (hw rb hl).trans h1, h2, h3, h4, ?_⟩
  rcases h5 with h5 | ⟨b, off, hA, hb, hc⟩
  · exact .inl h5
  · exact .inr ⟨b, off, hA, hb, fun j x hx => by
      have h6 := hc j x hx
      exact (World.cell?_of_block (hw b (World.block_lt_of_cell? w _ h6))).trans h6⟩
theorem Rdr.below {w w' : World} {rb k : Nat} (h : Rdr w rb k) (hb : Below w.heap.size w w') : Rdr w' rb k := h.keep hb.block
theorem Rdr.drewN {w : World} {rb k : Nat} (h : Rdr w rb k) (n : Nat) : Rdr (w.drewN n) rb k := h

theorem xor_i64_nat (a b : Nat) (ha : a < 4294967296) (hb : b < 4294967296) : bits .xor .i64 (a : Int) (b : Int) = ((a ^^^ b : Nat) : Int) ∧ a ^^^ b < 4294967296 := by
  have hx : a ^^^ b < 2 ^ 32 := Nat.xor_lt_two_pow (by omega) (by omega)
  have h1 : (BitVec.ofInt 64 (a : Int)).toNat = a := by
    rw [BitVec.ofInt_natCast, BitVec.toNat_ofNat]; exact Nat.mod_eq_of_lt (by omega)
  have h2 : (BitVec.ofInt 64 (b : Int)).toNat = b := by
    rw [BitVec.ofInt_natCast, BitVec.toNat_ofNat]; exact Nat.mod_eq_of_lt (by omega)
  refine ⟨?_, by omega⟩
  show IntKind.i64.wrap ((BitVec.ofInt 64 (a : Int) ^^^ BitVec.ofInt 64 (b : Int)).toNat : Int) = _
  rw [BitVec.toNat_xor, h1, h2, IntKind.wrap_i64]
  omega

/-- What pick hands back. -/
def PickIs (w : World) (rb k : Nat) (n : Int) (e : Ending) (w' : World) : Prop :=
  ∃ m : Int, e = .returned (.int .i64 m) ∧ 0 ≤ m ∧ (m < n ∨ m = 0) ∧ Rdr w' rb (k + 1) ∧ w.grownBy w' (some rb)

theorem Rdr.asked {w : World} {rb p c : Nat} {A : Option Addr} {xs : List Int} {k : Nat} (h1 : w.heap[rb]? = some (.cells #[.slice A xs.length c, .int .i64 (p : Int)] 102 (0, 0))) (h2 : p ≤ k) (h3 : xs.length ≤ 2000) (h4 : ∀ x ∈ xs, 0 ≤ x ∧ x ≤ 255)
    (h5 : xs = [] ∨ ∃ b off, A = some ⟨b, off, none⟩ ∧ b < rb ∧ ∀ j x, xs[j]? = some x → w.cell? ⟨b, off + j, none⟩ = some (.int .u8 x)) :
    Rdr (w.setCell ⟨rb, 1, none⟩ (.int .i64 ((p : Int) + 1))) rb (k + 1) ∧ w.grownBy (w.setCell ⟨rb, 1, none⟩ (.int .i64 ((p : Int) + 1))) (some rb) := by
  refine ⟨⟨A, c, p + 1, xs, ?_, by omega, h3, h4, ?_⟩, ⟨rfl, rfl, rfl, by simp, fun g hg hne => ?_⟩⟩
  · have := heap_setCell_same w rb 1 _ _ (.int .i64 ((p : Int) + 1)) h1
    rw [this]; simp
  · rcases h5 with h5 | ⟨b, off, hA, hb, hc⟩
    · exact .inl h5
    · exact .inr ⟨b, off, hA, hb, fun j x hx => by
        rw [World.cell?_setCell_other w ⟨rb, 1, none⟩ ⟨b, off + j, none⟩ _ (fun e => by injection e with e1; omega)]
        exact hc j x hx⟩
  · exact heap_setCell_other w ⟨rb, 1, none⟩ g _ (fun e => hne (by simp [e]))

set_option maxRecDepth 100000 in
set_option maxHeartbeats 2000000 in
theorem pick_any (rb k : Nat) (n : Int) (w : World) (h : Rdr w rb k) (hk : k ≤ 1000000) (hn0 : -2147483648 ≤ n) (hn : n ≤ 2147483647) :
    Calls Try.prog 63 #[.pointer (some ⟨rb, 0, none⟩), .int .i64 n] w (PickIs w rb k n) := by
  obtain ⟨A, c, p, xs, h1, h2, h3, h4, h5⟩ := h
  have HD := Lib.hid (Rdr.asked h1 h2 h3 h4 h5)
  have c0 : w.cell? ⟨rb, 0, none⟩ = some (.slice A xs.length c) := by simp [World.cell?, h1]
  have c1 : w.cell? ⟨rb, 1, none⟩ = some (.int .i64 (p : Int)) := by simp [World.cell?, h1]
  have f1 : w.frozen? ⟨rb, 1, none⟩ = false := by simp [World.frozen?, h1]
  have hp : (p : Int) ≤ 1000000 := by omega
  clear h1
  by_cases hn1 : n < 1
  · go_enter Try.func63, Try.ntmps63
    go_wp2
    go_ret
    exact ⟨0, rfl, by decide, .inr rfl, HD.out.1, HD.out.2⟩
  by_cases hl : xs.length = 0
  · have hl0 : ((xs.length : Int) == 0) = true := by simp [hl]
    clear hl
    go_enter Try.func63, Try.ntmps63
    go_wp2
    go_ret
    exact ⟨0, rfl, by decide, .inr rfl, HD.out.1, HD.out.2⟩
  have hl1 : 1 ≤ xs.length := by omega
  have hl0 : ((xs.length : Int) == 0) = false := beq_eq_false_iff_ne.2 (by omega)
  obtain ⟨b, off, rfl, hbr, hcell⟩ : ∃ b off, A = some ⟨b, off, none⟩ ∧ b < rb ∧ ∀ j x, xs[j]? = some x → w.cell? ⟨b, off + j, none⟩ = some (.int .u8 x) := by
    rcases h5 with h5 | h5
    · subst h5; simp at hl1
    · exact h5
  have HC := Lib.hid hcell
  have H4 := Lib.hid h4
  have hnp : 0 < n := by omega
  clear hcell h4 h5 hl hn1
  by_cases hpl : p < xs.length
  · obtain ⟨x, hx⟩ := at_some hpl
    have hc := HC.out p x hx
    have hxb := H4.out x (List.mem_of_getElem? hx)
    have hx0 := hxb.1
    have hx1 := hxb.2
    clear hx hxb
    go_enter Try.func63, Try.ntmps63
    go_wp2
    go_ret
    exact ⟨x % n, rfl, Int.emod_nonneg _ (by omega), .inl (Int.emod_lt_of_pos _ (by omega)), HD.out.1, HD.out.2⟩
  · obtain ⟨L, hL⟩ : ∃ L, L = xs.length := ⟨_, rfl⟩
    have hL1 : 1 ≤ L := by omega
    have hL2 : L ≤ 2000 := by omega
    have hpl' : L ≤ p := by omega
    obtain ⟨i1, hi1⟩ : ∃ i1, i1 = p % L := ⟨_, rfl⟩
    obtain ⟨i2, hi2⟩ : ∃ i2, i2 = (p * 7 + 3) % L := ⟨_, rfl⟩
    obtain ⟨d, hd⟩ : ∃ d, d = p / L := ⟨_, rfl⟩
    have hi1l : i1 < L := by rw [hi1]; exact Nat.mod_lt _ (by omega)
    have hi2l : i2 < L := by rw [hi2]; exact Nat.mod_lt _ (by omega)
    have hdl : d ≤ p := by rw [hd]; exact Nat.div_le_self _ _
    obtain ⟨x1, hx1⟩ := at_some (xs := xs) (k := i1) (by omega)
    obtain ⟨x2, hx2⟩ := at_some (xs := xs) (k := i2) (by omega)
    have hb1 := H4.out x1 (List.mem_of_getElem? hx1)
    have hb2 := H4.out x2 (List.mem_of_getElem? hx2)
    have g1 : (w.setCell ⟨rb, 1, none⟩ (.int .i64 ((p : Int) + 1))).cell? ⟨b, off + i1, none⟩ = some (.int .u8 x1) := by
      rw [World.cell?_setCell_other w ⟨rb, 1, none⟩ ⟨b, off + i1, none⟩ _ (fun e => by injection e with e1; omega)]
      exact HC.out i1 x1 hx1
    have g2 : (w.setCell ⟨rb, 1, none⟩ (.int .i64 ((p : Int) + 1))).cell? ⟨b, off + i2, none⟩ = some (.int .u8 x2) := by
      rw [World.cell?_setCell_other w ⟨rb, 1, none⟩ ⟨b, off + i2, none⟩ _ (fun e => by injection e with e1; omega)]
      exact HC.out i2 x2 hx2
    clear hx1 hx2
    rw [← hL] at c0 hl0
    have hz : ¬ (L : Int) = 0 := by omega
    have z0 : (0 : Int) ≤ (p : Int) := by omega
    have z1 : (L : Int) ≤ (p : Int) := by omega
    obtain ⟨h10, h11⟩ := hb1
    obtain ⟨h20, h21⟩ := hb2
    have e1 : (p : Int).tmod (L : Int) = (i1 : Int) := by rw [Int.tmod_eq_emod_of_nonneg z0, hi1]; exact (Int.natCast_emod p L).symm
    have e2 : IntKind.i64.wrap ((p : Int) * 7) = (p : Int) * 7 := IntWalk.i64_in _ (by omega)
    have e3 : IntKind.i64.wrap ((p : Int) * 7 + 3) = (p : Int) * 7 + 3 := IntWalk.i64_in _ (by omega)
    have e4 : ((p : Int) * 7 + 3).tmod (L : Int) = (i2 : Int) := by
      rw [Int.tmod_eq_emod_of_nonneg (by omega), hi2, Int.natCast_emod]; simp
    have e5 : (p : Int).tdiv (L : Int) = (d : Int) := by rw [Int.tdiv_eq_ediv_of_nonneg z0, hd]; exact (Int.natCast_ediv p L).symm
    have e6 : IntKind.i64.wrap (x1 * 131) = x1 * 131 := IntWalk.i64_in _ (by omega)
    have e7 : IntKind.i64.wrap (x2 * 1117) = x2 * 1117 := IntWalk.i64_in _ (by omega)
    have e8 : IntKind.i64.wrap (x1 * 131 + x2 * 1117) = x1 * 131 + x2 * 1117 := IntWalk.i64_in _ (by omega)
    have e9 : IntKind.i64.wrap ((p : Int) * 29) = (p : Int) * 29 := IntWalk.i64_in _ (by omega)
    have e10 : IntKind.i64.wrap (x1 * 131 + x2 * 1117 + (p : Int) * 29) = x1 * 131 + x2 * 1117 + (p : Int) * 29 := IntWalk.i64_in _ (by omega)
    have e11 : IntKind.i64.wrap ((d : Int) * 53) = (d : Int) * 53 := IntWalk.i64_in _ (by omega)
    obtain ⟨X, hX⟩ := Int.eq_ofNat_of_zero_le (show 0 ≤ x1 * 131 + x2 * 1117 + (p : Int) * 29 + (d : Int) * 53 by omega)
    have hXl : X < 4294967296 := by omega
    have e12 : IntKind.i64.wrap (x1 * 131 + x2 * 1117 + (p : Int) * 29 + (d : Int) * 53) = (X : Int) := by rw [← hX]; exact IntWalk.i64_in _ (by omega)
    obtain ⟨Y, hY⟩ : ∃ Y : Nat, Y = X ^^^ (X / 64) := ⟨_, rfl⟩
    have hxy := xor_i64_nat X (X / 64) hXl (Nat.lt_of_le_of_lt (Nat.div_le_self _ _) hXl)
    rw [← hY] at hxy
    have e15 : bits .xor .i64 (X : Int) ((X : Int) / 64) = (Y : Int) := by rw [← hxy.1]; simp
    have hYl : Y < 4294967296 := hxy.2
    have hXi : (X : Int) ≤ 4294967296 := by omega
    have hYi : (Y : Int) ≤ 4294967296 := by omega
    have e13 : IntKind.i64.wrap x1 = x1 := IntWalk.i64_in _ (by omega)
    have e14 : IntKind.i64.wrap x2 = x2 := IntWalk.i64_in _ (by omega)
    have y1 : (i1 : Int) < (L : Int) := by omega
    have y2 : (i2 : Int) < (L : Int) := by omega
    have y3 : (0 : Int) ≤ (i1 : Int) := by omega
    have y4 : (0 : Int) ≤ (i2 : Int) := by omega
    clear hL hi1 hi2 hd hpl hl1 h3 hX hY hxy
    go_enter Try.func63, Try.ntmps63
    go_wp2
    go_quiet (fail)
    clear e1 e2 e3 e4 e5 e6 e7 e8 e9 e10 e11 e12 e13 e14
    go_wp2
    go_ret
    exact ⟨(Y : Int) % n, rfl, Int.emod_nonneg _ (by omega), .inl (Int.emod_lt_of_pos _ (by omega)), HD.out.1.drewN nq, HD.out.2.trans ⟨rfl, rfl, rfl, Nat.le_refl _, fun _ _ _ => rfl⟩⟩

end Go.Proofs.Ytpildecpabeanaa

/-
  The generators of the laws: the contracts of one, of, and of those of bids, kinds and reserves.
-/
namespace Go.Proofs.Ytpildecpabeanaa
open Go.RowKit

theorem gb_new {w w1 w2 : World} {rb g : Nat} (h : w.grownBy w1 (some rb)) (h2 : w1.grownBy w2 (some g)) (hg : w.heap.size ≤ g) : w.grownBy w2 (some rb) :=
  ⟨h2.os.trans h.os, h2.tape.trans h.tape, h2.output.trans h.output, Nat.le_trans h.size h2.size, fun k hk hne =>
    (h2.block k (Nat.lt_of_lt_of_le hk h.size) (fun e => by have := Option.some.inj e; omega)).trans (h.block k hk hne)⟩
theorem gb_alloc {w w1 : World} {rb : Nat} (h : w.grownBy w1 (some rb)) (o : Obj) : w.grownBy (w1.alloc o) (some rb) := h.trans (World.grownBy_alloc w1 o (some rb))
theorem gb_drewN {w w1 : World} {rb : Nat} (h : w.grownBy w1 (some rb)) (n : Nat) : w.grownBy (w1.drewN n) (some rb) := h.trans ⟨rfl, rfl, rfl, Nat.le_refl _, fun _ _ _ => rfl⟩
theorem gb_set {w w1 : World} {rb g i : Nat} {v : Value} (h : w.grownBy w1 (some rb)) (hg : w.heap.size ≤ g) : w.grownBy (w1.setCell ⟨g, i, none⟩ v) (some rb) :=
  gb_new (g := g) h ⟨rfl, rfl, rfl, by simp, fun k _ hk => heap_setCell_other w1 ⟨g, i, none⟩ k v (fun e => hk (by simp [e]))⟩ hg
theorem gb_below {w w1 : World} {B rb : Nat} (h : w.grownBy w1 (some rb)) (hB : B ≤ w.heap.size) (hr : B ≤ rb) : Below B w w1 :=
  (Below.refl B w).grown h hB (fun k hk => by have := Option.some.inj hk; omega)

theorem Rdr.alloc {w : World} {rb k : Nat} (h : Rdr w rb k) (o : Obj) : Rdr (w.alloc o) rb k := h.keep (fun g hg => Below.heap_alloc w o g hg)
/-- A reader stays while a block behind it is written. -/
theorem Rdr.grown {w w' : World} {rb k g : Nat} (h : Rdr w rb k) (hg : w.grownBy w' (some g)) (hlt : rb < g) : Rdr w' rb k := by
  have hl := h.lt
  obtain ⟨A, c, p, xs, h1, h2, h3, h4, h5⟩ := h
  refine ⟨A, c, p, xs, (hg.block rb hl (fun e => by have := Option.some.inj e; omega)).trans h1, h2, h3, h4, ?_⟩
  rcases h5 with h5 | ⟨b, off, hA, hb, hc⟩
  · exact .inl h5
  · exact .inr ⟨b, off, hA, hb, fun j x hx => hg.cell (hc j x hx) (fun e => by have := Option.some.inj e; simp at this; omega)⟩
theorem Rdr.set_ {w : World} {rb k g i : Nat} {v : Value} (h : Rdr w rb k) (hlt : rb < g) : Rdr (w.setCell ⟨g, i, none⟩ v) rb k :=
  h.grown (g := g) ⟨rfl, rfl, rfl, by simp, fun k _ hk => heap_setCell_other w ⟨g, i, none⟩ k v (fun e => hk (by simp [e]))⟩ hlt

/-- What one hands back: one of the numbers. -/
def OneIs (w : World) (rb k : Nat) (zs : List Int) (e : Ending) (w' : World) : Prop :=
  ∃ x, x ∈ zs ∧ e = .returned (.int .i64 x) ∧ Rdr w' rb (k + 1) ∧ w.grownBy w' (some rb)

theorem one_any (rb k g c n B : Nat) (zs : List Int) (w : World) (hn : zs.length = n) (h : Rdr w rb k) (ho : Own w B (some ⟨g, 0, none⟩) c zs) (hg : g ≠ rb) (hn1 : 1 ≤ n) (hn2 : n ≤ 1048576) (hk : k ≤ 1000000) :
    Calls Try.prog 62 #[.pointer (some ⟨rb, 0, none⟩), .slice (some ⟨g, 0, none⟩) n c] w (OneIs w rb k zs) := by
  have HN := Lib.hid hn
  clear hn
  go_enter Try.func62, Try.ntmps62
  go_wp2_with fail
  refine (pick_any rb k n w h hk (by omega) (by omega)).mono ?_
  rintro e w1 ⟨m, rfl, hm0, hm1, hr, hgr⟩
  obtain ⟨j, rfl⟩ := Int.eq_ofNat_of_zero_le hm0
  have hj : j < n := by omega
  obtain ⟨x, hx⟩ := at_some (xs := zs) (k := j) (by rw [HN.out]; exact hj)
  have ho1 := ho.kept_ (A2 := some ⟨rb, 0, none⟩) hgr (.inr (fun e => hg (Option.some.inj e)))
  have hc := ho1.cell hx
  have HX := Lib.hid (List.mem_of_getElem? hx)
  clear hx hm1 ho1
  go_wp2
  go_ret
  exact ⟨x, HX.out, rfl, hr, hgr⟩

/-- What of hands back: one of the words. -/
def OfIs (w : World) (rb k : Nat) (ss : List ByteArray) (e : Ending) (w' : World) : Prop :=
  ∃ s, s ∈ ss ∧ e = .returned (.string s) ∧ Rdr w' rb (k + 1) ∧ w.grownBy w' (some rb)

theorem of_any (rb k g c n : Nat) (ss : List ByteArray) (w : World) (hn : ss.length = n) (h : Rdr w rb k) (hc : ∀ j s, ss[j]? = some s → w.cell? ⟨g, j, none⟩ = some (.string s)) (hg : g ≠ rb) (hn1 : 1 ≤ n) (hn2 : n ≤ 1048576) (hk : k ≤ 1000000) :
    Calls Try.prog 182 #[.pointer (some ⟨rb, 0, none⟩), .slice (some ⟨g, 0, none⟩) n c] w (OfIs w rb k ss) := by
  have HN := Lib.hid hn
  have HC := Lib.hid hc
  clear hn hc
  go_enter Try.func182, Try.ntmps182
  go_wp2_with fail
  refine (pick_any rb k n w h hk (by omega) (by omega)).mono ?_
  rintro e w1 ⟨m, rfl, hm0, hm1, hr, hgr⟩
  obtain ⟨j, rfl⟩ := Int.eq_ofNat_of_zero_le hm0
  have hj : j < n := by omega
  obtain ⟨s, hs⟩ : ∃ s, ss[j]? = some s := ⟨_, List.getElem?_eq_getElem (by rw [HN.out]; exact hj)⟩
  have hcell : w1.cell? ⟨g, j, none⟩ = some (.string s) := hgr.cell (HC.out j s hs) (fun e => hg (Option.some.inj e))
  have HX := Lib.hid (List.mem_of_getElem? hs)
  clear hs hm1
  go_wp2
  go_ret
  exact ⟨s, HX.out, rfl, hr, hgr⟩

theorem newReader_any (A : Option Addr) (c : Nat) (xs : List Int) (w : World) (h : Came .u8 w A c xs) :
    Calls Try.prog 54 #[.slice A xs.length c] w fun e w' => ∃ rb, e = .returned (.pointer (some ⟨rb, 0, none⟩)) ∧ w.heap.size ≤ rb ∧ Rdr w' rb 0 ∧ Below w.heap.size w w' := by
  obtain ⟨hc1, hc2, hwf, hcell⟩ := h
  have hb : ∀ x ∈ xs, 0 ≤ x ∧ x ≤ 255 := by
    intro x hx
    have := hwf x hx
    simp only [Lit.wf, Bool.and_eq_true, decide_eq_true_eq] at this
    have h1 : IntKind.u8.min = 0 := rfl
    have h2 : IntKind.u8.max = 255 := rfl
    omega
  have hread : xs = [] ∨ ∃ b off, A = some ⟨b, off, none⟩ ∧ b < w.heap.size ∧ ∀ j x, xs[j]? = some x → w.cell? ⟨b, off + j, none⟩ = some (.int .u8 x) := by
    rcases hcell with ⟨h, _⟩ | ⟨b, off, hA, hc⟩
    · exact .inl h
    · rcases xs with _ | ⟨x0, xt⟩
      · exact .inl rfl
      · refine .inr ⟨b, off, hA, World.block_lt_of_cell? w _ (hc 0 (by simp)), fun j x hx => ?_⟩
        rw [hc j (List.getElem?_eq_some_iff.1 hx).1, hx]; rfl
  have HB := Lib.hid hb
  have HR := Lib.hid hread
  unfold maxLen at hc2
  clear hwf hcell hb hread
  have fin : ∀ (c' : Nat) (n : Nat), n ≤ 2000 → n ≤ xs.length → Rdr (w.alloc (.cells #[.slice A n c', .int .i64 0] 102)) w.heap.size 0 := by
    intro c' n hn hnx
    have hl : (xs.take n).length = n := by simp; omega
    refine ⟨A, c', 0, xs.take n, by rw [hl]; exact heap_alloc_new w _, Nat.le_refl _, by omega, fun x hx => HB.out x (List.mem_of_mem_take hx), ?_⟩
    rcases HR.out with h | ⟨b, off, hA, hbl, hc⟩
    · exact .inl (by rw [h]; simp)
    · refine .inr ⟨b, off, hA, hbl, fun j x hx => ?_⟩
      have hj : j < n := by have := (List.getElem?_eq_some_iff.1 hx).1; omega
      rw [List.getElem?_take_of_lt hj] at hx
      exact (World.cell?_alloc_lt w _ ⟨b, off + j, none⟩ hbl).trans (hc j x hx)
  have HF := Lib.hid fin
  clear fin
  by_cases hl : 2000 < xs.length
  · have hlc : 2000 ≤ c := by omega
    go_enter Try.func54, Try.ntmps54
    go_wp2
    go_ret
    exact ⟨_, rfl, Nat.le_refl _, HF.out c 2000 (by omega) (by omega), (Below.refl _ _).alloc (Nat.le_refl _) _⟩
  · go_enter Try.func54, Try.ntmps54
    go_wp2
    go_ret
    exact ⟨_, rfl, Nat.le_refl _, HF.out c xs.length (by omega) (by omega), (Below.refl _ _).alloc (Nat.le_refl _) _⟩

theorem lit_str (w : World) (ss : List ByteArray) (j : Nat) (s : ByteArray) (h : ss[j]? = some s) :
    (w.alloc (.cells (ss.map Value.string).toArray 9)).cell? ⟨w.heap.size, j, none⟩ = some (.string s) := by
  rw [cell_of_row _ w.heap.size j _ _ _ (heap_alloc_new w _)]
  simp [h]

/-- A word, a reader that has been asked, and what else was there. -/
def WordIs (w : World) (rb k : Nat) (e : Ending) (w' : World) : Prop := ∃ s : ByteArray, e = .returned (.string s) ∧ s.size ≤ 1048576 ∧ Rdr w' rb k ∧ w.grownBy w' (some rb)
def NumIs (w : World) (rb k : Nat) (e : Ending) (w' : World) : Prop := ∃ x : Int, e = .returned (.int .i64 x) ∧ -2147483648 ≤ x ∧ x ≤ 2147483647 ∧ Rdr w' rb k ∧ w.grownBy w' (some rb)
def BidsIs (w : World) (rb k N : Nat) (e : Ending) (w' : World) : Prop :=
  ∃ g c ys, e = .returned (.slice (some ⟨g, 0, none⟩) ys.length c) ∧ Own w' w.heap.size (some ⟨g, 0, none⟩) c ys ∧ ys.length ≤ N ∧ Rdr w' rb k ∧ w.grownBy w' (some rb)

def lenOf : Value → Nat
  | .slice _ n _ => n
  | _ => 0

end Go.Proofs.Ytpildecpabeanaa
