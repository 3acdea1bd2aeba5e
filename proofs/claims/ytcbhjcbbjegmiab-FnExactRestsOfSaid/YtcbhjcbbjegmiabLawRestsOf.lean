/-
  The walk of the exact law of RestsOf.
-/
import Derived.Test.YtcbhjcbbjegmiabGridM
namespace Go.Proofs.Ytcbhjcbbjegmiab
open Go.RowKit

theorem rows_small {rs : List (List Int)} {ps : List (Nat × Nat × List Int)} (hm : ps.map (·.2.2) = rs) (hl : rs.length ≤ 1000) (hb : ∀ b ∈ rs, b.length ≤ 3) : ps.length ≤ 1000 ∧ (∀ p ∈ ps, p.2.2.length ≤ 3) := by
  subst hm
  exact ⟨by simpa using hl, fun p hp => hb _ (List.mem_map.2 ⟨p, hp, rfl⟩)⟩

set_option maxRecDepth 100000 in
set_option maxHeartbeats 4000000 in
theorem fnExactRestsOf_walk {s : ByteArray} {A : Option Addr} {c : Nat} {xs : List Int} {top : Int} {w : World} (hs : s.size ≤ maxLen) (h0 : Came .i64 w A c xs) (_ht : (Lit.int .i64 top).wf = true) :
    Calls Try.prog 4 #[.string s, .slice A xs.length c, .int .i64 top] w fun e w' => e = .returned (.bool true) ∧ Below w.heap.size w w' := by
  have h := h0.rd
  clear h0
  unfold maxLen at hs
  by_cases hs1 : 1048576 < s.size
  · go_enter Try.func4, Try.ntmps4
    go_wp2
    go_ret
    exact ⟨rfl, Below.refl _ _⟩
  by_cases hlen : 1048576 < xs.length
  · go_enter Try.func4, Try.ntmps4
    go_wp2
    go_ret
    exact ⟨rfl, Below.refl _ _⟩
  have hl1 : xs.length ≤ 1048576 := by omega
  have hl : xs.length ≤ 1099511627776 := by omega
  clear hlen
  obtain ⟨rs, hS, hI, hrl, hrb, _⟩ := RestsOf_laid s xs top hl1
  have HS := Lib.hid hS
  have HI := Lib.hid hI
  have HB := Lib.hid hrb
  clear hS hI hrb
  go_enter Try.func4, Try.ntmps4
  go_wp2_with fail
  refine (toIntS_any _ _ _ _ h hl).mono ?_
  rintro e w1 ⟨g1, c1, rfl, o1, b1⟩
  go_wp2_with fail
  refine (HS.out _ _ _ o1.rd).mono ?_
  rintro e w2 ⟨v0, qs, rfl, R0, hq0, b2⟩
  have B2 := b1.trans (b2.mono b1.size)
  clear o1 b1 b2
  go_wp2_with fail
  refine (toIntS_any _ _ _ _ (h.below B2) hl).mono ?_
  rintro e w3 ⟨gx, cx, rfl, ox, b3⟩
  have B3 := B2.trans (b3.mono B2.size)
  go_wp2_with fail
  refine (HI.out _ _ _ ox.rd).mono ?_
  rintro e w4 ⟨v, ps, rfl, R, hps, b4⟩
  have B4 := B3.trans (b4.mono B3.size)
  have C4 := b3.trans (b4.mono b3.size)
  obtain ⟨hpl, hpp⟩ := rows_small hps hrl HB.out
  have HPP := Lib.hid hpp
  have HEQ : Hid (ps.map (·.2.2) = qs.map (·.2.2)) := Lib.hid (by rw [hps, hq0])
  have ox4 := ox.below b4
  have hgx3 := ox.lt
  have hgx2 := ox.ge
  have HHQ := Lib.hid hq0
  clear ox hpp hps hq0
  go_wp2_with fail
  refine (eqIntSS_same w4 R (R0.below C4) HEQ.out hpl (fun p hp => by have := HPP.out p hp; omega)).mono ?_
  rintro e w5 ⟨rfl, b5⟩
  have B5 := B4.trans (b5.mono B4.size)
  have C5 := C4.trans (b5.mono C4.size)
  have R5 := R.below b5
  have ox5 := ox4.below b5
  have hsz5 : w3.heap.size ≤ w5.heap.size := Nat.le_trans b4.size b5.size
  clear R ox4 b5 C4 B4 b4
  go_wp2_with fail
  refine (toIntS_any _ _ _ _ (h.below B5) hl).mono ?_
  rintro e w6 ⟨g6, c6, rfl, o6, b6⟩
  have B6 := B5.trans (b6.mono B5.size)
  have C6 := C5.trans (b6.mono C5.size)
  have R6 := R5.below b6
  have ox6 := ox5.below b6
  have hsz6 : w3.heap.size ≤ w6.heap.size := Nat.le_trans hsz5 b6.size
  clear R5 ox5 b6 B5 C5 hsz5
  go_wp2_with fail
  refine (eqIntS_any _ _ _ _ _ _ _ ox6.rd o6.rd hl).mono ?_
  rw [eqB_self]
  rintro e w7 ⟨rfl, n7, rfl⟩
  clear o6
  have hneg : decide (1 + (xs.length : Int) < 0) = false := by simp; omega
  go_wp2_with fail
  refine (markIntS_any (some ⟨gx, 0, none⟩) cx xs 1 w2.heap.size (w6.drewN n7) (ox6.drewN n7) hl (by decide) (by decide)).mono ?_
  rintro e w8 ⟨rfl, o8, g8⟩
  have hB6 := below_drewN' B6 n7
  have hC6 := below_drewN' C6 n7
  have B8 : Below w.heap.size w w8 := hB6.grown g8 hB6.size (fun k e => by cases e; exact Nat.le_trans B2.size hgx2)
  have C8 : Below w2.heap.size w2 w8 := hC6.grown g8 hC6.size (fun k e => by cases e; exact hgx2)
  have R6' : RowsIn (w6.drewN n7) w3.heap.size v ps := R6.below (below_drewN' (Below.refl _ _) n7)
  have R8 : RowsIn w8 w3.heap.size v ps := R6'.kept (r := gx) g8 (row_apart R6'.row (ox6.drewN n7)) (fun p hp e => by have := (R6.each p hp).ge; omega)
  have hsz8 : w3.heap.size ≤ w8.heap.size := Nat.le_trans hsz6 g8.size
  clear hB6 hC6 R6 R6' B6 C6 ox6 o8 g8 hsz6
  go_wp2_with fail
  refine (eqIntSS_same w8 R8 (R0.below C8) HEQ.out hpl (fun p hp => by have := HPP.out p hp; omega)).mono ?_
  rintro e w9 ⟨rfl, b9⟩
  have B9 := B8.trans (b9.mono B8.size)
  have C9 := C8.trans (b9.mono C8.size)
  have R9 := R8.below b9
  have hsz9 : w3.heap.size ≤ w9.heap.size := Nat.le_trans hsz8 b9.size
  clear R8 B8 C8 b9 hsz8
  go_wp2_with fail
  refine (markIntSS_any 1 w9 R9 hsz9 hpl HPP.out (by decide) (by decide)).mono ?_
  rintro e w10 ⟨rfl, R10, b10⟩
  have B10 := B9.trans (b10.mono B3.size)
  have C10 := C9.trans (b10.mono b3.size)
  have hneg2 : decide (1 + (sumLen ps : Int) < 0) = false := by simp; omega
  have hmm : ((1 + (sumLen ps : Int)) != (1 + (sumLen ps : Int))) = false := by simp
  clear R9 B9 C9 b10 hsz9
  go_wp2_with fail
  refine (heldIntSS_any 1 w10 R10 hpl HPP.out (by decide) (by decide)).mono ?_
  rintro e w11 ⟨rfl, rfl⟩
  go_wp2_with fail
  refine (toIntS_any _ _ _ _ (h.below B10) hl).mono ?_
  rintro e w12 ⟨g12, c12, rfl, o12, b12⟩
  have B12 := B10.trans (b12.mono B10.size)
  have C12 := C10.trans (b12.mono C10.size)
  have R12 := R10.below b12
  clear R10 B10 C10 b12
  go_wp2_with fail
  refine (HI.out _ _ _ o12.rd).mono ?_
  rintro e w13 ⟨v3, p3, rfl, R3, hp3, b13⟩
  have B13 := B12.trans (b13.mono B12.size)
  have C13 := C12.trans (b13.mono C12.size)
  have R13 := R12.below b13
  obtain ⟨hpl3, hpp3⟩ := rows_small hp3 hrl HB.out
  have HPP3 := Lib.hid hpp3
  have HEQ3 : Hid (p3.map (·.2.2) = qs.map (·.2.2)) := Lib.hid (by rw [hp3, HHQ.out])
  clear R12 B12 C12 b13 o12 hpp3 hp3
  go_wp2_with fail
  refine (eqIntSS_same w13 R3 (R0.below C13) HEQ3.out hpl3 (fun p hp => by have := HPP3.out p hp; omega)).mono ?_
  rintro e w14 ⟨rfl, b14⟩
  have B14 := B13.trans (b14.mono B13.size)
  have R14 := R13.below b14
  clear R13 B13 C13 b14 R3
  go_wp2_with fail
  refine (heldIntSS_any 1 w14 R14 hpl HPP.out (by decide) (by decide)).mono ?_
  rintro e w15 ⟨rfl, rfl⟩
  go_wp2
  go_ret
  exact ⟨rfl, B14⟩

end Go.Proofs.Ytcbhjcbbjegmiab
