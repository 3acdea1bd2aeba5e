/-
  The walk of the exact law of PairPrices.
-/
import Derived.Test.YtkhpheebjkbihabUz
import Derived.Test.YtkhpheebjkbihabNi
namespace Go.Proofs.Ytkhpheebjkbihab
open Go.RowKit

set_option maxRecDepth 100000 in
set_option maxHeartbeats 4000000 in
theorem fnExactPairPrices_walk {A : Option Addr} {c : Nat} {rows : List (List Int)} {w : World} (h0 : CameR w A c rows) :
    Calls Try.prog 11 #[.slice A rows.length c] w fun e w' => e = .returned (.bool true) ∧ Below w.heap.size w w' := by
  have h := h0.1
  have HSZ := Lib.hid (szIntSS_any A c rows w h h0.2.1 h0.2.2)
  obtain ⟨zs, hzl, hbo⟩ := PairPrices_both rows
  have HBO := Lib.hid hbo
  have hzl2 : zs.length ≤ 1099511627776 := by omega
  clear h0 hbo
  go_enter Try.func11, Try.ntmps11
  go_wp2_with fail
  refine HSZ.out.mono ?_
  rintro e w1 ⟨⟨z, rfl, hz⟩, n1, rfl⟩
  rcases hz with ⟨rfl, _⟩ | ⟨hz0, hs⟩
  · go_wp2
    go_ret
    exact ⟨rfl, below_drewN' (Below.refl _ _) n1⟩
  have hzn : decide (z < 0) = false := by simp; omega
  obtain ⟨hSb, hIb⟩ := HBO.out (by have := szR_len hs; omega) (szR_each hs)
  have HS := Lib.hid hSb
  have HI := Lib.hid hIb
  have HZ := Lib.hid hs
  clear hSb hIb hs HBO HSZ hz0
  go_wp2_with fail
  refine (toIntSS_any A c rows (w.drewN n1) (h.drewN n1) HZ.out).mono ?_
  rintro e w2 ⟨v2, ps2, rfl, R2, hm2, b2⟩
  have B2 : Below w.heap.size w w2 := (below_drewN' (Below.refl _ w) n1).trans b2
  obtain ⟨A2, c2, rfl, hR2⟩ := R2.rdr hm2
  go_wp2_with fail
  refine (HS.out A2 c2 w2 hR2).mono ?_
  rintro e w3 ⟨A3, c3, rfl, o3, b3⟩
  have B3 := B2.trans (b3.mono B2.size)
  clear R2 hm2 hR2 b2 b3 B2
  go_wp2_with fail
  refine (toIntSS_any A c rows w3 (h.below B3) HZ.out).mono ?_
  rintro e w4 ⟨v4, ps4, rfl, R4, hm4, b4⟩
  have B4 := B3.trans (b4.mono B3.size)
  obtain ⟨hpl, hps, hpe⟩ := nums_sz hm4 HZ.out
  have HPE := Lib.hid hpe
  have HM4 := Lib.hid hm4
  have hlen4 : ps4.length = rows.length := by have := congrArg List.length hm4; simpa using this
  have o34 := o3.below b4
  have HA3 : Hid (∀ p ∈ ps4, ofA A3 ≠ some p.1) := Lib.hid (fun p hp e => by have h1 := (own_bk o3 e).2; have h2 := (R4.each p hp).ge; omega)
  obtain ⟨A4, c4, rfl, hR4⟩ := R4.rdr hm4
  clear hpe hm4 o3
  go_wp2_with fail
  refine (HI.out A4 c4 w4 hR4).mono ?_
  rintro e w5 ⟨A5, c5, rfl, o5, b5⟩
  have B5 := B4.trans (b5.mono B4.size)
  have R5 := R4.below b5
  have o35 := o34.below b5
  have HA5 : Hid (∀ p ∈ ps4, ofA A5 ≠ some p.1) := Lib.hid (fun p hp e => by have h1 := (own_bk o5 e).1; have h2 := (R4.each p hp).lt; omega)
  have HA53 : Hid (ofA A3 = none ∨ ofA A3 ≠ ofA A5) := Lib.hid (o34.apart o5 (Nat.le_refl _)).1
  have hs5 : w3.heap.size ≤ w5.heap.size := Nat.le_trans b4.size b5.size
  have hs5' : w.heap.size ≤ w4.heap.size := B4.size
  have hs5'' : w.heap.size ≤ w3.heap.size := B3.size
  clear R4 o34 b5 hR4 b4 B4
  go_wp2_with fail
  refine (eqIntS_any A5 A3 c5 c3 zs zs w5 o5.rd o35.rd hzl2).mono ?_
  rw [eqB_self]
  rintro e w6 ⟨rfl, n6, rfl⟩
  have B6 := below_drewN' B5 n6
  go_wp2_with fail
  refine (toIntSS_any A c rows (w5.drewN n6) (h.below B6) HZ.out).mono ?_
  rintro e w7 ⟨v7, ps7, rfl, R7, hm7, b7⟩
  have B7 := B6.trans (b7.mono B6.size)
  have R57 : RowsU w7 w3.heap.size (.slice A4 rows.length c4) ps4 := RowsU.below (w := w5.drewN n6) (R5.below (below_drewN' (Below.refl _ _) n6)) b7
  have o57 := (o5.drewN n6).below b7
  have o37 := (o35.drewN n6).below b7
  have hs7 : w3.heap.size ≤ w7.heap.size := Nat.le_trans hs5 b7.size
  have HEQ : Hid (ps4.map (·.2.2) = ps7.map (·.2.2)) := Lib.hid (by rw [HM4.out, hm7])
  clear R5 o5 o35 B5 B6 b7 hm7
  go_wp2_with fail
  refine (eqIntSSU w7 R57 R7 HEQ.out hpl HPE.out).mono ?_
  rintro e w8 ⟨rfl, b8⟩
  have B8 := B7.trans (b8.mono B7.size)
  have R58 := R57.below b8
  have o58 := o57.below b8
  have o38 := o37.below b8
  have hs8 : w3.heap.size ≤ w8.heap.size := Nat.le_trans hs7 b8.size
  clear R57 R7 o57 o37 B7 b8
  have hneg : decide (1 + (numsU ps4 : Int) < 0) = false := by simp; omega
  go_wp2_with fail
  refine (markIntSSU 1 w8 R58 hs8 hpl hps (by decide) (by decide)).mono ?_
  rintro e w9 ⟨rfl, R9, b9, keep9⟩
  have B9 : Below w.heap.size w w9 := B8.trans (b9.mono hs5'')
  have o59 := keep9 _ _ _ _ HA5.out o58
  have o39 := keep9 _ _ _ _ HA3.out o38
  clear R58 o58 o38 B8 b9 keep9 R9
  go_wp2_with fail
  refine (eqIntS_any A5 A3 c5 c3 zs zs w9 o59.rd o39.rd hzl2).mono ?_
  rw [eqB_self]
  rintro e w10 ⟨rfl, n10, rfl⟩
  have B10 := below_drewN' B9 n10
  go_wp2_with fail
  refine (markIntS_any A5 c5 zs 1 w4.heap.size (w9.drewN n10) (o59.drewN n10) hzl2 (by decide) (by decide)).mono ?_
  rintro e w11 ⟨rfl, o11, g11⟩
  have B11 : Below w.heap.size w w11 := Own.grownBelow B10 (o59.drewN n10) hs5' B10.size g11
  have o311 : Own w11 _ A3 c3 zs := Own.kept_ (w := w9.drewN n10) (o39.drewN n10) g11 HA53.out
  clear o59 o39 B9 B10 g11
  have hneg2 : decide (1 + (zs.length : Int) < 0) = false := by simp; omega
  have hmm : ((1 + (zs.length : Int)) != (1 + (zs.length : Int))) = false := by simp
  go_wp2_with fail
  refine (heldIntS_any A5 c5 zs.length 1 w11 o11.rd hzl2 (by decide) (by decide)).mono ?_
  rintro e w12 ⟨rfl, rfl⟩
  go_wp2_with fail
  refine (toIntSS_any A c rows w11 (h.below B11) HZ.out).mono ?_
  rintro e w13 ⟨v13, ps13, rfl, R13, hm13, b13⟩
  have B13 := B11.trans (b13.mono B11.size)
  have o1113 := o11.below b13
  have o313 := o311.below b13
  obtain ⟨A13, c13, rfl, hR13⟩ := R13.rdr hm13
  clear o11 o311 B11 b13 R13 hm13
  go_wp2_with fail
  refine (HI.out A13 c13 w13 hR13).mono ?_
  rintro e w14 ⟨A14, c14, rfl, o14, b14⟩
  have B14 := B13.trans (b14.mono B13.size)
  have o1114 := o1113.below b14
  have o314 := o313.below b14
  clear o1113 o313 B13 b14 hR13
  go_wp2_with fail
  refine (eqIntS_any A14 A3 c14 c3 zs zs w14 o14.rd o314.rd hzl2).mono ?_
  rw [eqB_self]
  rintro e w15 ⟨rfl, n15, rfl⟩
  go_wp2_with fail
  refine (heldIntS_any A5 c5 zs.length 1 (w14.drewN n15) (o1114.drewN n15).rd hzl2 (by decide) (by decide)).mono ?_
  rintro e w16 ⟨rfl, rfl⟩
  go_wp2
  go_ret
  exact ⟨rfl, below_drewN' B14 n15⟩

end Go.Proofs.Ytkhpheebjkbihab
