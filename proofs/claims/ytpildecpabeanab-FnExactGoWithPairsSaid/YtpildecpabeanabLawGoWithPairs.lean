/-
  The walk of the exact law of GoWithPairs.
-/
import Derived.Test.YtpildecpabeanabUz
import Derived.Test.YtpildecpabeanabId
namespace Go.Proofs.Ytpildecpabeanab
open Go.RowKit

set_option maxRecDepth 100000 in
set_option maxHeartbeats 4000000 in
theorem fnExactGoWithPairs_walk {A : Option Addr} {c : Nat} {rows : List (List Int)} {T : Option Addr} {d : Nat} {told : List Int} {w : World} (h0 : CameR w A c rows) (h3 : Came .i64 w T d told) :
    Calls Try.prog 8 #[.slice A rows.length c, .slice T told.length d] w fun e w' => e = .returned (.bool true) ∧ Below w.heap.size w w' := by
  have h := h0.1
  have hT := h3.rd
  have HSZ := Lib.hid (szIntSS_any A c rows w h h0.2.1 h0.2.2)
  clear h3
  by_cases hlen : 1048576 < told.length
  · clear h0 HSZ
    go_enter Try.func8, Try.ntmps8
    go_wp2
    go_ret
    exact ⟨rfl, Below.refl _ _⟩
  have htl : told.length ≤ 1099511627776 := by omega
  have htl1 : told.length ≤ 1048576 := by omega
  obtain ⟨v, hbo⟩ := GoWithPairs_both rows told
  have HBO := Lib.hid hbo
  have hvv : (v != v) = false := by simp
  clear h0 hbo hlen
  go_enter Try.func8, Try.ntmps8
  go_wp2_with fail
  refine HSZ.out.mono ?_
  rintro e w1 ⟨⟨z, rfl, hz⟩, n1, rfl⟩
  rcases hz with ⟨rfl, _⟩ | ⟨hz0, hs⟩
  · go_wp2
    go_ret
    exact ⟨rfl, below_drewN' (Below.refl _ _) n1⟩
  have hzn : decide (z < 0) = false := by simp; omega
  obtain ⟨hSb, hIb⟩ := HBO.out (by have := szR_len hs; omega) (szR_each hs) htl
  have HS := Lib.hid hSb
  have HI := Lib.hid hIb
  have HZ := Lib.hid hs
  clear hSb hIb hs HBO HSZ hz0
  go_wp2_with fail
  refine (toIntSS_any A c rows (w.drewN n1) (h.drewN n1) HZ.out).mono ?_
  rintro e w2 ⟨v2, ps2, rfl, R2, hm2, b2⟩
  have B2 : Below w.heap.size w w2 := (below_drewN' (Below.refl _ w) n1).trans b2
  obtain ⟨A2, c2, rfl, hR2⟩ := R2.rdr hm2
  go_wp2_with fail
  refine (toIntS_any T d told w2 (hT.below B2) htl).mono ?_
  rintro e w2b ⟨g2, d2, rfl, o2, b2b⟩
  have B2b := B2.trans (b2b.mono B2.size)
  go_wp2_with fail
  refine (HS.out A2 (some ⟨g2, 0, none⟩) c2 d2 w2b (hR2.below b2b) o2.rd o2.cap.1).mono ?_
  rintro e w3 ⟨rfl, b3⟩
  have B3 := B2b.trans (b3.mono B2b.size)
  clear R2 hm2 hR2 b2 b3 B2 o2 b2b B2b
  go_wp2_with fail
  refine (toIntSS_any A c rows w3 (h.below B3) HZ.out).mono ?_
  rintro e w4 ⟨v4, ps4, rfl, R4, hm4, b4⟩
  have B4 := B3.trans (b4.mono B3.size)
  obtain ⟨hpl, hps, hpe⟩ := nums_sz hm4 HZ.out
  have HPE := Lib.hid hpe
  have HM4 := Lib.hid hm4
  have hlen4 : ps4.length = rows.length := by have := congrArg List.length hm4; simpa using this
  obtain ⟨A4, c4, rfl, hR4⟩ := R4.rdr hm4
  clear hpe hm4
  go_wp2_with fail
  refine (toIntS_any T d told w4 (hT.below B4) htl).mono ?_
  rintro e w4b ⟨g4, d4, rfl, o4, b4b⟩
  have B4b := B4.trans (b4b.mono B4.size)
  have R4b := R4.below b4b
  go_wp2_with fail
  refine (HI.out A4 (some ⟨g4, 0, none⟩) c4 d4 w4b (hR4.below b4b) o4.rd o4.cap.1).mono ?_
  rintro e w5 ⟨rfl, b5⟩
  have B5 := B4b.trans (b5.mono B4b.size)
  have R5 := R4b.below b5
  have o5 := o4.below b5
  clear R4 R4b b5 hR4 b4 B4 b4b B4b o4
  go_wp2_with fail
  refine (toIntSS_any A c rows w5 (h.below B5) HZ.out).mono ?_
  rintro e w7 ⟨v7, ps7, rfl, R7, hm7, b7⟩
  have B7 := B5.trans (b7.mono B5.size)
  have R57 := R5.below b7
  have o7 := o5.below b7
  have HEQ : Hid (ps4.map (·.2.2) = ps7.map (·.2.2)) := Lib.hid (by rw [HM4.out, hm7])
  clear R5 B5 b7 hm7 o5
  go_wp2_with fail
  refine (eqIntSSU w7 R57 R7 HEQ.out hpl HPE.out).mono ?_
  rintro e w8 ⟨rfl, b8⟩
  have B8 := B7.trans (b8.mono B7.size)
  have o8 := o7.below b8
  clear o7 b8 R57 R7 B7
  go_wp2_with fail
  refine (toIntS_any T d told w8 (hT.below B8) htl).mono ?_
  rintro e w9 ⟨g9, d9, rfl, o9, b9⟩
  have B9 := B8.trans (b9.mono B8.size)
  go_wp2_with fail
  refine (eqIntS_any _ _ _ _ told told w9 (o8.below b9).rd o9.rd htl).mono ?_
  rw [eqB_self]
  rintro e w10 ⟨rfl, n10, rfl⟩
  go_wp2
  go_ret
  exact ⟨rfl, below_drewN' B9 n10⟩

end Go.Proofs.Ytpildecpabeanab
