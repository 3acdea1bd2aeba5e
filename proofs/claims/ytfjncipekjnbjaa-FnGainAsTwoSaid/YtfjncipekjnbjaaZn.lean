/-
  Chapter 5: both sides of GainAsTwo.
-/
import Derived.Test.YtfjncipekjnbjaaGI
namespace Go.Proofs.Ytfjncipekjnbjaa
open Go.RowKit

theorem crowd_four {ts : List (List Int)} (h : vtsB ts = true) (h3 : ¬ ts.length ≤ 3) : ts.length = 4 := by have := (vtsB_iff.1 h).1.2; omega

set_option maxHeartbeats 1000000 in
theorem GainAsTwo_no (A U V : Option Addr) (c d f : Nat) (i : Int) (ts : List (List Int)) (ta tb : List Int) (w : World) (hR : RdR w A c ts) (hT : Rd w U d ta) (hT2 : Rd w V f tb) (_hl : ts.length ≤ 1099511627776) (hl2 : ∀ r ∈ ts, r.length ≤ 1099511627776) (hl3 : ta.length ≤ 1099511627776) (hl4 : tb.length ≤ 1099511627776) (hno : ¬ (hbB ts i = true ∧ ts.length ≤ 3 ∧ vt ta = true ∧ vt tb = true)) :
    Calls Try.prog 15 #[.slice A ts.length c, .int .i64 i, .slice U ta.length d, .slice V tb.length f] w (GnIs w 0 false) := by
  have HB := Lib.hid (hasBidder_any A c ts i w hR hl2)
  have HA := Lib.hid (fun (W : World) (hW : Below w.heap.size w W) => ValidTable_any U d ta W (hT.below hW) hl3)
  have HT2 := Lib.hid (fun (W : World) (hW : Below w.heap.size w W) => ValidTable_any V f tb W (hT2.below hW) hl4)
  clear hR hT hT2 hl2 hl3 hl4
  cases hb : hbB ts i with
  | false =>
    rw [hb] at HB
    clear hb hno HA HT2
    go_enter Try.func15, Try.ntmps15
    go_wp2_with fail
    refine HB.out.mono ?_
    rintro e w1 ⟨rfl, b1⟩
    have HL := Lib.hid b1
    go_wp2
    go_ret2
    exact ⟨rfl, HL.out⟩
  | true =>
    by_cases h3 : ts.length ≤ 3
    · have q4 : decide ((4 : Int) ≤ (ts.length : Int)) = false := by simp; omega
      cases ha : vt ta with
      | false =>
        rw [hb] at HB
        rw [ha] at HA
        clear hb hno ha h3 HT2
        go_enter Try.func15, Try.ntmps15
        go_wp2_with fail
        refine HB.out.mono ?_
        rintro e w1 ⟨rfl, b1⟩
        go_wp2_with fail
        refine (HA.out w1 b1).mono ?_
        rintro e w2 ⟨rfl, b2⟩
        have B2 := b1.trans (b2.mono b1.size)
        have HL := Lib.hid B2
        go_wp2
        go_ret2
        exact ⟨rfl, HL.out⟩
      | true =>
        cases hb2 : vt tb with
        | true => exact absurd ⟨hb, h3, ha, hb2⟩ hno
        | false =>
          rw [hb] at HB
          rw [ha] at HA
          rw [hb2] at HT2
          clear hb hno ha h3 hb2
          go_enter Try.func15, Try.ntmps15
          go_wp2_with fail
          refine HB.out.mono ?_
          rintro e w1 ⟨rfl, b1⟩
          go_wp2_with fail
          refine (HA.out w1 b1).mono ?_
          rintro e w2 ⟨rfl, b2⟩
          have B2 := b1.trans (b2.mono b1.size)
          go_wp2_with fail
          refine (HT2.out w2 B2).mono ?_
          rintro e w3 ⟨rfl, b3⟩
          have B3 := B2.trans (b3.mono B2.size)
          have HL := Lib.hid B3
          go_wp2
          go_ret2
          exact ⟨rfl, HL.out⟩
    · have q4 : decide ((4 : Int) ≤ (ts.length : Int)) = true := by simp; omega
      rw [hb] at HB
      clear hb hno HA HT2 h3
      go_enter Try.func15, Try.ntmps15
      go_wp2_with fail
      refine HB.out.mono ?_
      rintro e w1 ⟨rfl, b1⟩
      have HL := Lib.hid b1
      go_wp2
      go_ret2
      exact ⟨rfl, HL.out⟩

set_option maxHeartbeats 1000000 in
theorem SGainAsTwo_no (A U V : Option Addr) (c d f : Nat) (i : Int) (ts : List (List Int)) (ta tb : List Int) (w : World) (hR : RdR w A c ts) (hT : Rd w U d ta) (hT2 : Rd w V f tb) (hl : ts.length ≤ 1099511627776) (hl2 : ∀ r ∈ ts, r.length ≤ 1099511627776) (hl3 : ta.length ≤ 1099511627776) (hl4 : tb.length ≤ 1099511627776) (hno : ¬ (hbB ts i = true ∧ ts.length ≤ 3 ∧ vt ta = true ∧ vt tb = true)) :
    Calls Try.prog 16 #[.slice A ts.length c, .int .i64 i, .slice U ta.length d, .slice V tb.length f] w (GnIs w 0 false) := by
  have HC := Lib.hid (SvalidTables_any A c ts w hR hl hl2)
  have HI := Lib.hid (fun w1 => inRange_any i 0 ((ts.length : Int) - 1) w1)
  have HA := Lib.hid (fun (W : World) (hW : Below w.heap.size w W) => SvalidTable_any U d ta W (hT.below hW) hl3)
  have HT2 := Lib.hid (fun (W : World) (hW : Below w.heap.size w W) => SvalidTable_any V f tb W (hT2.below hW) hl4)
  have e1 : IntKind.i64.wrap ((ts.length : Int) - 1) = (ts.length : Int) - 1 := IntWalk.i64_in _ (by omega)
  clear hR hT hT2 hl hl2 hl3 hl4
  cases hb : vtsB ts with
  | false =>
    rw [hb] at HC
    clear hb hno HA HT2 HI
    go_enter Try.func16, Try.ntmps16
    go_wp2_with fail
    refine HC.out.mono ?_
    rintro e w1 ⟨rfl, n1, rfl⟩
    have HL := Lib.hid (below_drewN' (Below.refl _ _) n1 : Below w.heap.size w (w.drewN n1))
    go_wp2
    go_ret2
    exact ⟨rfl, HL.out⟩
  | true =>
    rw [hb] at HC
    by_cases h3 : ts.length ≤ 3
    · have q4 : ((ts.length : Int) == 4) = false := beq_eq_false_iff_ne.2 (by omega)
      cases hi : inR i 0 ((ts.length : Int) - 1) with
      | false =>
        rw [hi] at HI
        clear hb hno hi h3 HA HT2
        go_enter Try.func16, Try.ntmps16
        go_wp2_with fail
        refine HC.out.mono ?_
        rintro e w1 ⟨rfl, n1, rfl⟩
        go_wp2_with fail
        refine (HI.out _).mono ?_
        rintro e w2 ⟨rfl, rfl⟩
        have HL := Lib.hid (below_drewN' (Below.refl _ _) n1 : Below w.heap.size w (w.drewN n1))
        go_wp2
        go_ret2
        exact ⟨rfl, HL.out⟩
      | true =>
        have hbb : hbB ts i = true := by unfold hbB; rw [hb, hi]; rfl
        rw [hi] at HI
        cases ha : vt ta with
        | false =>
          rw [ha] at HA
          clear hb hno hi h3 ha HT2 hbb
          go_enter Try.func16, Try.ntmps16
          go_wp2_with fail
          refine HC.out.mono ?_
          rintro e w1 ⟨rfl, n1, rfl⟩
          go_wp2_with fail
          refine (HI.out _).mono ?_
          rintro e w2 ⟨rfl, rfl⟩
          have B1 : Below w.heap.size w (w.drewN n1) := below_drewN' (Below.refl _ _) n1
          go_wp2_with fail
          refine (HA.out _ B1).mono ?_
          rintro e w3 ⟨rfl, n3, rfl⟩
          have HL := Lib.hid (below_drewN' (Below.refl _ _) (n1 + n3) : Below w.heap.size w (w.drewN (n1 + n3)))
          go_wp2
          go_ret2
          exact ⟨rfl, HL.out⟩
        | true =>
          cases hb2 : vt tb with
          | true => exact absurd ⟨hbb, h3, ha, hb2⟩ hno
          | false =>
            rw [ha] at HA
            rw [hb2] at HT2
            clear hb hno hi h3 ha hb2 hbb
            go_enter Try.func16, Try.ntmps16
            go_wp2_with fail
            refine HC.out.mono ?_
            rintro e w1 ⟨rfl, n1, rfl⟩
            go_wp2_with fail
            refine (HI.out _).mono ?_
            rintro e w2 ⟨rfl, rfl⟩
            have B1 : Below w.heap.size w (w.drewN n1) := below_drewN' (Below.refl _ _) n1
            go_wp2_with fail
            refine (HA.out _ B1).mono ?_
            rintro e w3 ⟨rfl, n3, rfl⟩
            have B3 : Below w.heap.size w (w.drewN (n1 + n3)) := below_drewN' (Below.refl _ _) (n1 + n3)
            rw [World.drewN_drewN]
            go_wp2_with fail
            refine (HT2.out _ B3).mono ?_
            rintro e w4 ⟨rfl, n4, rfl⟩
            have HL := Lib.hid (below_drewN' (Below.refl _ _) (n1 + n3 + n4) : Below w.heap.size w (w.drewN (n1 + n3 + n4)))
            go_wp2
            go_ret2
            exact ⟨rfl, HL.out⟩
    · have h4 := crowd_four hb h3
      have q4 : ((ts.length : Int) == 4) = true := by rw [h4]; rfl
      clear hb hno HA HT2 HI h3 h4
      go_enter Try.func16, Try.ntmps16
      go_wp2_with fail
      refine HC.out.mono ?_
      rintro e w1 ⟨rfl, n1, rfl⟩
      have HL := Lib.hid (below_drewN' (Below.refl _ _) n1 : Below w.heap.size w (w.drewN n1))
      go_wp2
      go_ret2
      exact ⟨rfl, HL.out⟩

end Go.Proofs.Ytfjncipekjnbjaa
