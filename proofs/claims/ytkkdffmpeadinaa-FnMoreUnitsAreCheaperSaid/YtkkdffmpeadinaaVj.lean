/-
  Chapter 3: the walks of FnWorthOf and FnGainUnits.
-/
import Derived.Test.YtkkdffmpeadinaaVi
namespace Go.Proofs.Ytkkdffmpeadinaa
open Go.RowKit

theorem wo_no {rows : List (List Int)} {k : Int} (h : fuB rows k = false) : woF rows k = -1 := by unfold woF; rw [h]; simp
theorem wo_yes {rows : List (List Int)} {k : Int} (h : fuB rows k = true) : woF rows k = bst (RW rows) rows.length k.toNat := by unfold woF; rw [h]; simp
theorem wo_bd (rows : List (List Int)) (k : Int) : -1 ≤ woF rows k ∧ woF rows k ≤ 600 := by
  cases h : fuB rows k with
  | false => rw [wo_no h]; omega
  | true =>
    have hv := (fuB_iff.1 h).1
    have := bst_bd (x := k.toNat) hv.good (Nat.le_refl _) hv.1.2
    rw [wo_yes h]; omega
theorem op_bd (rows : List (List Int)) (k : Int) : -1 ≤ opF rows k ∧ opF rows k ≤ 30 := by
  unfold opF
  cases h : fuB rows k with
  | false => simp
  | true =>
    have hv := (fuB_iff.1 h).1
    have := (nxt_nn (h := aw (RW rows) rows.length k.toNat) hv.good)
    rw [← nth_nxt hv] at this
    simp only [if_true]
    omega
theorem op_yes {rows : List (List Int)} {k : Int} (h : fuB rows k = true) : opF rows k = nthG k.toNat rows.flatten := by unfold opF; rw [h]; simp
/-- One unit more is worth OnePrice, and no more than the one ahead. -/
theorem wo_facts {rows : List (List Int)} {k : Int} (h : fuB rows k = true) : 0 ≤ woF rows k ∧ (k < 5 → woF rows (k + 1) = woF rows k + opF rows k) ∧ (1 ≤ k → k < 5 → woF rows (k + 1) - woF rows k ≤ woF rows k - woF rows (k - 1)) := by
  obtain ⟨hv, h0, h5⟩ := fuB_iff.1 h
  obtain ⟨n, rfl⟩ := Int.eq_ofNat_of_zero_le h0
  have hg := hv.good
  refine ⟨by rw [wo_yes h]; exact bst_nn _ _, fun hk => ?_, fun h1 hk => ?_⟩
  · have hf : fuB rows ((n : Int) + 1) = true := fuB_iff.2 ⟨hv, by omega, by omega⟩
    rw [wo_yes h, wo_yes hf, op_yes h, show ((n : Int) + 1).toNat = n + 1 by omega, Int.toNat_natCast, bst_succ hg, nth_nxt hv]
  · obtain ⟨m, rfl⟩ : ∃ m, n = m + 1 := ⟨n - 1, by omega⟩
    have hf : fuB rows (((m + 1 : Nat) : Int) + 1) = true := fuB_iff.2 ⟨hv, by omega, by omega⟩
    have hf2 : fuB rows (((m + 1 : Nat) : Int) - 1) = true := fuB_iff.2 ⟨hv, by omega, by omega⟩
    rw [wo_yes h, wo_yes hf, wo_yes hf2, show (((m + 1 : Nat) : Int) + 1).toNat = m + 1 + 1 by omega, Int.toNat_natCast, show (((m + 1 : Nat) : Int) - 1).toNat = m by omega, bst_succ hg (m + 1), bst_succ hg m]
    have := nxt_anti hg m
    omega

set_option maxHeartbeats 4000000 in
theorem fnWorthOf_walk {A : Option Addr} {c : Nat} {xs : List Int} {w : World} (h : Came .u8 w A c xs) :
    Calls Try.prog 5 #[.slice A xs.length c] w fun e w' => e = .returned (.bool true) ∧ Below w.heap.size w w' := by
  by_cases hlen : 1048576 < xs.length
  · go_enter Try.func5, Try.ntmps5
    go_wp2
    go_ret
    exact ⟨rfl, Below.refl _ _⟩
  have hl1 : xs.length ≤ 1048576 := by omega
  have HD := Lib.hid (DrawWorthOf_any A c xs w h)
  clear hlen h
  go_enter Try.func5, Try.ntmps5
  go_wp2_with fail
  refine HD.out.mono ?_
  rintro e w1 ⟨A1, c1, rows, k, rfl, hR, hl4, hl6, hk0, hk1, b1⟩
  obtain ⟨hS, hI⟩ := WorthOf_both rows k (by omega) (six_len hl6)
  have hI1 := (WorthOf_both rows (k + 1) (by omega) (six_len hl6)).2
  have hI2 := (WorthOf_both rows (k - 1) (by omega) (six_len hl6)).2
  have hO := (OnePrice_both rows k (by omega) (six_len hl6)).2
  have hfc := wo_facts (rows := rows) (k := k)
  have hno := wo_no (rows := rows) (k := k)
  have hb0 := wo_bd rows k
  have hb1 := wo_bd rows (k + 1)
  have hb2 := wo_bd rows (k - 1)
  have hbp := op_bd rows k
  have hfk := fun hf : fuB rows k = true => (fuB_iff.1 hf).2
  obtain ⟨v, hv⟩ : ∃ v, v = woF rows k := ⟨_, rfl⟩
  obtain ⟨v1, hv1⟩ : ∃ v1, v1 = woF rows (k + 1) := ⟨_, rfl⟩
  obtain ⟨v2, hv2⟩ : ∃ v2, v2 = woF rows (k - 1) := ⟨_, rfl⟩
  obtain ⟨p, hp⟩ : ∃ p, p = opF rows k := ⟨_, rfl⟩
  rw [← hv] at hS hI hfc hno hb0
  rw [← hv1] at hI1 hfc hb1
  rw [← hv2] at hI2 hfc hb2
  rw [← hp] at hO hfc hbp
  have HS := Lib.hid hS
  have HI := Lib.hid hI
  have HI1 := Lib.hid hI1
  have HI2 := Lib.hid hI2
  have HO := Lib.hid hO
  have hvv : (v != v) = false := by simp
  have hvv2 : (v == v) = true := by simp
  have hb00 := hb0.1
  have hb01 := hb0.2
  have hb10 := hb1.1
  have hb11 := hb1.2
  have hb20 := hb2.1
  have hb21 := hb2.2
  have hbp0 := hbp.1
  have hbp1 := hbp.2
  clear hS hI hI1 hI2 hO hv hv1 hv2 hp HD hl6 hb0 hb1 hb2 hbp
  go_wp2_with fail
  refine (HI.out A1 c1 w1 hR).mono ?_
  rintro e w2 ⟨rfl, b2⟩
  have B2 := b1.trans (b2.mono b1.size)
  have hR2 := hR.below b2
  go_wp2_with fail
  refine (HS.out A1 c1 w2 hR2).mono ?_
  rintro e w3 ⟨rfl, b3⟩
  have B3 := B2.trans (b3.mono B2.size)
  have hR3 := hR2.below b3
  clear b1 b2 b3 B2 hR hR2
  cases hf : fuB rows k with
  | false =>
    have hvn : v = -1 := hno hf
    have hneg : v < 0 := by omega
    clear hfc hno hfk hf hvn
    go_wp2_with fail
    refine (HS.out A1 c1 w3 hR3).mono ?_
    rintro e w4 ⟨rfl, b4⟩
    have B4 := B3.trans (b4.mono B3.size)
    go_wp2
    go_ret
    exact ⟨rfl, B4⟩
  | true =>
    obtain ⟨h0, hmo, han⟩ := hfc hf
    have hkk := hfk hf
    have hneg : ¬ v < 0 := by omega
    have HMO := Lib.hid hmo
    have HAN := Lib.hid han
    have hkk0 := hkk.1
    have hkk1 := hkk.2
    clear hfc hno hfk hf hmo han hkk
    go_wp2_with fail
    refine (HI1.out A1 c1 w3 hR3).mono ?_
    rintro e w4 ⟨rfl, b4⟩
    have B4 := B3.trans (b4.mono B3.size)
    have hR4 := hR3.below b4
    go_wp2_with fail
    refine (HI2.out A1 c1 w4 hR4).mono ?_
    rintro e w5 ⟨rfl, b5⟩
    have B5 := B4.trans (b5.mono B4.size)
    have hR5 := hR4.below b5
    clear b4 b5 B4 B3 hR3 hR4
    by_cases hk5 : k = 5
    · subst hk5
      clear hk0 hk1 hkk0 hkk1
      go_wp2
      go_ret
      exact ⟨rfl, B5⟩
    · have hk5b : (k == 5) = false := beq_eq_false_iff_ne.2 hk5
      have e1 : v1 = v + p := HMO.out (by omega)
      have hee : (v1 == v + p) = true := by rw [e1]; simp
      by_cases hk00 : k = 0
      · subst hk00
        have HE1 := Lib.hid e1
        clear hk0 hk1 hkk0 hkk1 e1 hk5 hk5b
        go_wp2_with fail
        refine (HO.out A1 c1 w5 hR5).mono ?_
        rintro e w6 ⟨rfl, b6⟩
        have B6 := B5.trans (b6.mono B5.size)
        go_wp2
        go_ret
        exact ⟨rfl, B6⟩
      · have hk0b : (k == 0) = false := beq_eq_false_iff_ne.2 hk00
        have e2 : v1 - v ≤ v - v2 := HAN.out (by omega) (by omega)
        have HE1 := Lib.hid e1
        clear e1 hk5 hk00
        go_wp2_with fail
        refine (HO.out A1 c1 w5 hR5).mono ?_
        rintro e w6 ⟨rfl, b6⟩
        have B6 := B5.trans (b6.mono B5.size)
        go_wp2
        go_ret
        exact ⟨by simp <;> omega, B6⟩

set_option maxHeartbeats 4000000 in
theorem fnGainUnits_walk {A : Option Addr} {c : Nat} {xs : List Int} {w : World} (h : Came .u8 w A c xs) :
    Calls Try.prog 8 #[.slice A xs.length c] w fun e w' => e = .returned (.bool true) ∧ Below w.heap.size w w' := by
  by_cases hlen : 1048576 < xs.length
  · go_enter Try.func8, Try.ntmps8
    go_wp2
    go_ret
    exact ⟨rfl, Below.refl _ _⟩
  have hl1 : xs.length ≤ 1048576 := by omega
  have HD := Lib.hid (DrawGainUnits_any A c xs w h)
  clear hlen h
  go_enter Try.func8, Try.ntmps8
  go_wp2_with fail
  refine HD.out.mono ?_
  rintro e w1 ⟨A1, c1, rows, k, i, T, d, told, rfl, hR, hl4, hl6, hT, hTd, ht6, hk0, hk1, hi0, hi1, b1⟩
  obtain ⟨hS, hI⟩ := GainUnits_both rows k i told (by omega) (six_len hl6) (by omega)
  obtain ⟨v, hv⟩ : ∃ v, v = gaF rows k i told := ⟨_, rfl⟩
  cases hf : guB rows k i told with
  | false =>
    rw [← hv, hf] at hS hI
    have HS := Lib.hid hS
    have HI := Lib.hid hI
    have hvv : (v != v) = false := by simp
    have hvv2 : (v == v) = true := by simp
    have hbb : (false != false) = false := rfl
    clear hS hI hv HD hl6 hf
    go_wp2_with fail
    refine (HI.out A1 T c1 d w1 hR hT hTd).mono ?_
    rintro e w2 ⟨rfl, b2⟩
    have B2 := b1.trans (b2.mono b1.size)
    go_wp2_with fail
    refine (HS.out A1 T c1 d w2 (hR.below b2) (hT.below b2) hTd).mono ?_
    rintro e w3 ⟨rfl, b3⟩
    have B3 := B2.trans (b3.mono B2.size)
    go_wp2
    go_ret
    exact ⟨rfl, B3⟩
  | true =>
    obtain ⟨⟨hvd, hkk0, hkk1⟩, ⟨hii0, hii1⟩, hto⟩ := guB_iff.1 hf
    obtain ⟨j, rfl⟩ := Int.eq_ofNat_of_zero_le hi0
    have hj : j < rows.length := by omega
    obtain ⟨n, rfl⟩ := Int.eq_ofNat_of_zero_le hkk0
    obtain ⟨b, off, r, A', c', rfl, hr, hc, hcap, hrd⟩ := hR.at_ hj
    have hrw := rw_of hr.out
    have hrok : RowOk r := by rw [← hrw]; exact hvd.good j hj
    have hf2 : guB rows (n : Int) (j : Int) r = true := guB_iff.2 ⟨⟨hvd, hkk0, hkk1⟩, ⟨hii0, hii1⟩, hrok⟩
    have hI2 := (GainUnits_both rows (n : Int) (j : Int) r (by omega) (six_len hl6) (by have := hrok.1; omega)).2
    obtain ⟨u, hu⟩ : ∃ u, u = gaF rows (n : Int) (j : Int) r := ⟨_, rfl⟩
    have hge : v ≤ u ∧ 0 ≤ u := by
      rw [hv, hu]
      unfold gaF
      rw [hf, hf2]
      simp only [if_true, Int.toNat_natCast]
      rw [← hrw]
      exact ⟨gain_best hvd hj told, gain_nn hvd hj⟩
    rw [← hv, hf] at hS hI
    rw [← hu, hf2] at hI2
    have HS := Lib.hid hS
    have HI := Lib.hid hI
    have HI2 := Lib.hid hI2
    have hvv : (v != v) = false := by simp
    have hbb : (true != true) = false := rfl
    have hg0 := hge.1
    have hg1 := hge.2
    have hjl : (j : Int) < (rows.length : Int) := by omega
    clear hS hI hv HD hl6 hf hI2 hu hf2 hge hvd hto hrok hrw
    go_wp2_with fail
    refine (HI.out _ T c1 d w1 hR hT hTd).mono ?_
    rintro e w2 ⟨rfl, b2⟩
    have B2 := b1.trans (b2.mono b1.size)
    go_wp2_with fail
    refine (HS.out _ T c1 d w2 (hR.below b2) (hT.below b2) hTd).mono ?_
    rintro e w3 ⟨rfl, b3⟩
    have B3 := B2.trans (b3.mono B2.size)
    have hR3 := (hR.below b2).below b3
    have hc3 := (b3.cell (p := ⟨b, off + j, none⟩) (Nat.lt_of_lt_of_le (World.block_lt_of_cell? w1 _ hc) b2.size)).trans ((b2.cell (p := ⟨b, off + j, none⟩) (World.block_lt_of_cell? w1 _ hc)).trans hc)
    have hrd3 := (hrd.out.below b2).below b3
    go_wp2_with fail
    refine (HI2.out _ A' c1 c' w3 hR3 hrd3 hcap.out).mono ?_
    rintro e w4 ⟨rfl, b4⟩
    have B4 := B3.trans (b4.mono B3.size)
    go_wp2
    go_ret
    exact ⟨by first | rfl | (simp <;> omega), B4⟩

end Go.Proofs.Ytkkdffmpeadinaa
