/-
  Chapter 6: three things exchanged, by the program: swapsThird.
-/
import Derived.Test.YtfjncipekjnbjaaJn
import Derived.Test.YtfjncipekjnbjaaJj
namespace Go.Proofs.Ytfjncipekjnbjaa
open Go.RowKit

noncomputable def tqB (t : List Int) (i j k : Nat) : Bool := @decide (T t (2 ^ i + 2 ^ j) + T t (2 ^ k) ≤ max (T t (2 ^ i + 2 ^ k) + T t (2 ^ j)) (T t (2 ^ j + 2 ^ k) + T t (2 ^ i))) (Classical.propDecidable _)
theorem tqB_true {t : List Int} {i j k : Nat} (h : T t (2 ^ i + 2 ^ j) + T t (2 ^ k) ≤ max (T t (2 ^ i + 2 ^ k) + T t (2 ^ j)) (T t (2 ^ j + 2 ^ k) + T t (2 ^ i))) : tqB t i j k = true := by unfold tqB; simp only [decide_eq_true_eq]; exact h
theorem tqB_false {t : List Int} {i j k : Nat} (h : ¬ T t (2 ^ i + 2 ^ j) + T t (2 ^ k) ≤ max (T t (2 ^ i + 2 ^ k) + T t (2 ^ j)) (T t (2 ^ j + 2 ^ k) + T t (2 ^ i))) : tqB t i j k = false := by unfold tqB; simp only [decide_eq_false_iff_not]; exact h
theorem tqB_iff {t : List Int} {i j k : Nat} : tqB t i j k = true ↔ T t (2 ^ i + 2 ^ j) + T t (2 ^ k) ≤ max (T t (2 ^ i + 2 ^ k) + T t (2 ^ j)) (T t (2 ^ j + 2 ^ k) + T t (2 ^ i)) := by unfold tqB; simp only [decide_eq_true_eq]
theorem or_back {i j : Nat} (hi : i < 3) (hj : j < 3) : bits .or .i64 ((2 ^ i : Nat) : Int) ((2 ^ j : Nat) : Int) = bits .or .i64 ((2 ^ j : Nat) : Int) ((2 ^ i : Nat) : Int) := by
  rcases nat3 hi with rfl | rfl | rfl <;> rcases nat3 hj with rfl | rfl | rfl <;> decide

set_option maxRecDepth 100000 in
set_option maxHeartbeats 1600000 in
theorem swapsThird_any (t : List Int) (i j k : Nat) (w : World) (hv : VT t) (hi : i < 3) (hj : j < 3) (hk : k < 3) (d1 : i ≠ j) (d2 : i ≠ k) (d3 : j ≠ k) :
    Calls Try.prog 86 #[ag8 (T t), .int .i64 ((2 ^ i : Nat) : Int), .int .i64 ((2 ^ j : Nat) : Int), .int .i64 ((2 ^ k : Nat) : Int)] w fun e w' => e = .returned (.bool (tqB t i j k)) ∧ Below w.heap.size w w' := by
  obtain ⟨o1, o2, o3, o4, o5, o6, o7, l1, l2, l3, l4, l5, l6⟩ := three_fit hi hj hk d1 d2 d3
  have o8 := or_back hk hj
  have hA : Arr (w.alloc (.cells #[.int .i64 (T t 0), .int .i64 (T t 1), .int .i64 (T t 2), .int .i64 (T t 3), .int .i64 (T t 4), .int .i64 (T t 5), .int .i64 (T t 6), .int .i64 (T t 7)] 65)) w.heap.size (lit8 (T t)) := Arr.new w (lit8 (T t)) rfl
  have BM : Below w.heap.size w (w.alloc (.cells #[.int .i64 (T t 0), .int .i64 (T t 1), .int .i64 (T t 2), .int .i64 (T t 3), .int .i64 (T t 4), .int .i64 (T t 5), .int .i64 (T t 6), .int .i64 (T t 7)] 65)) := (Below.refl _ w).alloc (Nat.le_refl _) _
  have hc1 := hA.cell l1; have hc2 := hA.cell l2; have hc3 := hA.cell l3; have hc4 := hA.cell l4; have hc5 := hA.cell l5; have hc6 := hA.cell l6
  rw [lit8_at _ l1] at hc1; rw [lit8_at _ l2] at hc2; rw [lit8_at _ l3] at hc3; rw [lit8_at _ l4] at hc4; rw [lit8_at _ l5] at hc5; rw [lit8_at _ l6] at hc6
  have g1 := hv.bd l1; have g2 := hv.bd l2; have g3 := hv.bd l3; have g4 := hv.bd l4; have g5 := hv.bd l5; have g6 := hv.bd l6
  have HYE := fun h => tqB_true (t := t) (i := i) (j := j) (k := k) h
  have HNE := fun h => tqB_false (t := t) (i := i) (j := j) (k := k) h
  obtain ⟨M, hM⟩ : ∃ M, M = tqB t i j k := ⟨_, rfl⟩
  rw [← hM] at HYE HNE ⊢
  obtain ⟨m1, hm1⟩ : ∃ m, m = T t (2 ^ i + 2 ^ j) := ⟨_, rfl⟩
  obtain ⟨m2, hm2⟩ : ∃ m, m = T t (2 ^ i + 2 ^ k) := ⟨_, rfl⟩
  obtain ⟨m3, hm3⟩ : ∃ m, m = T t (2 ^ j + 2 ^ k) := ⟨_, rfl⟩
  obtain ⟨r1, hr1⟩ : ∃ m, m = T t (2 ^ i) := ⟨_, rfl⟩
  obtain ⟨r2, hr2⟩ : ∃ m, m = T t (2 ^ j) := ⟨_, rfl⟩
  obtain ⟨r3, hr3⟩ : ∃ m, m = T t (2 ^ k) := ⟨_, rfl⟩
  rw [← hm1] at hc1 g1 HYE HNE; rw [← hm2] at hc2 g2 HYE HNE; rw [← hm3] at hc3 g3 HYE HNE; rw [← hr1] at hc4 g4 HYE HNE; rw [← hr2] at hc5 g5 HYE HNE; rw [← hr3] at hc6 g6 HYE HNE
  have HY := Lib.hid HYE
  have HN := Lib.hid HNE
  have e1 : IntKind.i64.wrap (m1 + r3) = m1 + r3 := IntWalk.i64_in _ (by omega)
  have e2 : IntKind.i64.wrap (m2 + r2) = m2 + r2 := IntWalk.i64_in _ (by omega)
  have e3 : IntKind.i64.wrap (m3 + r1) = m3 + r1 := IntWalk.i64_in _ (by omega)
  obtain ⟨pi, hpi⟩ : ∃ p, p = 2 ^ i := ⟨_, rfl⟩
  obtain ⟨pj, hpj⟩ : ∃ p, p = 2 ^ j := ⟨_, rfl⟩
  obtain ⟨pk, hpk⟩ : ∃ p, p = 2 ^ k := ⟨_, rfl⟩
  rw [← hpi] at o1 o2 o4 o5 hc1 hc2 hc4 l1 l2 l4 ⊢
  rw [← hpj] at o1 o3 o4 o6 o8 hc1 hc3 hc5 l1 l3 l5 ⊢
  rw [← hpk] at o2 o3 o4 o7 o8 hc2 hc3 hc6 l2 l3 l6 ⊢
  obtain ⟨pij, hpij⟩ : ∃ p, p = pi + pj := ⟨_, rfl⟩
  obtain ⟨pik, hpik⟩ : ∃ p, p = pi + pk := ⟨_, rfl⟩
  obtain ⟨pjk, hpjk⟩ : ∃ p, p = pj + pk := ⟨_, rfl⟩
  rw [← hpij] at o1 o4 hc1 l1
  rw [← hpik] at o2 hc2 l2
  rw [← hpjk] at o3 hc3 l3
  rw [o3] at o8
  have z1 : (0 : Int) ≤ (pij : Int) := by omega
  have z2 : (pij : Int) < 8 := by omega
  have z3 : (0 : Int) ≤ (pik : Int) := by omega
  have z4 : (pik : Int) < 8 := by omega
  have z5 : (0 : Int) ≤ (pjk : Int) := by omega
  have z6 : (pjk : Int) < 8 := by omega
  have z7 : (0 : Int) ≤ (pi : Int) := by omega
  have z8 : (pi : Int) < 8 := by omega
  have z9 : (0 : Int) ≤ (pj : Int) := by omega
  have z10 : (pj : Int) < 8 := by omega
  have z11 : (0 : Int) ≤ (pk : Int) := by omega
  have z12 : (pk : Int) < 8 := by omega
  clear hM hm1 hm2 hm3 hr1 hr2 hr3 hpi hpj hpk hpij hpik hpjk g1 g2 g3 g4 g5 g6 d1 d2 d3 l1 l2 l3 l4 l5 l6 HYE HNE hA hv hi hj hk
  obtain ⟨wT, hwT⟩ : ∃ wT, wT = w.alloc (.cells #[.int .i64 (T t 0), .int .i64 (T t 1), .int .i64 (T t 2), .int .i64 (T t 3), .int .i64 (T t 4), .int .i64 (T t 5), .int .i64 (T t 6), .int .i64 (T t 7)] 65) := ⟨_, rfl⟩
  have HWT := Lib.hid hwT
  rw [← hwT] at hc1 hc2 hc3 hc4 hc5 hc6 BM
  clear hwT
  unfold ag8
  go_enter Try.func86, Try.ntmps86
  go_wp2
  rw [← HWT.out]
  go_loopw [13] (fun iv wr => ∃ s m : Nat, s ≤ 8 ∧ iv = .int .i64 (s : Int) ∧ wr = wT.drewN m ∧ (s = 0 ∨ ¬ max (m2 + r2) (m3 + r1) < m1 + r3)) (fun iv _ => 8 - (intOf iv).toNat)
  case atStart => exact ⟨0, 0, by omega, rfl, rfl, .inl rfl⟩
  case round =>
    obtain ⟨s, m, hs, rfl, rfl, hok⟩ := hrel
    by_cases hlt : s < 8
    · have hs1 : s + 1 ≤ 8 := hlt
      have hs8 : (s : Int) < 8 := by omega
      have ha := and7 hlt
      clear hlt
      rcases Nat.eq_zero_or_pos s with rfl | hp
      · have ha0 : bits .and .i64 0 7 = 0 := ha
        clear ha hok
        by_cases hm : m3 + r1 < m2 + r2
        · by_cases hh : m2 + r2 < m1 + r3
          · have HE := Lib.hid (HN.out (by omega))
            clear HY HN
            go_wp2_with fail
            go_quiet (fail)
            go_wp2_with fail
            go_quiet (fail)
            go_wp2_with fail
            go_quiet (fail)
            go_wp2
            go_ret
            exact ⟨by rw [HE.out]; rfl, by repeat (first | exact BM | refine below_drewN' ?_ _)⟩
          · have HE0 : ¬ max (m2 + r2) (m3 + r1) < m1 + r3 := by omega
            have HE := Lib.hid HE0
            clear HY HN HE0
            go_wp2_with fail
            go_quiet (fail)
            go_wp2_with fail
            go_quiet (fail)
            go_wp2_with fail
            go_quiet (fail)
            go_wp2
            go_roundw
            case rel => exact ⟨1, _, by omega, by go_num, rfl, .inr (by have := HE.out; omega)⟩
            case measure => simp [intOf]
        · by_cases hh : m3 + r1 < m1 + r3
          · have HE := Lib.hid (HN.out (by omega))
            clear HY HN
            go_wp2_with fail
            go_quiet (fail)
            go_wp2_with fail
            go_quiet (fail)
            go_wp2_with fail
            go_quiet (fail)
            go_wp2
            go_ret
            exact ⟨by rw [HE.out]; rfl, by repeat (first | exact BM | refine below_drewN' ?_ _)⟩
          · have HE0 : ¬ max (m2 + r2) (m3 + r1) < m1 + r3 := by omega
            have HE := Lib.hid HE0
            clear HY HN HE0
            go_wp2_with fail
            go_quiet (fail)
            go_wp2_with fail
            go_quiet (fail)
            go_wp2_with fail
            go_quiet (fail)
            go_wp2
            go_roundw
            case rel => exact ⟨1, _, by omega, by go_num, rfl, .inr (by have := HE.out; omega)⟩
            case measure => simp [intOf]
      · have hnz : ¬ (s : Int) = 0 := by omega
        have HOK : Hid (¬ max (m2 + r2) (m3 + r1) < m1 + r3) := Lib.hid (by omega)
        clear hok
        go_wp2
        go_roundw
        case rel => exact ⟨s + 1, _, hs1, by go_num, rfl, .inr (by have := HOK.out; omega)⟩
        case measure => simp [intOf]; omega
    · obtain rfl : s = 8 := by omega
      have HE := Lib.hid (HY.out (by omega))
      clear hok
      go_wp2
      go_ret
      exact ⟨by rw [HE.out]; rfl, below_drewN' BM m⟩

end Go.Proofs.Ytfjncipekjnbjaa
