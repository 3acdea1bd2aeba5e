/-
  Chapter 10, the model: the contract of TradeRange.
-/
import Derived.Test.YtpildecpabeanaaEg
import Derived.Test.YtpildecpabeanaaEd
namespace Go.Proofs.Ytpildecpabeanaa
open Go.RowKit

set_option maxRecDepth 100000 in
set_option maxHeartbeats 4000000 in
theorem STradeRange_yes (A A2 : Option Addr) (c c2 : Nat) (b s : List Int) (w : World) (h : Rd w A c b) (h2 : Rd w A2 c2 s) (hb : vB b = true) (hs : vB s = true) :
    Calls Try.prog 19 #[.slice A b.length c, .slice A2 s.length c2] w (PairIs w (rgOf b s).1 (rgOf b s).2) := by
  have HB := Lib.hid (vB_Bd hb)
  have HS := Lib.hid (vB_Bd hs)
  have hbl := HB.out.1.2
  have hsl := HS.out.1.2
  have HV := Lib.hid (validTrade_any A A2 c c2 b s w h h2 (by omega) (by omega))
  rw [hb, hs] at HV
  have HT := Lib.hid (Strades_any A A2 c c2 b s w h h2 HB.out HS.out)
  obtain ⟨n, hn⟩ : ∃ n, n = trOf b s := ⟨_, rfl⟩
  have HRG : Hid (rgOf b s = rgF (fun p => wtB b s n (p : Int)) 31) := Lib.hid (by rw [hn]; rfl)
  rw [← hn] at HT
  clear hb hs hn
  go_enter Try.func19, Try.ntmps19
  go_wp2_with fail
  refine HV.out.mono ?_
  rintro e w1 ⟨rfl, rfl⟩
  go_wp2_with fail
  refine HT.out.mono ?_
  rintro e w1 ⟨rfl, b1⟩
  have HR1 := Lib.hid (h.below b1)
  have HR2 := Lib.hid (h2.below b1)
  clear h h2
  go_wp2
  go_loopw [8, 9, 10] (fun lv hv pv wr => ∃ (k q : Nat) (lo hi : Int), k ≤ 31 ∧ lv = .int .i64 lo ∧ hv = .int .i64 hi ∧ pv = .int .i64 (k : Int) ∧ wr = w1.drewN q ∧ -1 ≤ lo ∧ Hid (rgF (fun p => wtB b s n (p : Int)) k = (lo, hi)))
    (fun _ _ pv _ => 31 - (intOf pv).toNat)
  case atStart => exact ⟨0, 0, -1, -1, by decide, rfl, rfl, rfl, rfl, by decide, Lib.hid rfl⟩
  case round =>
    obtain ⟨k, q, lo, hi, hk, rfl, rfl, rfl, rfl, hlo, HR⟩ := hrel
    by_cases hlt : k < 31
    · have hlt' : (k : Int) ≤ 30 := by omega
      go_wp2
      go_loopw [11, 12, 13] (fun bv mv iv wr => ∃ (j q' q1 q2 : Nat), j ≤ b.length ∧ q1 ≤ j ∧ q2 ≤ j ∧ bv = .int .i64 (q1 : Int) ∧ mv = .int .i64 (q2 : Int) ∧ iv = .int .i64 (j : Int) ∧ wr = w1.drewN q' ∧ Hid (q1 = abv (b.take j) ((k : Int) - 1)) ∧ Hid (q2 = abv (b.take j) (k : Int)))
        (fun _ _ iv _ => b.length - (intOf iv).toNat)
      case atStart => exact ⟨0, q, 0, 0, Nat.zero_le _, Nat.le_refl _, Nat.le_refl _, rfl, rfl, rfl, rfl, Lib.hid (by simp [abv]), Lib.hid (by simp [abv])⟩
      case round =>
        obtain ⟨j, q', q1, q2, hj, hq1, hq2, rfl, rfl, rfl, rfl, HQ1, HQ2⟩ := hrel
        by_cases hjl : j < b.length
        · obtain ⟨br, off, x, rfl, _, hx, hc⟩ := HR1.out.at_ hjl
          rcases Int.lt_trichotomy (k : Int) x with hxk | hxk | hxk
          · have hge : (k : Int) ≤ x := by omega
            have H1' : Hid (q1 + 1 = abv (b.take (j + 1)) ((k : Int) - 1)) := Lib.hid (by rw [abv_take hx.out, if_pos (by omega), ← HQ1.out])
            have H2' : Hid (q2 + 1 = abv (b.take (j + 1)) (k : Int)) := Lib.hid (by rw [abv_take hx.out, if_pos hxk, ← HQ2.out])
            have b1' : q1 + 1 ≤ j + 1 := by omega
            have b2' : q2 + 1 ≤ j + 1 := by omega
            clear HQ1 HQ2
            go_wp2
            go_roundw
            case rel => exact ⟨j + 1, _, q1 + 1, q2 + 1, by omega, b1', b2', by go_num, by go_num, by go_num, rfl, H1', H2'⟩
            case measure => simp [intOf]; omega
          · have hge : (k : Int) ≤ x := by omega
            have hng : ¬ (k : Int) < x := by omega
            have H1' : Hid (q1 + 1 = abv (b.take (j + 1)) ((k : Int) - 1)) := Lib.hid (by rw [abv_take hx.out, if_pos (by omega), ← HQ1.out])
            have H2' : Hid (q2 = abv (b.take (j + 1)) (k : Int)) := Lib.hid (by rw [abv_take hx.out, if_neg (by omega), ← HQ2.out]; rfl)
            have b1' : q1 + 1 ≤ j + 1 := by omega
            have b2' : q2 ≤ j + 1 := by omega
            clear HQ1 HQ2 hxk
            go_wp2
            go_roundw
            case rel => exact ⟨j + 1, _, q1 + 1, q2, by omega, b1', b2', by go_num, rfl, by go_num, rfl, H1', H2'⟩
            case measure => simp [intOf]; omega
          · have hge : ¬ (k : Int) ≤ x := by omega
            have hng : ¬ (k : Int) < x := by omega
            have H1' : Hid (q1 = abv (b.take (j + 1)) ((k : Int) - 1)) := Lib.hid (by rw [abv_take hx.out, if_neg (by omega), ← HQ1.out]; rfl)
            have H2' : Hid (q2 = abv (b.take (j + 1)) (k : Int)) := Lib.hid (by rw [abv_take hx.out, if_neg (by omega), ← HQ2.out]; rfl)
            have b1' : q1 ≤ j + 1 := by omega
            have b2' : q2 ≤ j + 1 := by omega
            clear HQ1 HQ2 hxk
            go_wp2
            go_roundw
            case rel => exact ⟨j + 1, _, q1, q2, by omega, b1', b2', rfl, rfl, by go_num, rfl, H1', H2'⟩
            case measure => simp [intOf]; omega
        · obtain rfl : j = b.length := by omega
          have HQ1 : Hid (q1 = abv b ((k : Int) - 1)) := Lib.hid (by have := HQ1.out; rwa [abv_all] at this)
          have HQ2 : Hid (q2 = abv b (k : Int)) := Lib.hid (by have := HQ2.out; rwa [abv_all] at this)
          go_wp2
          go_loopw [14, 15, 16] (fun bv mv iv wr => ∃ (j q' q3 q4 : Nat), j ≤ s.length ∧ q3 ≤ j ∧ q4 ≤ j ∧ bv = .int .i64 (q3 : Int) ∧ mv = .int .i64 (q4 : Int) ∧ iv = .int .i64 (j : Int) ∧ wr = w1.drewN q' ∧ Hid (q3 + abv (s.take j) (k : Int) = j) ∧ Hid (q4 + abv (s.take j) ((k : Int) - 1) = j))
            (fun _ _ iv _ => s.length - (intOf iv).toNat)
          case atStart => exact ⟨0, _, 0, 0, Nat.zero_le _, Nat.le_refl _, Nat.le_refl _, rfl, rfl, rfl, rfl, Lib.hid (by simp [abv]), Lib.hid (by simp [abv])⟩
          case round =>
            obtain ⟨j, q'', q3, q4, hj, hq3, hq4, rfl, rfl, rfl, rfl, HQ3, HQ4⟩ := hrel
            by_cases hjl : j < s.length
            · obtain ⟨br, off, x, rfl, _, hx, hc⟩ := HR2.out.at_ hjl
              rcases Int.lt_trichotomy x (k : Int) with hxk | hxk | hxk
              · have hge : x ≤ (k : Int) := by omega
                have H3' : Hid (q3 + 1 + abv (s.take (j + 1)) (k : Int) = j + 1) := Lib.hid (by rw [abv_take hx.out, if_neg (by omega)]; have := HQ3.out; omega)
                have H4' : Hid (q4 + 1 + abv (s.take (j + 1)) ((k : Int) - 1) = j + 1) := Lib.hid (by rw [abv_take hx.out, if_neg (by omega)]; have := HQ4.out; omega)
                have b1' : q3 + 1 ≤ j + 1 := by omega
                have b2' : q4 + 1 ≤ j + 1 := by omega
                clear HQ3 HQ4
                go_wp2
                go_roundw
                case rel => exact ⟨j + 1, _, q3 + 1, q4 + 1, by omega, b1', b2', by go_num, by go_num, by go_num, rfl, H3', H4'⟩
                case measure => simp [intOf]; omega
              · have hge : x ≤ (k : Int) := by omega
                have hng : ¬ x < (k : Int) := by omega
                have H3' : Hid (q3 + 1 + abv (s.take (j + 1)) (k : Int) = j + 1) := Lib.hid (by rw [abv_take hx.out, if_neg (by omega)]; have := HQ3.out; omega)
                have H4' : Hid (q4 + abv (s.take (j + 1)) ((k : Int) - 1) = j + 1) := Lib.hid (by rw [abv_take hx.out, if_pos (by omega)]; have := HQ4.out; omega)
                have b1' : q3 + 1 ≤ j + 1 := by omega
                have b2' : q4 ≤ j + 1 := by omega
                clear HQ3 HQ4 hxk
                go_wp2
                go_roundw
                case rel => exact ⟨j + 1, _, q3 + 1, q4, by omega, b1', b2', by go_num, rfl, by go_num, rfl, H3', H4'⟩
                case measure => simp [intOf]; omega
              · have hge : ¬ x ≤ (k : Int) := by omega
                have hng : ¬ x < (k : Int) := by omega
                have H3' : Hid (q3 + abv (s.take (j + 1)) (k : Int) = j + 1) := Lib.hid (by rw [abv_take hx.out, if_pos (by omega)]; have := HQ3.out; omega)
                have H4' : Hid (q4 + abv (s.take (j + 1)) ((k : Int) - 1) = j + 1) := Lib.hid (by rw [abv_take hx.out, if_pos (by omega)]; have := HQ4.out; omega)
                have b1' : q3 ≤ j + 1 := by omega
                have b2' : q4 ≤ j + 1 := by omega
                clear HQ3 HQ4 hxk
                go_wp2
                go_roundw
                case rel => exact ⟨j + 1, _, q3, q4, by omega, b1', b2', rfl, rfl, by go_num, rfl, H3', H4'⟩
                case measure => simp [intOf]; omega
            · obtain rfl : j = s.length := by omega
              have HQ3 : Hid (q3 + abv s (k : Int) = s.length) := Lib.hid (by have := HQ3.out; rwa [abv_all] at this)
              have HQ4 : Hid (q4 + abv s ((k : Int) - 1) = s.length) := Lib.hid (by have := HQ4.out; rwa [abv_all] at this)
              by_cases c1 : q1 < n
              · have HWF : Hid (wtB b s n (k : Int) = false) := Lib.hid (wt_1 (by rw [← HQ1.out]; omega))
                have c0 : (q1 : Int) < (n : Int) := by omega
                have HW' : Hid (rgF (fun p => wtB b s n (p : Int)) (k + 1) = (lo, hi)) := Lib.hid (by rw [rgF_no HWF.out]; exact HR.out)
                clear c1 HQ1 HQ2 HQ3 HQ4
                go_wp2
                go_roundw
                case rel => exact ⟨k + 1, _, lo, hi, by omega, rfl, rfl, by go_num, rfl, hlo, HW'⟩
                case measure => simp [intOf]; omega
              · have d1 : ¬ (q1 : Int) < (n : Int) := by omega
                by_cases c3 : q3 < n
                · have HWF : Hid (wtB b s n (k : Int) = false) := Lib.hid (wt_3 (by have := HQ3.out; omega))
                  have c0 : (q3 : Int) < (n : Int) := by omega
                  have HW' : Hid (rgF (fun p => wtB b s n (p : Int)) (k + 1) = (lo, hi)) := Lib.hid (by rw [rgF_no HWF.out]; exact HR.out)
                  clear c1 c3 HQ1 HQ2 HQ3 HQ4
                  go_wp2
                  go_roundw
                  case rel => exact ⟨k + 1, _, lo, hi, by omega, rfl, rfl, by go_num, rfl, hlo, HW'⟩
                  case measure => simp [intOf]; omega
                · have d3 : ¬ (q3 : Int) < (n : Int) := by omega
                  by_cases c2 : n < q2
                  · have HWF : Hid (wtB b s n (k : Int) = false) := Lib.hid (wt_2 (by rw [← HQ2.out]; omega))
                    have c0 : (n : Int) < (q2 : Int) := by omega
                    have HW' : Hid (rgF (fun p => wtB b s n (p : Int)) (k + 1) = (lo, hi)) := Lib.hid (by rw [rgF_no HWF.out]; exact HR.out)
                    clear c1 c3 c2 HQ1 HQ2 HQ3 HQ4
                    go_wp2
                    go_roundw
                    case rel => exact ⟨k + 1, _, lo, hi, by omega, rfl, rfl, by go_num, rfl, hlo, HW'⟩
                    case measure => simp [intOf]; omega
                  · have d2 : ¬ (n : Int) < (q2 : Int) := by omega
                    by_cases c4 : n < q4
                    · have HWF : Hid (wtB b s n (k : Int) = false) := Lib.hid (wt_4 (by have := HQ4.out; omega))
                      have c0 : (n : Int) < (q4 : Int) := by omega
                      have HW' : Hid (rgF (fun p => wtB b s n (p : Int)) (k + 1) = (lo, hi)) := Lib.hid (by rw [rgF_no HWF.out]; exact HR.out)
                      clear c1 c3 c2 c4 HQ1 HQ2 HQ3 HQ4
                      go_wp2
                      go_roundw
                      case rel => exact ⟨k + 1, _, lo, hi, by omega, rfl, rfl, by go_num, rfl, hlo, HW'⟩
                      case measure => simp [intOf]; omega
                    · have d4 : ¬ (n : Int) < (q4 : Int) := by omega
                      have HWF : Hid (wtB b s n (k : Int) = true) := Lib.hid (wt_0 (by rw [← HQ1.out]; omega) (by rw [← HQ2.out]; omega) (by have := HQ3.out; omega) (by have := HQ4.out; omega))
                      by_cases hl0 : lo < 0
                      · have HW' : Hid (rgF (fun p => wtB b s n (p : Int)) (k + 1) = ((k : Int), (k : Int))) := Lib.hid (by rw [rgF_yes HWF.out, HR.out, if_pos hl0])
                        clear c1 c2 c3 c4 HQ1 HQ2 HQ3 HQ4
                        go_wp2
                        go_roundw
                        case rel => exact ⟨k + 1, _, k, k, by omega, rfl, rfl, by go_num, rfl, by omega, HW'⟩
                        case measure => simp [intOf]; omega
                      · have HW' : Hid (rgF (fun p => wtB b s n (p : Int)) (k + 1) = (lo, (k : Int))) := Lib.hid (by rw [rgF_yes HWF.out, HR.out, if_neg hl0])
                        clear c1 c2 c3 c4 HQ1 HQ2 HQ3 HQ4
                        go_wp2
                        go_roundw
                        case rel => exact ⟨k + 1, _, lo, k, by omega, rfl, rfl, by go_num, rfl, hlo, HW'⟩
                        case measure => simp [intOf]; omega
    · obtain rfl : k = 31 := by omega
      have HE : Hid (rgOf b s = (lo, hi)) := Lib.hid (by rw [HRG.out]; exact HR.out)
      go_wp2
      go_ret2
      exact ⟨by rw [HE.out]; rfl, below_drewN' b1 _⟩

theorem STradeRange_no (A A2 : Option Addr) (c c2 : Nat) (b s : List Int) (w : World) (h : Rd w A c b) (h2 : Rd w A2 c2 s) (hl : b.length ≤ 1099511627776) (hl2 : s.length ≤ 1099511627776) (hv : (vB b && vB s) = false) :
    Calls Try.prog 19 #[.slice A b.length c, .slice A2 s.length c2] w (PairIs w (-1) (-1)) := by
  have HV := Lib.hid (validTrade_any A A2 c c2 b s w h h2 hl hl2)
  rw [hv] at HV
  clear h h2 hv
  go_enter Try.func19, Try.ntmps19
  go_wp2_with fail
  refine HV.out.mono ?_
  rintro e w1 ⟨rfl, rfl⟩
  go_wp2
  go_ret2
  exact ⟨rfl, Below.refl _ _⟩

end Go.Proofs.Ytpildecpabeanaa
