/-
  The laws of chapter 10: the walk of FnTradeRange.
-/
import Derived.Test.YtpildecpabeanaaEo
import Derived.Test.YtpildecpabeanaaEc
namespace Go.Proofs.Ytpildecpabeanaa
open Go.RowKit

/-- At a price of the range no more have to buy or to sell than trade. -/
def OkP (b s : List Int) (n : Nat) (p : Int) : Prop := abv b p ≤ n ∧ s.length - abv s (p - 1) ≤ n
theorem ok_wt {b s : List Int} {n : Nat} {p : Int} (h : wtB b s n p = true) : OkP b s n p := by
  unfold wtB at h
  simp only [Bool.and_eq_true, decide_eq_true_eq] at h
  exact ⟨h.1.1.2, h.2⟩

set_option maxRecDepth 100000 in
set_option maxHeartbeats 4000000 in
theorem fnTradeRange_walk {A : Option Addr} {c : Nat} {xs : List Int} {w : World} (h : Came .u8 w A c xs) :
    Calls Try.prog 4 #[.slice A xs.length c] w fun e w' => e = .returned (.bool true) ∧ Below w.heap.size w w' := by
  by_cases hlen : 1048576 < xs.length
  · go_enter Try.func4, Try.ntmps4
    go_wp2
    go_ret
    exact ⟨rfl, Below.refl _ _⟩
  have HD := Lib.hid (DrawTradeRange_any A c xs w h)
  clear h
  go_enter Try.func4, Try.ntmps4
  go_wp2_with fail
  refine HD.out.mono ?_
  rintro e w1 ⟨A1, c1, b, A2, c2, s, rfl, hR1, hR2, hl1, hl2, b1⟩
  clear hlen
  have hneg : (vB b && vB s) = false ∨ (vB b && vB s) = true := by cases vB b && vB s <;> simp
  have HEX : Hid (∃ u v : Int, (∀ w2, Below w1.heap.size w1 w2 → Calls Try.prog 19 #[.slice A1 b.length c1, .slice A2 s.length c2] w2 (PairIs w2 u v)) ∧
      (∀ w2, Below w1.heap.size w1 w2 → Calls Try.prog 18 #[.slice A1 b.length c1, .slice A2 s.length c2] w2 (PairIs w2 u v)) ∧
      (u = -1 ∨ (vB b = true ∧ vB s = true ∧ ∃ x y : Nat, u = (x : Int) ∧ v = (y : Int) ∧ x ≤ y ∧ y ≤ 30 ∧ OkP b s (trOf b s) (x : Int) ∧ OkP b s (trOf b s) (y : Int)))) := Lib.hid (by
    rcases hneg with hv | hv
    · exact ⟨-1, -1, fun w2 hb => STradeRange_no A1 A2 c1 c2 b s w2 (hR1.below hb) (hR2.below hb) (by omega) (by omega) hv, fun w2 hb => TradeRange_no A1 A2 c1 c2 b s w2 (hR1.below hb) (hR2.below hb) (by omega) (by omega) hv, .inl rfl⟩
    · simp only [Bool.and_eq_true] at hv
      refine ⟨(rgOf b s).1, (rgOf b s).2, fun w2 hb => STradeRange_yes A1 A2 c1 c2 b s w2 (hR1.below hb) (hR2.below hb) hv.1 hv.2, fun w2 hb => TradeRange_yes A1 A2 c1 c2 b s w2 (hR1.below hb) (hR2.below hb) hv.1 hv.2, ?_⟩
      unfold rgOf
      rcases rgF_is (fun p => wtB b s (trOf b s) (p : Int)) 31 with ⟨e, _⟩ | ⟨x, y, e, h1, h2, h3, h4, _⟩
      · rw [e]; exact .inl rfl
      · rw [e]; exact .inr ⟨hv.1, hv.2, x, y, rfl, rfl, h1, by omega, ok_wt h3, ok_wt h4⟩)
  obtain ⟨u, v, hS, hI, hcase⟩ := HEX.out
  have HS := Lib.hid hS
  have HI := Lib.hid (hI w1 (Below.refl _ _))
  have huu : (u != u) = false := by simp
  have hvv : (v != v) = false := by simp
  clear HEX hS hI hneg HD
  rcases hcase with rfl | ⟨hv1, hv2, x, y, rfl, rfl, hxy, hy30, hx0, hy0⟩
  · clear hR1 hR2
    go_wp2_with fail
    refine HI.out.mono ?_
    rintro e w2 ⟨rfl, b2⟩
    have B2 := Lib.hid (b1.trans (b2.mono b1.size))
    go_wp2_with fail
    refine (HS.out w2 b2).mono ?_
    rintro e w3 ⟨rfl, b3⟩
    have B3 := Lib.hid (B2.out.trans (b3.mono B2.out.size))
    clear b2 b3
    go_wp2
    go_ret
    exact ⟨rfl, B3.out⟩
  · have HT := Lib.hid (fun (w2 : World) (hb : Below w1.heap.size w1 w2) => TradesOf_yes A1 A2 c1 c2 b s w2 (hR1.below hb) (hR2.below hb) hv1 hv2)
    obtain ⟨n, hn⟩ : ∃ n, n = trOf b s := ⟨_, rfl⟩
    obtain ⟨gg, hg⟩ : ∃ g, g = gnOf b s := ⟨_, rfl⟩
    rw [← hn, ← hg] at HT
    rw [← hn] at hx0 hy0
    have HX := Lib.hid hx0
    have HY := Lib.hid hy0
    have hxy' : (x : Int) ≤ (y : Int) := by omega
    clear hv1 hv2 hn hg hx0 hy0
    go_wp2_with fail
    refine HI.out.mono ?_
    rintro e w2 ⟨rfl, b2⟩
    have B2 := Lib.hid (b1.trans (b2.mono b1.size))
    go_wp2_with fail
    refine (HS.out w2 b2).mono ?_
    rintro e w3 ⟨rfl, b3⟩
    have C3 := Lib.hid (b2.trans (b3.mono b2.size))
    have B3 := Lib.hid (B2.out.trans (b3.mono B2.out.size))
    clear b2 b3
    go_wp2_with fail
    refine (HT.out w3 C3.out).mono ?_
    rintro e w4 ⟨rfl, b4⟩
    have B4 := Lib.hid (B3.out.trans (b4.mono B3.out.size))
    have HR1 := Lib.hid (hR1.below (C3.out.trans (b4.mono C3.out.size)))
    have HR2 := Lib.hid (hR2.below (C3.out.trans (b4.mono C3.out.size)))
    clear b4 hR1 hR2 HT HS HI
    go_wp2
    go_loopw [11] (fun pv wr => ∃ (p q : Nat), pv = .int .i64 (p : Int) ∧ wr = w4.drewN q ∧ p ≤ 100 ∧ (p = x ∨ p = y ∨ y < p)) (fun pv _ => y + 1 - (intOf pv).toNat)
    case atStart => exact ⟨x, 0, rfl, rfl, by omega, .inl rfl⟩
    case round =>
      obtain ⟨p, q, rfl, rfl, hp100, hp⟩ := hrel
      by_cases hpy : p ≤ y
      · have HOK : Hid (OkP b s n (p : Int)) := Lib.hid (by rcases hp with rfl | rfl | hp; exact HX.out; exact HY.out; omega)
        have hpy' : (p : Int) ≤ (y : Int) := by omega
        go_wp2
        go_loopw [12, 14] (fun bv iv wr => ∃ (j q' q1 : Nat), j ≤ b.length ∧ q1 ≤ j ∧ bv = .int .i64 (q1 : Int) ∧ iv = .int .i64 (j : Int) ∧ wr = w4.drewN q' ∧ Hid (q1 = abv (b.take j) (p : Int))) (fun _ iv _ => b.length - (intOf iv).toNat)
        case atStart => exact ⟨0, q, 0, Nat.zero_le _, Nat.le_refl _, rfl, rfl, rfl, Lib.hid (by simp [abv])⟩
        case round =>
          obtain ⟨j, q', q1, hj, hq1, rfl, rfl, rfl, HQ1⟩ := hrel
          by_cases hjl : j < b.length
          · obtain ⟨br, off, z, rfl, _, hz, hc⟩ := HR1.out.at_ hjl
            by_cases hpz : (p : Int) < z
            · have H1' : Hid (q1 + 1 = abv (b.take (j + 1)) (p : Int)) := Lib.hid (by rw [abv_take hz.out, if_pos hpz, ← HQ1.out])
              clear HQ1
              go_wp2
              go_roundw
              case rel => exact ⟨j + 1, _, q1 + 1, by omega, by omega, by go_num, by go_num, rfl, H1'⟩
              case measure => simp [intOf]; omega
            · have H1' : Hid (q1 = abv (b.take (j + 1)) (p : Int)) := Lib.hid (by rw [abv_take hz.out, if_neg hpz, ← HQ1.out]; rfl)
              clear HQ1
              go_wp2
              go_roundw
              case rel => exact ⟨j + 1, _, q1, by omega, by omega, rfl, by go_num, rfl, H1'⟩
              case measure => simp [intOf]; omega
          · obtain rfl : j = b.length := by omega
            have hle1 : q1 ≤ n := by have := HQ1.out; rw [abv_all] at this; rw [this]; exact HOK.out.1
            clear HQ1
            go_wp2
            go_loopw [13, 15] (fun bv iv wr => ∃ (j q' q2 : Nat), j ≤ s.length ∧ q2 ≤ j ∧ bv = .int .i64 (q2 : Int) ∧ iv = .int .i64 (j : Int) ∧ wr = w4.drewN q' ∧ Hid (q2 + abv (s.take j) ((p : Int) - 1) = j)) (fun _ iv _ => s.length - (intOf iv).toNat)
            case atStart => exact ⟨0, _, 0, Nat.zero_le _, Nat.le_refl _, rfl, rfl, rfl, Lib.hid (by simp [abv])⟩
            case round =>
              obtain ⟨j, q'', q2, hj, hq2, rfl, rfl, rfl, HQ2⟩ := hrel
              by_cases hjl : j < s.length
              · obtain ⟨br, off, z, rfl, _, hz, hc⟩ := HR2.out.at_ hjl
                by_cases hpz : z < (p : Int)
                · have H1' : Hid (q2 + 1 + abv (s.take (j + 1)) ((p : Int) - 1) = j + 1) := Lib.hid (by rw [abv_take hz.out, if_neg (by omega)]; have := HQ2.out; omega)
                  clear HQ2
                  go_wp2
                  go_roundw
                  case rel => exact ⟨j + 1, _, q2 + 1, by omega, by omega, by go_num, by go_num, rfl, H1'⟩
                  case measure => simp [intOf]; omega
                · have H1' : Hid (q2 + abv (s.take (j + 1)) ((p : Int) - 1) = j + 1) := Lib.hid (by rw [abv_take hz.out, if_pos (by omega)]; have := HQ2.out; omega)
                  clear HQ2
                  go_wp2
                  go_roundw
                  case rel => exact ⟨j + 1, _, q2, by omega, by omega, rfl, by go_num, rfl, H1'⟩
                  case measure => simp [intOf]; omega
              · obtain rfl : j = s.length := by omega
                have hle2 : q2 ≤ n := by have := HQ2.out; rw [abv_all] at this; have := HOK.out.2; omega
                have d1 : ¬ (n : Int) < (q1 : Int) := by omega
                have d2 : ¬ (n : Int) < (q2 : Int) := by omega
                obtain ⟨D, hD⟩ : ∃ D : Nat, D = max (y - x) 1 := ⟨_, rfl⟩
                have hD1 : IntKind.i64.wrap ((y : Int) - (x : Int)) = (y : Int) - (x : Int) := IntWalk.i64_in _ (by omega)
                have hD2 : max ((y : Int) - (x : Int)) 1 = (D : Int) := by omega
                have hD3 : IntKind.i64.wrap ((p : Int) + (D : Int)) = ((p + D : Nat) : Int) := by rw [show (p : Int) + (D : Int) = ((p + D : Nat) : Int) by omega]; exact IntWalk.i64_in _ (by omega)
                have hnx : p + D = x ∨ p + D = y ∨ y < p + D := by omega
                have hD0 : 1 ≤ D ∧ p + D ≤ 100 := by omega
                clear HQ2 hle1 hle2 hD hp
                go_wp2
                go_roundw
                case rel => exact ⟨p + D, _, rfl, rfl, hD0.2, hnx⟩
                case measure => simp [intOf]; omega
      · have hpy' : ¬ (p : Int) ≤ (y : Int) := by omega
        go_wp2
        go_ret
        exact ⟨rfl, below_drewN' B4.out _⟩

end Go.Proofs.Ytpildecpabeanaa
