/-
  Chapter 6: which things may be moved, by the model: moves, byMoves, SwapsByMoves.
-/
import Derived.Test.YtmgdhljlbcfefaaJd
namespace Go.Proofs.Ytmgdhljlbcfefaa
open Go.RowKit

noncomputable def moB (t : List Int) (s x i : Nat) : Bool := @decide (MvOne t s x i) (Classical.propDecidable _)
theorem moB_true {t : List Int} {s x i : Nat} (h : MvOne t s x i) : moB t s x i = true := by unfold moB; simp [h]
theorem moB_false {t : List Int} {s x i : Nat} (h : ¬ MvOne t s x i) : moB t s x i = false := by unfold moB; simp [h]
theorem moB_iff {t : List Int} {s x i : Nat} : moB t s x i = true ↔ MvOne t s x i := by unfold moB; simp
/-- None of the first k things can be moved back. -/
def MvNo (t : List Int) (s x i k : Nat) : Prop := ∀ j, j < k → x / 2 ^ j % 2 = 1 → s / 2 ^ j % 2 = 0 → ¬ T t s + T t x ≤ T t (s - 2 ^ i + 2 ^ j) + T t (x + 2 ^ i - 2 ^ j)
theorem MvNo.zero (t : List Int) (s x i : Nat) : MvNo t s x i 0 := fun j h => absurd h (by omega)
theorem MvNo.next {t : List Int} {s x i k : Nat} (h : MvNo t s x i k) (hk : x / 2 ^ k % 2 = 1 → s / 2 ^ k % 2 = 0 → ¬ T t s + T t x ≤ T t (s - 2 ^ i + 2 ^ k) + T t (x + 2 ^ i - 2 ^ k)) : MvNo t s x i (k + 1) := fun j hj => by
  rcases Nat.lt_or_ge j k with h1 | h1
  · exact h j h1
  · rw [show j = k by omega]; exact hk
theorem moB_all {t : List Int} {s x i : Nat} (h0 : ¬ T t s + T t x ≤ T t (s - 2 ^ i) + T t (x + 2 ^ i)) (h : MvNo t s x i 3) : moB t s x i = false := moB_false (by
  rintro (h1 | ⟨j, hj, h1, h2, h3⟩)
  · exact h0 h1
  · exact h j hj h1 h2 h3)
theorem mv_fit {s x i : Nat} (hs : s < 8) (hx : x < 8) (hi : i < 3) (h1 : s / 2 ^ i % 2 = 1) (h0 : x / 2 ^ i % 2 = 0) : 2 ^ i ≤ s ∧ x + 2 ^ i < 8 ∧ 2 ^ i ≤ 4 := by
  rcases nat3 hi with rfl | rfl | rfl <;> simp at h1 h0 ⊢ <;> omega
theorem mv_fit2 {s x i j : Nat} (hs : s < 8) (hx : x < 8) (hi : i < 3) (hj : j < 3) (h1 : s / 2 ^ i % 2 = 1) (h0 : x / 2 ^ i % 2 = 0) (g1 : x / 2 ^ j % 2 = 1) (g0 : s / 2 ^ j % 2 = 0) : s - 2 ^ i + 2 ^ j < 8 ∧ 2 ^ j ≤ x + 2 ^ i ∧ 2 ^ j ≤ 4 := by
  rcases nat3 hi with rfl | rfl | rfl <;> rcases nat3 hj with rfl | rfl | rfl <;> simp at h1 h0 g1 g0 ⊢ <;> omega

set_option maxRecDepth 100000 in
set_option maxHeartbeats 4000000 in
theorem Smoves_any (A : Option Addr) (c : Nat) (t : List Int) (s x i : Nat) (w : World) (h : Rd w A c t) (hv : VT t) (hs : s < 8) (hx : x < 8) (hi : i < 3) (h1 : s / 2 ^ i % 2 = 1) (h0 : x / 2 ^ i % 2 = 0) :
    Calls Try.prog 103 #[.slice A t.length c, .int .i64 (s : Int), .int .i64 (x : Int), .int .i64 (i : Int)] w fun e w' => e = .returned (.bool (moB t s x i)) ∧ ∃ n, w' = w.drewN n := by
  have h8 := hv.1
  have HBD := Lib.hid (fun s (hs : s < 8) => hv.bd hs)
  obtain ⟨f1, f2, f3⟩ := mv_fit hs hx hi h1 h0
  have HF := Lib.hid (fun j (hj : j < 3) g1 g0 => mv_fit2 hs hx hi hj h1 h0 g1 g0)
  have HPI := Lib.hid (fun w => Spower_any i (by omega) w)
  have HBX := Lib.hid (fun j (hj : j < 3) w => Sbit_any x j hx hj w)
  have HBS := Lib.hid (fun j (hj : j < 3) w => Sbit_any s j hs hj w)
  obtain ⟨b, off, u, rfl, _, hu, hcu⟩ := h.at_ (k := s) (by omega)
  obtain ⟨b2, off2, v, hA, _, hv2, hcv⟩ := h.at_ (k := x) (by omega)
  cases hA
  have hTu := T_of hu.out
  have hTv := T_of hv2.out
  have hub := HBD.out s hs
  have hvb := HBD.out x hx
  rw [hTu] at hub
  rw [hTv] at hvb
  obtain ⟨b3, off3, y, hA, _, hy, hcy⟩ := h.at_ (k := s - 2 ^ i) (by rw [h8]; exact Nat.lt_of_le_of_lt (Nat.sub_le _ _) hs)
  cases hA
  obtain ⟨b4, off4, z, hA, _, hz, hcz⟩ := h.at_ (k := x + 2 ^ i) (by omega)
  cases hA
  have hTy := T_of hy.out
  have hTz := T_of hz.out
  have hyb := HBD.out (s - 2 ^ i) (Nat.lt_of_le_of_lt (Nat.sub_le _ _) hs)
  have hzb := HBD.out (x + 2 ^ i) (by omega)
  rw [hTy] at hyb
  rw [hTz] at hzb
  have HYES : u + v ≤ y + z → Hid (moB t s x i = true) := fun hh => Lib.hid (moB_true (.inl (by rw [hTu, hTv, hTy, hTz]; exact hh)))
  have HALL : ¬ u + v ≤ y + z → Hid (MvNo t s x i 3 → moB t s x i = false) := fun hh => Lib.hid (fun hn => moB_all (by rw [hTu, hTv, hTy, hTz]; exact hh) hn)
  have HTS := Lib.hid (show T t s + T t x = u + v by rw [hTu, hTv])
  have HJY : ∀ j, j < 3 → x / 2 ^ j % 2 = 1 → s / 2 ^ j % 2 = 0 → u + v ≤ T t (s - 2 ^ i + 2 ^ j) + T t (x + 2 ^ i - 2 ^ j) → Hid (moB t s x i = true) := fun j hj g1 g0 hh => Lib.hid (moB_true (.inr ⟨j, hj, g1, g0, by rw [HTS.out]; exact hh⟩))
  have HJY' := Lib.hid HJY
  have HNX : ∀ j, MvNo t s x i j → (x / 2 ^ j % 2 = 1 → s / 2 ^ j % 2 = 0 → ¬ u + v ≤ T t (s - 2 ^ i + 2 ^ j) + T t (x + 2 ^ i - 2 ^ j)) → Hid (MvNo t s x i (j + 1)) := fun j hn hh => Lib.hid (hn.next (fun g1 g0 => by rw [HTS.out]; exact hh g1 g0))
  have HNX' := Lib.hid HNX
  have HC1 := Lib.hid (fun (k : Nat) (hk : k < 8) => h.at_ (k := k) (by omega))
  obtain ⟨p, hp⟩ : ∃ p, p = 2 ^ i := ⟨_, rfl⟩
  obtain ⟨M, hM⟩ : ∃ M, M = moB t s x i := ⟨_, rfl⟩
  rw [← hp] at f1 f2 f3 HF HPI hcy hcz HJY' HNX'
  rw [← hM] at HYES HALL HJY' ⊢
  obtain ⟨q, hq⟩ : ∃ q, q = s - p := ⟨_, rfl⟩
  obtain ⟨r, hr⟩ : ∃ r, r = x + p := ⟨_, rfl⟩
  have HQ := Lib.hid hq
  have HR := Lib.hid hr
  rw [← hq] at hcy HJY' HNX' HF
  rw [← hr] at hcz HJY' HNX' HF
  have e0 : IntKind.i64.wrap (u + v) = u + v := IntWalk.i64_in _ (by omega)
  have e1 : IntKind.i64.wrap (y + z) = y + z := IntWalk.i64_in _ (by omega)
  have e2 : IntKind.i64.wrap ((s : Int) - (p : Int)) = (q : Int) := by rw [IntWalk.i64_in _ (by omega)]; omega
  have e3 : IntKind.i64.wrap ((x : Int) + (p : Int)) = (r : Int) := by rw [IntWalk.i64_in _ (by omega)]; omega
  have hs0 : (0 : Int) ≤ (s : Int) := by omega
  have hs8 : (s : Int) < 8 := by omega
  have hx0 : (0 : Int) ≤ (x : Int) := by omega
  have hx8 : (x : Int) < 8 := by omega
  have hq0 : (0 : Int) ≤ (q : Int) := by omega
  have hq8 : (q : Int) < 8 := by omega
  have hr0 : (0 : Int) ≤ (r : Int) := by omega
  have hr8 : (r : Int) < 8 := by omega
  have hr4 : r ≤ 7 := by omega
  have hq4 : q ≤ 7 := by omega
  have hp4 : p ≤ 4 := f3
  rw [h8]
  clear hq hr hp hM hv hy hz hu hv2 hTy hTz hTu hTv HJY HNX hyb hzb hub hvb f1 f2 f3 h1 h0 hs hx hi
  by_cases hh : u + v ≤ y + z
  · have HE := HYES hh
    clear HYES HALL HJY' HNX'
    go_enter Try.func103, Try.ntmps103
    go_wp2_with fail
    go_quiet (fail)
    go_wp2_with fail
    go_quiet ((go_at_call 56; exact calls_q (HPI.out _)))
    go_wp2
    go_ret
    exact ⟨by rw [HE.out]; rfl, _, World.drewN_drewN _ _ _⟩
  · have HAL := HALL hh
    clear HYES HALL
    go_enter Try.func103, Try.ntmps103
    go_wp2_with fail
    go_quiet (fail)
    go_wp2_with fail
    go_quiet ((go_at_call 56; exact calls_q (HPI.out _)))
    go_wp2
    go_loopw [10] (fun jv wr => ∃ k n : Nat, k ≤ 3 ∧ jv = .int .i64 (k : Int) ∧ wr = w.drewN n ∧ Hid (MvNo t s x i k)) (fun jv _ => 3 - (intOf jv).toNat)
    case atStart => exact ⟨0, _, by omega, rfl, World.drewN_drewN _ _ _, Lib.hid (MvNo.zero t s x i)⟩
    case round =>
      obtain ⟨k, n, hk, rfl, rfl, HN⟩ := hrel
      by_cases hlt : k < 3
      · have hk3 : (k : Int) < 3 := by omega
        have hk1 : k + 1 ≤ 3 := hlt
        have HB1 := Lib.hid (fun (m : Nat) => calls_q (w := w) (m := n) (HBX.out k hlt (w.drewN (n + m))))
        have HB2 := Lib.hid (fun (m : Nat) => calls_q (w := w) (m := n) (HBS.out k hlt (w.drewN (n + m))))
        rcases bit_cases x k with g0 | g1
        · have HU := HNX'.out k HN.out (fun g1 => absurd (g0.symm.trans g1) (by omega))
          rw [g0] at HB1
          clear g0 HN HNX' HJY' hlt HBX HBS
          go_wp2_with fail
          go_quiet (first | (go_at_call 55; with_reducible exact HB1.out _) | (go_at_call 55; with_reducible exact HB2.out _))
          go_wp2
          go_roundw
          case rel => exact ⟨k + 1, _, hk1, by go_num, rfl, HU⟩
          case measure => simp [intOf]; omega
        · rcases bit_cases s k with g0 | g2
          · obtain ⟨f1, f2, f3⟩ := HF.out k hlt g1 g0
            obtain ⟨b5, off5, y5, hA, _, hy5, hc5⟩ := HC1.out (q + 2 ^ k) f1
            cases hA
            obtain ⟨b6, off6, y6, hA, _, hy6, hc6⟩ := HC1.out (r - 2 ^ k) (Nat.lt_of_le_of_lt (Nat.sub_le _ _) (by omega))
            cases hA
            have hT5 := T_of hy5.out
            have hT6 := T_of hy6.out
            have hb5 := HBD.out (q + 2 ^ k) f1
            have hb6 := HBD.out (r - 2 ^ k) (Nat.lt_of_le_of_lt (Nat.sub_le _ _) (by omega))
            rw [hT5] at hb5
            rw [hT6] at hb6
            have HPK := Lib.hid (fun (m : Nat) => calls_q (w := w) (m := n) (Spower_any k (by omega) (w.drewN (n + m))))
            have HPI' := Lib.hid (fun (m : Nat) => calls_q (w := w) (m := n) (HPI.out (w.drewN (n + m))))
            have HYE : u + v ≤ y5 + y6 → Hid (M = true) := fun hh => HJY'.out k hlt g1 g0 (by rw [hT5, hT6]; exact hh)
            have HNE : ¬ u + v ≤ y5 + y6 → Hid (MvNo t s x i (k + 1)) := fun hh => HNX'.out k HN.out (fun _ _ => by rw [hT5, hT6]; omega)
            rw [g1] at HB1
            rw [g0] at HB2
            obtain ⟨pk, hpk⟩ : ∃ pk, pk = 2 ^ k := ⟨_, rfl⟩
            rw [← hpk] at f1 f2 f3 hc5 hc6 HPK
            obtain ⟨q5, hq5⟩ : ∃ q5, q5 = q + pk := ⟨_, rfl⟩
            obtain ⟨r6, hr6⟩ : ∃ r6, r6 = r - pk := ⟨_, rfl⟩
            rw [← hq5] at hc5 f1
            rw [← hr6] at hc6
            have e5 : IntKind.i64.wrap (y5 + y6) = y5 + y6 := IntWalk.i64_in _ (by omega)
            have e6 : IntKind.i64.wrap ((q : Int) + (pk : Int)) = (q5 : Int) := by rw [IntWalk.i64_in _ (by omega)]; omega
            have e7 : IntKind.i64.wrap ((r : Int) - (pk : Int)) = (r6 : Int) := by rw [IntWalk.i64_in _ (by omega)]; omega
            have h50 : (0 : Int) ≤ (q5 : Int) := by omega
            have h58 : (q5 : Int) < 8 := by omega
            have h60 : (0 : Int) ≤ (r6 : Int) := by omega
            have h68 : (r6 : Int) < 8 := by omega
            clear g0 g1 HN HNX' HJY' hlt HBX HBS hq5 hr6 hpk hT5 hT6 hb5 hb6 hy5 hy6 f1 f2 f3 HPI HF HC1
            by_cases hhh : u + v ≤ y5 + y6
            · have HE := HYE hhh
              clear HYE HNE
              go_wp2_with fail
              go_quiet (first | (go_at_call 55; with_reducible exact HB1.out _) | (go_at_call 55; with_reducible exact HB2.out _) | (go_at_call 56; with_reducible exact HPK.out _) | (go_at_call 56; with_reducible exact HPI'.out _))
              go_wp2
              go_ret
              exact ⟨by rw [HE.out]; rfl, _, World.drewN_drewN _ _ _⟩
            · have HE := HNE hhh
              clear HYE HNE
              go_wp2_with fail
              go_quiet (first | (go_at_call 55; with_reducible exact HB1.out _) | (go_at_call 55; with_reducible exact HB2.out _) | (go_at_call 56; with_reducible exact HPK.out _) | (go_at_call 56; with_reducible exact HPI'.out _))
              go_wp2
              go_roundw
              case rel => exact ⟨k + 1, _, hk1, by go_num, rfl, HE⟩
              case measure => simp [intOf]; omega
          · have HU := HNX'.out k HN.out (fun _ g0 => absurd (g2.symm.trans g0) (by omega))
            rw [g1] at HB1
            rw [g2] at HB2
            clear g1 g2 HN HNX' HJY' hlt HBX HBS
            go_wp2_with fail
            go_quiet (first | (go_at_call 55; with_reducible exact HB1.out _) | (go_at_call 55; with_reducible exact HB2.out _))
            go_wp2
            go_roundw
            case rel => exact ⟨k + 1, _, hk1, by go_num, rfl, HU⟩
            case measure => simp [intOf]; omega
      · obtain rfl : k = 3 := by omega
        have HE := Lib.hid (HAL.out HN.out)
        go_wp2
        go_ret
        exact ⟨by rw [HE.out]; rfl, _, rfl⟩

end Go.Proofs.Ytmgdhljlbcfefaa
