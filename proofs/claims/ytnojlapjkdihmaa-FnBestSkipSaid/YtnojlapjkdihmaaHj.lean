/-
  Chapter 11: SkipWins and BestSkip, of the program and of the model, at whatever numbers.
-/
import Derived.Test.YtnojlapjkdihmaaCa
import Derived.Test.YtnojlapjkdihmaaHc
namespace Go.Proofs.Ytnojlapjkdihmaa
open Go.RowKit

/-- Whether of n numbers the first k may be left. -/
def msB (n k : Int) : Bool := decide (n ≤ 6) && decide (0 ≤ k) && decide (k < n)
theorem msB_yes {n k : Int} (h : msB n k = true) : ∃ N K : Nat, n = (N : Int) ∧ k = (K : Int) ∧ 1 ≤ N ∧ N ≤ 6 ∧ K < N := by
  simp only [msB, Bool.and_eq_true, decide_eq_true_eq] at h
  exact ⟨n.toNat, k.toNat, by omega, by omega, by omega, by omega, by omega⟩
theorem msB_in {n k : Int} : (inR n 1 6 && inR k 0 (n - 1)) = msB n k := by
  rw [Bool.eq_iff_iff]
  simp only [msB, Bool.and_eq_true, decide_eq_true_eq, inR_true]
  omega
def swF (n k : Int) : Int := if msB n k = true then winsO n.toNat k.toNat else -1
theorem swF_yes {N K : Nat} (h1 : N ≤ 6) (h2 : K < N) : swF (N : Int) (K : Int) = winsO N K := by
  unfold swF; rw [if_pos (by simp [msB]; omega)]; rfl
theorem swF_no {n k : Int} (h : msB n k = false) : swF n k = -1 := by unfold swF; rw [if_neg (by simp [h])]

theorem fac_bd : ∀ n, n < 7 → 1 ≤ facF n ∧ facF n ≤ 720 := by decide
theorem fac_mul_bd : ∀ n, n < 6 → 1 ≤ facF n * ((n : Int) + 1) ∧ facF n * ((n : Int) + 1) ≤ 720 := by decide
theorem sumJ_bd : ∀ n, n < 7 → ∀ k, k < n → ∀ f, f < n - k + 1 → 0 ≤ sumJ (facF (n - 1) * k) k f ∧ sumJ (facF (n - 1) * k) k f ≤ 10000 := by decide +kernel
theorem fac_k_bd : ∀ n, n < 7 → ∀ k, k < n → 0 ≤ facF (n - 1) * (k : Int) ∧ facF (n - 1) * (k : Int) ≤ 720 := by decide

theorem maySkip_any (n k : Int) (w : World) :
    Calls Try.prog 118 #[.int .i64 n, .int .i64 k] w fun e w' => e = .returned (.bool (msB n k)) ∧ w = w' := by
  by_cases h1 : n ≤ 6 <;> by_cases h2 : 0 ≤ k <;> by_cases h3 : k < n <;>
  · go_enter Try.func118, Try.ntmps118
    go_wp2
    go_ret
    simp [msB, h1, h2, h3]

set_option maxHeartbeats 1000000 in
theorem SkipWins_any (n k : Int) (w : World) :
    Calls Try.prog 44 #[.int .i64 n, .int .i64 k] w fun e w' => e = .returned (.int .i64 (swF n k)) ∧ w = w' := by
  have HM := Lib.hid (maySkip_any n k w)
  cases hb : msB n k with
  | false =>
    have HE := Lib.hid (swF_no hb)
    rw [hb] at HM
    clear hb
    go_enter Try.func44, Try.ntmps44
    go_wp2_with (go_at_call 118; refine HM.out.mono ?_; rintro e w1 ⟨rfl, rfl⟩)
    go_ret
    exact ⟨by rw [HE.out]; rfl, rfl⟩
  | true =>
    rw [hb] at HM
    obtain ⟨N, K, rfl, rfl, n1, n6, hk⟩ := msB_yes hb
    have HE := Lib.hid (swF_yes n6 hk)
    clear hb
    go_enter Try.func44, Try.ntmps44
    go_wp2_with (go_at_call 118; refine HM.out.mono ?_; rintro e w1 ⟨rfl, rfl⟩)
    go_loop [5, 6] (fun a i => ∃ m : Nat, 2 ≤ m ∧ m ≤ 6 ∧ (m ≤ N ∨ m = 2) ∧ i = .int .i64 m ∧ (∃ x, a = .int .i64 x ∧ Hid (x = facF (m - 1)))) (fun _ i => 8 - (intOf i).toNat)
    case atStart => exact ⟨2, by omega, by omega, by omega, rfl, ⟨_, rfl, Lib.hid rfl⟩⟩
    case round =>
      obtain ⟨m, m2, m6, hm, rfl, ⟨x, rfl, HX⟩⟩ := hrel
      by_cases hlt : m < N
      · obtain ⟨q, rfl⟩ : ∃ q, m = q + 1 := ⟨m - 1, by omega⟩
        have hx := fac_bd q (by omega)
        have hx2 := fac_mul_bd q (by omega)
        have e1 : x = facF q := HX.out
        rw [← e1] at hx hx2
        have HN : Hid (x * ((q : Int) + 1) = facF (q + 2 - 1)) := Lib.hid (by rw [e1]; rfl)
        have e2 : ((q + 1 : Nat) : Int) = (q : Int) + 1 := by omega
        clear e1 HX
        go_wp2
        go_round
        case rel => exact ⟨q + 2, by omega, by omega, by omega, by go_num, ⟨_, rfl, HN⟩⟩
        case measure => simp [intOf]; omega
      · have HF : Hid (x = facF (N - 1)) := Lib.hid (by
          have := HX.out
          rcases hm with h | h
          · rw [this, show m = N by omega]
          · rw [this, h]
            rcases Nat.lt_or_ge N 2 with h2 | h2
            · rw [show N = 1 by omega]; rfl
            · rw [show N = 2 by omega])
        clear HX
        by_cases hk0 : K = 0
        · have HG : Hid (x = winsO N K) := Lib.hid (by unfold winsO; rw [if_pos hk0]; exact HF.out)
          have hkb : ((K : Int) == 0) = true := by simp [hk0]
          clear hk0
          go_wp2
          go_ret
          exact ⟨by rw [HE.out, ← HG.out]; rfl, rfl⟩
        · have HG : Hid (sumJ (x * (K : Int)) K (N - K) = winsO N K) := Lib.hid (by unfold winsO; rw [if_neg hk0, HF.out])
          have hk1 : ¬ (K : Int) = 0 := by omega
          have hc := fac_k_bd N (by omega) K hk
          rw [← HF.out] at hc
          have HB : Hid (∀ f, f < N - K + 1 → 0 ≤ sumJ (x * (K : Int)) K f ∧ sumJ (x * (K : Int)) K f ≤ 10000) := Lib.hid (by have := sumJ_bd N (by omega) K hk; rwa [← HF.out] at this)
          go_wp2
          go_loop [7, 8] (fun s i => ∃ f : Nat, f ≤ N - K ∧ i = .int .i64 ((K + f : Nat) : Int) ∧ (∃ y, s = .int .i64 y ∧ Hid (y = sumJ (x * (K : Int)) K f))) (fun _ i => 8 - (intOf i).toNat)
          case atStart => exact ⟨0, by omega, rfl, ⟨_, rfl, Lib.hid rfl⟩⟩
          case round =>
            obtain ⟨f, hf, rfl, ⟨y, rfl, HY⟩⟩ := hrel
            by_cases hfl : f < N - K
            · have hy := HB.out f (by omega)
              have hy2 := HB.out (f + 1) (by omega)
              rw [← HY.out] at hy
              obtain ⟨d, hd⟩ : ∃ d, d = x * (K : Int) / ((K + f : Nat) : Int) := ⟨_, rfl⟩
              have HN : Hid (y + d = sumJ (x * (K : Int)) K (f + 1)) := Lib.hid (by rw [sumJ, ← HY.out, hd])
              rw [← HN.out] at hy2
              have htd : (x * (K : Int)).tdiv ((K + f : Nat) : Int) = d := by rw [hd, Int.tdiv_eq_ediv_of_nonneg hc.1]
              have hj0 : ¬ ((K + f : Nat) : Int) = 0 := by omega
              have hjl : ((K + f : Nat) : Int) < (N : Int) := by omega
              have e3 : x * (K : Int) / ((K : Int) + (f : Int)) = d := by rw [hd, Int.natCast_add]
              have HD := Lib.hid e3
              clear hd e3
              go_wp2
              rw [HD.out, IntWalk.wrap64_in _ (by omega)]
              exact ⟨⟨f + 1, by omega, by go_num, _, rfl, HN⟩, by simp [intOf]; omega⟩
            · obtain rfl : f = N - K := by omega
              have HG2 : Hid (y = winsO N K) := Lib.hid (HY.out.trans HG.out)
              have hjl : ¬ ((K + (N - K) : Nat) : Int) < (N : Int) := by omega
              go_wp2
              go_ret
              exact ⟨by rw [HE.out, ← HG2.out]; rfl, rfl⟩

set_option maxHeartbeats 1000000 in
theorem factorial_any (n : Nat) (w : World) (h6 : n ≤ 6) :
    Calls Try.prog 175 #[.int .i64 n] w fun e w' => e = .returned (.int .i64 (facF n)) ∧ w = w' := by
  go_enter Try.func175, Try.ntmps175
  go_wp2
  go_loop [3, 4] (fun a i => ∃ m : Nat, 2 ≤ m ∧ m ≤ 7 ∧ (m ≤ n + 1 ∨ m = 2) ∧ i = .int .i64 m ∧ (∃ x, a = .int .i64 x ∧ Hid (x = facF (m - 1)))) (fun _ i => 9 - (intOf i).toNat)
  case atStart => exact ⟨2, by omega, by omega, by omega, rfl, ⟨_, rfl, Lib.hid rfl⟩⟩
  case round =>
    obtain ⟨m, m2, m6, hm, rfl, ⟨x, rfl, HX⟩⟩ := hrel
    by_cases hlt : m ≤ n
    · obtain ⟨q, rfl⟩ : ∃ q, m = q + 1 := ⟨m - 1, by omega⟩
      have hx := fac_bd q (by omega)
      have hx2 := fac_mul_bd q (by omega)
      have e1 : x = facF q := HX.out
      rw [← e1] at hx hx2
      have HN : Hid (x * ((q : Int) + 1) = facF (q + 2 - 1)) := Lib.hid (by rw [e1]; rfl)
      have e2 : ((q + 1 : Nat) : Int) = (q : Int) + 1 := by omega
      clear e1 HX
      go_wp2
      go_round
      case rel => exact ⟨q + 2, by omega, by omega, by omega, by go_num, ⟨_, rfl, HN⟩⟩
      case measure => simp [intOf]; omega
    · have HF : Hid (x = facF n) := Lib.hid (by
        have := HX.out
        rcases hm with h | h
        · rw [this, show m = n + 1 by omega]; rfl
        · rw [this, h]
          have : n = 0 ∨ n = 1 := by omega
          rcases this with h2 | h2 <;> rw [h2] <;> rfl)
      clear HX
      go_wp2
      go_ret
      exact ⟨by rw [← HF.out]; rfl, rfl⟩

set_option maxHeartbeats 1000000 in
theorem skipWins_any (N K : Nat) (w : World) (n1 : 1 ≤ N) (n6 : N ≤ 6) (hk : K < N) :
    Calls Try.prog 119 #[.int .i64 N, .int .i64 K] w fun e w' => e = .returned (.int .i64 (winsO N K)) ∧ w = w' := by
  have HF : Hid (∀ w, Calls Try.prog 175 #[.int .i64 ((N : Int) - 1)] w fun e w' => e = .returned (.int .i64 (facF (N - 1))) ∧ w = w') := Lib.hid (fun w => by
    have := factorial_any (N - 1) w (by omega)
    rwa [show ((N - 1 : Nat) : Int) = (N : Int) - 1 by omega] at this)
  by_cases hk0 : K = 0
  · have HG : Hid (facF (N - 1) = winsO N K) := Lib.hid (by unfold winsO; rw [if_pos hk0])
    have hkb : ((K : Int) == 0) = true := by simp [hk0]
    clear hk0
    go_enter Try.func119, Try.ntmps119
    go_wp2_with (go_at_call 175; refine (HF.out _).mono ?_; rintro e w1 ⟨rfl, rfl⟩)
    go_ret
    exact ⟨by rw [← HG.out]; rfl, rfl⟩
  · have hk1 : ((K : Int) == 0) = false := by simp; omega
    obtain ⟨x, hx⟩ : ∃ x, x = facF (N - 1) := ⟨_, rfl⟩
    have HG : Hid (sumJ (x * (K : Int)) K (N - K) = winsO N K) := Lib.hid (by unfold winsO; rw [if_neg hk0, hx])
    have hc := fac_k_bd N (by omega) K hk
    have HB : Hid (∀ f, f < N - K + 1 → 0 ≤ sumJ (x * (K : Int)) K f ∧ sumJ (x * (K : Int)) K f ≤ 10000) := Lib.hid (by have := sumJ_bd N (by omega) K hk; rwa [← hx] at this)
    rw [← hx] at hc HF
    clear hx
    go_enter Try.func119, Try.ntmps119
    go_wp2_with fail
    go_loop [5, 6] (fun s i => ∃ f : Nat, f ≤ N - K ∧ i = .int .i64 ((K + f : Nat) : Int) ∧ (∃ y, s = .int .i64 y ∧ Hid (y = sumJ (x * (K : Int)) K f))) (fun _ i => 8 - (intOf i).toNat)
    case atStart => exact ⟨0, by omega, rfl, ⟨_, rfl, Lib.hid rfl⟩⟩
    case round =>
      obtain ⟨f, hf, rfl, ⟨y, rfl, HY⟩⟩ := hrel
      by_cases hfl : f < N - K
      · have hy := HB.out f (by omega)
        have hy2 := HB.out (f + 1) (by omega)
        rw [← HY.out] at hy
        obtain ⟨d, hd⟩ : ∃ d, d = x * (K : Int) / ((K + f : Nat) : Int) := ⟨_, rfl⟩
        have HN : Hid (y + d = sumJ (x * (K : Int)) K (f + 1)) := Lib.hid (by rw [sumJ, ← HY.out, hd])
        rw [← HN.out] at hy2
        have htd : (x * (K : Int)).tdiv ((K + f : Nat) : Int) = d := by rw [hd, Int.tdiv_eq_ediv_of_nonneg hc.1]
        have hj0 : ¬ ((K + f : Nat) : Int) = 0 := by omega
        have hjl : ((K + f : Nat) : Int) < (N : Int) := by omega
        have e3 : x * (K : Int) / ((K : Int) + (f : Int)) = d := by rw [hd, Int.natCast_add]
        have HD := Lib.hid e3
        clear hd e3
        go_wp2_with (go_at_call 175; refine (HF.out _).mono ?_; rintro e w1 ⟨rfl, rfl⟩)
        rw [HD.out, IntWalk.wrap64_in _ (by omega)]
        go_round
        case rel => exact ⟨f + 1, by omega, by go_num, ⟨_, rfl, HN⟩⟩
        case measure => simp [intOf]; omega
      · obtain rfl : f = N - K := by omega
        have HG2 : Hid (y = winsO N K) := Lib.hid (HY.out.trans HG.out)
        have hjl : ¬ ((K + (N - K) : Nat) : Int) < (N : Int) := by omega
        go_wp2
        go_ret
        exact ⟨by rw [← HG2.out]; rfl, rfl⟩

set_option maxHeartbeats 1000000 in
theorem SSkipWins_any (n k : Int) (w : World) :
    Calls Try.prog 45 #[.int .i64 n, .int .i64 k] w fun e w' => e = .returned (.int .i64 (swF n k)) ∧ w = w' := by
  have HN := Lib.hid (fun w => inRange_any n 1 6 w)
  have HK := Lib.hid (fun w => inRange_any k 0 (n - 1) w)
  have hm := msB_in (n := n) (k := k)
  cases h1 : inR n 1 6 with
  | false =>
    rw [h1, Bool.false_and] at hm
    have HE := Lib.hid (swF_no hm.symm)
    rw [h1] at HN
    clear h1 hm HK
    go_enter Try.func45, Try.ntmps45
    go_wp2_with (go_at_call 116; refine (HN.out _).mono ?_; rintro e w1 ⟨rfl, rfl⟩)
    go_ret
    exact ⟨by rw [HE.out]; rfl, rfl⟩
  | true =>
    rw [h1, Bool.true_and] at hm
    rw [h1] at HN
    have hn := inR_true.1 h1
    have hn1 := hn.1
    have hn2 := hn.2
    clear h1 hn
    cases h2 : inR k 0 (n - 1) with
    | false =>
      have HE := Lib.hid (swF_no (hm ▸ h2))
      rw [h2] at HK
      clear h2 hm
      go_enter Try.func45, Try.ntmps45
      go_wp2_with fail
      refine (HN.out _).mono ?_
      rintro e w1 ⟨rfl, rfl⟩
      go_wp2_with fail
      refine (HK.out _).mono ?_
      rintro e w1 ⟨rfl, rfl⟩
      go_wp2
      go_ret
      exact ⟨by rw [HE.out]; rfl, rfl⟩
    | true =>
      obtain ⟨N, K, rfl, rfl, n1, n6, hk⟩ := msB_yes (hm ▸ h2)
      have HE := Lib.hid (swF_yes n6 hk)
      have HC := Lib.hid (fun w => skipWins_any N K w n1 n6 hk)
      rw [h2] at HK
      clear h2 hm
      go_enter Try.func45, Try.ntmps45
      go_wp2_with fail
      refine (HN.out _).mono ?_
      rintro e w1 ⟨rfl, rfl⟩
      go_wp2_with fail
      refine (HK.out _).mono ?_
      rintro e w1 ⟨rfl, rfl⟩
      go_wp2_with fail
      refine (HC.out _).mono ?_
      rintro e w1 ⟨rfl, rfl⟩
      go_wp2
      go_ret
      exact ⟨by rw [HE.out]; rfl, rfl⟩

def bsF (n : Int) : Int := if inR n 1 6 = true then (bestO n.toNat n.toNat : Nat) else -1
theorem bestO_lt (n : Nat) : ∀ m, bestO n m = 0 ∨ bestO n m < m
  | 0 => .inl rfl
  | m + 1 => by
    rw [bestO]
    split
    · exact .inr (by omega)
    · rcases bestO_lt n m with h | h
      · exact .inl h
      · exact .inr (by omega)
theorem bestO_yes {n m b : Nat} (hb : b = bestO n m) (h : winsO n b < winsO n m) : m = bestO n (m + 1) := by subst hb; rw [bestO, if_pos h]
theorem bestO_no {n m b : Nat} (hb : b = bestO n m) (h : ¬ winsO n b < winsO n m) : b = bestO n (m + 1) := by subst hb; rw [bestO, if_neg h]
theorem wins_bd : ∀ n, n < 7 → ∀ k, k < n → 0 ≤ winsO n k ∧ winsO n k ≤ 10000 := by decide +kernel

set_option maxHeartbeats 1000000 in
theorem BestSkip_any (n : Int) (w : World) :
    Calls Try.prog 51 #[.int .i64 n] w fun e w' => e = .returned (.int .i64 (bsF n)) ∧ w = w' := by
  have HM := Lib.hid (maySkip_any n 0 w)
  have hmi : msB n 0 = inR n 1 6 := by
    rw [Bool.eq_iff_iff, inR_true]
    simp only [msB, Bool.and_eq_true, decide_eq_true_eq]
    omega
  rw [hmi] at HM
  clear hmi
  cases hb : inR n 1 6 with
  | false =>
    have HE : Hid (bsF n = -1) := Lib.hid (by unfold bsF; rw [if_neg (by simp [hb])])
    rw [hb] at HM
    clear hb
    go_enter Try.func51, Try.ntmps51
    go_wp2_with (go_at_call 118; refine HM.out.mono ?_; rintro e w1 ⟨rfl, rfl⟩)
    go_ret
    exact ⟨by rw [HE.out]; rfl, rfl⟩
  | true =>
    rw [hb] at HM
    have hn := inR_true.1 hb
    obtain ⟨N, rfl⟩ : ∃ N : Nat, n = (N : Int) := ⟨n.toNat, by omega⟩
    have n1 : 1 ≤ N := by omega
    have n6 : N ≤ 6 := by omega
    have HE : Hid (bsF (N : Int) = ((bestO N N : Nat) : Int)) := Lib.hid (by unfold bsF; rw [if_pos hb]; rfl)
    have HS : Hid (∀ (k : Nat) (w : World), k < N → Calls Try.prog 44 #[.int .i64 N, .int .i64 k] w fun e w' => e = .returned (.int .i64 (winsO N k)) ∧ w = w') := Lib.hid (fun k w hk => by
      have := SkipWins_any N k w
      rwa [swF_yes n6 hk] at this)
    clear hb hn
    go_enter Try.func51, Try.ntmps51
    go_wp2_with (go_at_call 118; refine HM.out.mono ?_; rintro e w1 ⟨rfl, rfl⟩)
    go_loop [3, 9] (fun s i => ∃ m : Nat, m ≤ N ∧ i = .int .i64 m ∧ (∃ b : Nat, s = .int .i64 b ∧ b < N ∧ Hid (b = bestO N m))) (fun _ i => 8 - (intOf i).toNat)
    case atStart => exact ⟨0, by omega, rfl, ⟨0, rfl, by omega, Lib.hid rfl⟩⟩
    case round =>
      obtain ⟨m, hm, rfl, ⟨b, rfl, hbN, HB⟩⟩ := hrel
      by_cases hlt : m < N
      · have S1 := Lib.hid (fun w => HS.out m w hlt)
        have S2 := Lib.hid (fun w => HS.out b w hbN)
        obtain ⟨x, hx⟩ : ∃ x, x = winsO N m := ⟨_, rfl⟩
        obtain ⟨y, hy⟩ : ∃ y, y = winsO N b := ⟨_, rfl⟩
        rw [← hx] at S1
        rw [← hy] at S2
        have HX := Lib.hid hx
        have HY := Lib.hid hy
        clear hx hy
        go_wp2_with fail
        refine (S1.out _).mono ?_
        rintro e w1 ⟨rfl, rfl⟩
        go_wp2_with fail
        refine (S2.out _).mono ?_
        rintro e w1 ⟨rfl, rfl⟩
        by_cases hxy : y < x
        · have HN : Hid (m = bestO N (m + 1)) := Lib.hid (bestO_yes HB.out (by rw [← HX.out, ← HY.out]; exact hxy))
          go_wp2
          go_round
          case rel => exact ⟨m + 1, by omega, by go_num, ⟨m, rfl, hlt, HN⟩⟩
          case measure => simp [intOf]; omega
        · have HN : Hid (b = bestO N (m + 1)) := Lib.hid (bestO_no HB.out (by rw [← HX.out, ← HY.out]; exact hxy))
          go_wp2
          go_round
          case rel => exact ⟨m + 1, by omega, by go_num, ⟨b, rfl, hbN, HN⟩⟩
          case measure => simp [intOf]; omega
      · obtain rfl : m = N := by omega
        go_wp2
        go_ret
        exact ⟨by rw [HE.out, ← HB.out]; rfl, rfl⟩

theorem bestO_one {N : Nat} : bestO N 1 = 0 := by simp [bestO]

set_option maxHeartbeats 1000000 in
theorem SBestSkip_any (n : Int) (w : World) :
    Calls Try.prog 52 #[.int .i64 n] w fun e w' => e = .returned (.int .i64 (bsF n)) ∧ w = w' := by
  have HM := Lib.hid (inRange_any n 1 6 w)
  cases hb : inR n 1 6 with
  | false =>
    have HE : Hid (bsF n = -1) := Lib.hid (by unfold bsF; rw [if_neg (by simp [hb])])
    rw [hb] at HM
    clear hb
    go_enter Try.func52, Try.ntmps52
    go_wp2_with (go_at_call 116; refine HM.out.mono ?_; rintro e w1 ⟨rfl, rfl⟩)
    go_ret
    exact ⟨by rw [HE.out]; rfl, rfl⟩
  | true =>
    rw [hb] at HM
    have hn := inR_true.1 hb
    obtain ⟨N, rfl⟩ : ∃ N : Nat, n = (N : Int) := ⟨n.toNat, by omega⟩
    have n1 : 1 ≤ N := by omega
    have n6 : N ≤ 6 := by omega
    have HE : Hid (bsF (N : Int) = ((bestO N N : Nat) : Int)) := Lib.hid (by unfold bsF; rw [if_pos hb]; rfl)
    have HS : Hid (∀ (k : Nat) (w : World), k < N → Calls Try.prog 119 #[.int .i64 N, .int .i64 k] w fun e w' => e = .returned (.int .i64 (winsO N k)) ∧ w = w') := Lib.hid (fun k w hk => skipWins_any N k w n1 n6 hk)
    clear hb hn
    go_enter Try.func52, Try.ntmps52
    go_wp2_with (go_at_call 116; refine HM.out.mono ?_; rintro e w1 ⟨rfl, rfl⟩)
    go_loop [3, 4] (fun s i => ∃ m : Nat, 1 ≤ m ∧ m ≤ N ∧ i = .int .i64 m ∧ (∃ b : Nat, s = .int .i64 b ∧ b < N ∧ Hid (b = bestO N m))) (fun _ i => 8 - (intOf i).toNat)
    case atStart => exact ⟨1, by omega, by omega, rfl, ⟨0, rfl, by omega, Lib.hid bestO_one.symm⟩⟩
    case round =>
      obtain ⟨m, m1, hm, rfl, ⟨b, rfl, hbN, HB⟩⟩ := hrel
      by_cases hlt : m < N
      · have S1 := Lib.hid (fun w => HS.out m w hlt)
        have S2 := Lib.hid (fun w => HS.out b w hbN)
        obtain ⟨x, hx⟩ : ∃ x, x = winsO N m := ⟨_, rfl⟩
        obtain ⟨y, hy⟩ : ∃ y, y = winsO N b := ⟨_, rfl⟩
        rw [← hx] at S1
        rw [← hy] at S2
        have HX := Lib.hid hx
        have HY := Lib.hid hy
        clear hx hy
        go_wp2_with fail
        refine (S1.out _).mono ?_
        rintro e w1 ⟨rfl, rfl⟩
        go_wp2_with fail
        refine (S2.out _).mono ?_
        rintro e w1 ⟨rfl, rfl⟩
        by_cases hxy : y < x
        · have HN : Hid (m = bestO N (m + 1)) := Lib.hid (bestO_yes HB.out (by rw [← HX.out, ← HY.out]; exact hxy))
          go_wp2
          go_round
          case rel => exact ⟨m + 1, by omega, by omega, by go_num, ⟨m, rfl, hlt, HN⟩⟩
          case measure => simp [intOf]; omega
        · have HN : Hid (b = bestO N (m + 1)) := Lib.hid (bestO_no HB.out (by rw [← HX.out, ← HY.out]; exact hxy))
          go_wp2
          go_round
          case rel => exact ⟨m + 1, by omega, by omega, by go_num, ⟨b, rfl, hbN, HN⟩⟩
          case measure => simp [intOf]; omega
      · obtain rfl : m = N := by omega
        go_wp2
        go_ret
        exact ⟨by rw [HE.out, ← HB.out]; rfl, rfl⟩
end Go.Proofs.Ytnojlapjkdihmaa
