/-
  The walk of the law of BestSkip.
-/
import Derived.Test.YtnojlapjkdihmaaHj
import Derived.Test.YtnojlapjkdihmaaDrawD
namespace Go.Proofs.Ytnojlapjkdihmaa
open Go.RowKit

theorem best_wins : ∀ n, n < 7 → ∀ k, k < n → winsO n k ≤ winsO n (bestO n n) ∧ (k < bestO n n → winsO n k < winsO n (bestO n n)) := by decide +kernel
theorem best_third : ∀ n, n < 7 → facF n ≤ 3 * winsO n (bestO n n) ∨ n = 0 := by decide +kernel

set_option maxHeartbeats 1000000 in
theorem product_any (n : Nat) (w : World) (h6 : n ≤ 6) :
    Calls Try.prog 47 #[.int .i64 n] w fun e w' => e = .returned (.int .i64 (facF n)) ∧ w = w' := by
  go_enter Try.func47, Try.ntmps47
  go_wp2
  go_loop [3, 4] (fun a i => ∃ m : Nat, 2 ≤ m ∧ m ≤ 7 ∧ (m ≤ n + 1 ∨ m = 2) ∧ i = .int .i64 m ∧ (∃ x, a = .int .i64 x ∧ Hid (x = facF (m - 1)))) (fun _ i => 9 - (intOf i).toNat)
  case atStart => exact ⟨2, by omega, by omega, by omega, rfl, ⟨_, rfl, Lib.hid rfl⟩⟩
  case round =>
    obtain ⟨m, m2, m6, hm, rfl, ⟨x, rfl, HX⟩⟩ := hrel
    by_cases hlt : m ≤ n
    · obtain ⟨q, rfl⟩ : ∃ q, m = q + 1 := ⟨m - 1, by omega⟩
      have hx := fac_bd q (by omega)
      have hx2 := fac_mul_bd q (by omega)
      have e1 : x = facF q := HX.out
      rw [← e1] at hx hx2
      have HN : Hid (x * ((q : Int) + 1) = facF (q + 2 - 1)) := Lib.hid (by rw [e1]; rfl)
      have e2 : ((q + 1 : Nat) : Int) = (q : Int) + 1 := by omega
      clear e1 HX
      go_wp2
      go_round
      case rel => exact ⟨q + 2, by omega, by omega, by omega, by go_num, ⟨_, rfl, HN⟩⟩
      case measure => simp [intOf]; omega
    · have HF : Hid (x = facF n) := Lib.hid (by
        have := HX.out
        rcases hm with h | h
        · rw [this, show m = n + 1 by omega]; rfl
        · rw [this, h]
          have : n = 0 ∨ n = 1 := by omega
          rcases this with h2 | h2 <;> rw [h2] <;> rfl)
      clear HX
      go_wp2
      go_ret
      exact ⟨by rw [← HF.out]; rfl, rfl⟩

set_option maxHeartbeats 1000000 in
theorem DrawBestSkip_any (A : Option Addr) (c : Nat) (xs : List Int) (w : World) (h : Came .u8 w A c xs) :
    Calls Try.prog 50 #[.slice A xs.length c] w fun e w' => ∃ n : Int, e = .returned (.int .i64 n) ∧ 0 ≤ n ∧ n ≤ 7 ∧ Below w.heap.size w w' := by
  go_enter Try.func50, Try.ntmps50
  go_wp2_with fail
  refine (newReader_any A c xs w h).mono ?_
  rintro e w1 ⟨rb, rfl, hrb, hr1, hb1⟩
  go_wp2_with fail
  refine (one_new rb 0 8 [4, 5, 3, 6, 2, 1, 0, 7] _ w1 rfl rfl hr1 (by decide) (by decide) (by decide)).mono ?_
  rintro e w2 ⟨x, hx, rfl, hr2, hg2⟩
  have B2 := hb1.trans (gb_below hg2 hb1.size hrb)
  have hx7 : 0 ≤ x ∧ x ≤ 7 := by simp at hx; omega
  clear hx
  go_wp2
  go_ret
  exact ⟨x, rfl, hx7.1, hx7.2, B2⟩

set_option maxRecDepth 100000 in
set_option maxHeartbeats 4000000 in
theorem fnBestSkip_walk {A : Option Addr} {c : Nat} {xs : List Int} {w : World} (h : Came .u8 w A c xs) :
    Calls Try.prog 12 #[.slice A xs.length c] w fun e w' => e = .returned (.bool true) ∧ Below w.heap.size w w' := by
  by_cases hlen : 1048576 < xs.length
  · go_enter Try.func12, Try.ntmps12
    go_wp2
    go_ret
    exact ⟨rfl, Below.refl _ _⟩
  have hl0 : xs.length ≤ 1048576 := by omega
  have HDR := Lib.hid (DrawBestSkip_any A c xs w h)
  clear hlen h
  go_enter Try.func12, Try.ntmps12
  go_wp2_with fail
  refine HDR.out.mono ?_
  rintro e w1 ⟨n, rfl, n0, n7, B1⟩
  clear HDR
  have HI := Lib.hid (fun w => BestSkip_any n w)
  have HS := Lib.hid (fun w => SBestSkip_any n w)
  cases hb : inR n 1 6 with
  | false =>
    have hE : bsF n = -1 := by unfold bsF; rw [if_neg (by simp [hb])]
    rw [hE] at HI HS
    clear hb hE
    go_wp2_with fail
    refine (HI.out _).mono ?_
    rintro e w2 ⟨rfl, rfl⟩
    go_wp2_with fail
    refine (HS.out _).mono ?_
    rintro e w2 ⟨rfl, rfl⟩
    go_wp2_with fail
    refine (HS.out _).mono ?_
    rintro e w2 ⟨rfl, rfl⟩
    go_wp2
    go_ret
    exact ⟨rfl, B1⟩
  | true =>
    have hn := inR_true.1 hb
    obtain ⟨N, rfl⟩ : ∃ N : Nat, n = (N : Int) := ⟨n.toNat, by omega⟩
    have n1 : 1 ≤ N := by omega
    have n6 : N ≤ 6 := by omega
    obtain ⟨b, hbb⟩ : ∃ b, b = bestO N N := ⟨_, rfl⟩
    have hE : bsF (N : Int) = (b : Int) := by unfold bsF; rw [if_pos hb, hbb]; rfl
    have hbN : b < N := by have := bestO_lt N N; omega
    rw [hE] at HI HS
    have HW : Hid (∀ (k : Nat) (w : World), k < N → Calls Try.prog 44 #[.int .i64 N, .int .i64 k] w fun e w' => e = .returned (.int .i64 (winsO N k)) ∧ w = w') := Lib.hid (fun k w hk => by
      have := SkipWins_any N k w
      rwa [swF_yes n6 hk] at this)
    have HB := Lib.hid (fun k (hk : k < N) => by have := best_wins N (by omega) k hk; rw [← hbb] at this; exact this : ∀ k, k < N → winsO N k ≤ winsO N b ∧ (k < b → winsO N k < winsO N b))
    have h3 := best_third N (by omega)
    rw [← hbb] at h3
    have hyb := wins_bd N (by omega) b hbN
    have hfb := fac_bd N (by omega)
    have HP := Lib.hid (fun w => product_any N w n6)
    have HY := Lib.hid (fun w => HW.out b w hbN)
    obtain ⟨y, hy⟩ : ∃ y, y = winsO N b := ⟨_, rfl⟩
    rw [← hy] at HB HY h3 hyb
    obtain ⟨f, hf⟩ : ∃ f, f = facF N := ⟨_, rfl⟩
    rw [← hf] at HP h3 hfb
    have h3' : f ≤ 3 * y := by omega
    have hbi : (b : Int) < (N : Int) := by omega
    clear h3 hf hy hbb hE hb hn n0 n7
    go_wp2_with fail
    refine (HI.out _).mono ?_
    rintro e w2 ⟨rfl, rfl⟩
    go_wp2_with fail
    refine (HS.out _).mono ?_
    rintro e w2 ⟨rfl, rfl⟩
    go_wp2_with fail
    go_loop [5] (fun i => ∃ k : Nat, k ≤ N ∧ i = .int .i64 k) (fun i => N - (intOf i).toNat)
    case atStart => exact ⟨0, by omega, rfl⟩
    case round =>
      obtain ⟨k, hk, rfl⟩ := hrel
      by_cases hlt : k < N
      · have HX := Lib.hid (fun w => HW.out k w hlt)
        have hx := HB.out k hlt
        obtain ⟨x, hxe⟩ : ∃ x, x = winsO N k := ⟨_, rfl⟩
        rw [← hxe] at HX hx
        have hxy : ¬ y < x := by omega
        have hki : (k : Int) < (N : Int) := by omega
        have hx2 := hx.2
        clear hxe hx
        go_wp2_with fail
        refine (HX.out _).mono ?_
        rintro e w2 ⟨rfl, rfl⟩
        go_wp2_with fail
        refine (HY.out _).mono ?_
        rintro e w2 ⟨rfl, rfl⟩
        by_cases hkb : k < b
        · have hne : (x == y) = false := by have := hx2 hkb; simp; omega
          have hkbi : (k : Int) < (b : Int) := by omega
          clear hx2
          go_wp2
          go_round
          case rel => exact ⟨k + 1, by omega, by go_num⟩
          case measure => simp [intOf]; omega
        · have hkbi : ¬ (k : Int) < (b : Int) := by omega
          clear hx2
          go_wp2
          go_round
          case rel => exact ⟨k + 1, by omega, by go_num⟩
          case measure => simp [intOf]; omega
      · obtain rfl : k = N := by omega
        go_wp2_with fail
        refine (HY.out _).mono ?_
        rintro e w2 ⟨rfl, rfl⟩
        go_wp2_with fail
        refine (HP.out _).mono ?_
        rintro e w2 ⟨rfl, rfl⟩
        go_wp2
        go_ret
        exact ⟨by simp, B1⟩
end Go.Proofs.Ytnojlapjkdihmaa
