/-
  Chapter 10, the program: the contracts of manyAbove, manyBelow, areTraders, isWanted, manyAhead.
-/
import Derived.Test.YtpildecpabeanaaEb
import Derived.Test.YtpildecpabeanaaNd
import Derived.Test.YtpildecpabeanaaOne
namespace Go.Proofs.Ytpildecpabeanaa
open Go.RowKit

set_option maxHeartbeats 400000 in
theorem manyAbove_any (A : Option Addr) (c : Nat) (xs : List Int) (p : Int) (w : World) (h : Rd w A c xs) (hl : xs.length ≤ 1048576) :
    Calls Try.prog 118 #[.slice A xs.length c, .int .i64 p] w fun e w' => e = .returned (.int .i64 (abv xs p)) ∧ w = w' := by
  go_enter Try.func118, Try.ntmps118
  go_wp2
  go_loop [5, 10] (fun m i => ∃ k q : Nat, k ≤ xs.length ∧ q ≤ k ∧ i = .int .i64 k ∧ m = .int .i64 q ∧ Hid (q = abv (xs.take k) p))
    (fun _ i => xs.length - (intOf i).toNat)
  case atStart => exact ⟨0, 0, Nat.zero_le _, Nat.le_refl _, rfl, rfl, Lib.hid (by simp [abv])⟩
  case round =>
    obtain ⟨k, q, hk, hq, rfl, rfl, HQ⟩ := hrel
    by_cases hlt : k < xs.length
    · obtain ⟨b, off, x, rfl, _, hx, hc⟩ := h.at_ hlt
      have hql : q ≤ 1048576 := by omega
      by_cases hpx : p < x
      · have HQ' : Hid (q + 1 = abv (xs.take (k + 1)) p) := Lib.hid (by rw [abv_take hx.out, if_pos hpx, ← HQ.out])
        go_wp2
        go_round
        case rel => exact ⟨k + 1, q + 1, by omega, by omega, by go_num, by go_num, HQ'⟩
        case measure => simp [intOf]; omega
      · have HQ' : Hid (q = abv (xs.take (k + 1)) p) := Lib.hid (by rw [abv_take hx.out, if_neg hpx, ← HQ.out]; rfl)
        go_wp2
        go_round
        case rel => exact ⟨k + 1, q, by omega, by omega, by go_num, rfl, HQ'⟩
        case measure => simp [intOf]; omega
    · obtain rfl : k = xs.length := by omega
      have HE : Hid (abv xs p = q) := Lib.hid (by rw [HQ.out, abv_all])
      go_wp2
      go_ret
      exact ⟨by rw [HE.out]; rfl, rfl⟩

theorem manyAbove_is {n : Nat} (A : Option Addr) (c : Nat) (xs : List Int) (p : Int) (w : World) (hn : n = abv xs p) (h : Rd w A c xs) (hl : xs.length ≤ 1048576) :
    Calls Try.prog 118 #[.slice A xs.length c, .int .i64 p] w fun e w' => e = .returned (.int .i64 n) ∧ w = w' := by
  rw [hn]; exact manyAbove_any A c xs p w h hl

theorem manyBelow_any (A : Option Addr) (c : Nat) (xs : List Int) (p : Int) (w : World) (h : Rd w A c xs) (hl : xs.length ≤ 1048576) (hp0 : -100 ≤ p) (hp1 : p ≤ 100) :
    Calls Try.prog 119 #[.slice A xs.length c, .int .i64 p] w fun e w' => e = .returned (.int .i64 ((xs.length - abv xs (p - 1) : Nat) : Int)) ∧ w = w' := by
  have hw : IntKind.i64.wrap (p - 1) = p - 1 := IntWalk.i64_in _ (by omega)
  obtain ⟨n, hn⟩ : ∃ n, n = abv xs (p - 1) := ⟨_, rfl⟩
  have hnl : n ≤ xs.length := by rw [hn]; exact abv_le _ _
  have HN := Lib.hid hn
  have hw2 : IntKind.i64.wrap ((xs.length : Int) - (n : Int)) = (xs.length : Int) - (n : Int) := IntWalk.i64_in _ (by omega)
  rw [← hn]
  clear hn
  go_enter Try.func119, Try.ntmps119
  go_wp2_with fail
  refine (manyAbove_is _ _ _ _ _ HN.out h hl).mono ?_
  rintro e w1 ⟨rfl, rfl⟩
  go_wp2
  go_ret
  exact ⟨by rw [show ((xs.length - n : Nat) : Int) = (xs.length : Int) - (n : Int) by omega]; rfl, rfl⟩

theorem areTraders_any (A A2 : Option Addr) (c c2 : Nat) (xs ys : List Int) (w : World) (h : Rd w A c xs) (h2 : Rd w A2 c2 ys) (hl : xs.length ≤ 1099511627776) (hl2 : ys.length ≤ 1099511627776) :
    Calls Try.prog 56 #[.slice A xs.length c, .slice A2 ys.length c2] w fun e w' => e = .returned (.bool (vB xs && vB ys)) ∧ w = w' := by
  have H1 := Lib.hid (ValidBids_any A c xs w h hl)
  have H2 := Lib.hid (ValidBids_any A2 c2 ys w h2 hl2)
  clear h h2
  cases hx : vB xs with
  | true =>
    rw [hx] at H1
    clear hx
    go_enter Try.func56, Try.ntmps56
    go_wp2_with fail
    refine H1.out.mono ?_
    rintro e w1 ⟨rfl, rfl⟩
    go_wp2_with fail
    refine H2.out.mono ?_
    rintro e w1 ⟨rfl, rfl⟩
    go_wp2
    go_ret
    exact ⟨by rw [Bool.true_and]; rfl, rfl⟩
  | false =>
    rw [hx] at H1
    clear hx
    go_enter Try.func56, Try.ntmps56
    go_wp2_with fail
    refine H1.out.mono ?_
    rintro e w1 ⟨rfl, rfl⟩
    go_wp2
    go_ret
    exact ⟨by rw [Bool.false_and]; rfl, rfl⟩

theorem wt_1 {b s : List Int} {n : Nat} {p : Int} (h : ¬ n ≤ abv b (p - 1)) : wtB b s n p = false := by unfold wtB; simp [h]
theorem wt_2 {b s : List Int} {n : Nat} {p : Int} (h : ¬ abv b p ≤ n) : wtB b s n p = false := by unfold wtB; simp [h]
theorem wt_3 {b s : List Int} {n : Nat} {p : Int} (h : ¬ n ≤ s.length - abv s p) : wtB b s n p = false := by unfold wtB; simp [h]
theorem wt_4 {b s : List Int} {n : Nat} {p : Int} (h : ¬ s.length - abv s (p - 1) ≤ n) : wtB b s n p = false := by unfold wtB; simp [h]
theorem wt_0 {b s : List Int} {n : Nat} {p : Int} (h1 : n ≤ abv b (p - 1)) (h2 : abv b p ≤ n) (h3 : n ≤ s.length - abv s p) (h4 : s.length - abv s (p - 1) ≤ n) : wtB b s n p = true := by unfold wtB; simp [h1, h2, h3, h4]

theorem manyBelow_is {n : Nat} (A : Option Addr) (c : Nat) (xs : List Int) (p : Int) (w : World) (hn : n = xs.length - abv xs (p - 1)) (h : Rd w A c xs) (hl : xs.length ≤ 1048576) (hp0 : -100 ≤ p) (hp1 : p ≤ 100) :
    Calls Try.prog 119 #[.slice A xs.length c, .int .i64 p] w fun e w' => e = .returned (.int .i64 n) ∧ w = w' := by
  rw [hn]; exact manyBelow_any A c xs p w h hl hp0 hp1

set_option maxHeartbeats 800000 in
theorem isWanted_any (A A2 : Option Addr) (c c2 : Nat) (b s : List Int) (n : Nat) (p : Int) (w : World) (h : Rd w A c b) (h2 : Rd w A2 c2 s) (hl : b.length ≤ 1048576) (hl2 : s.length ≤ 1048576) (hp0 : 0 ≤ p) (hp1 : p ≤ 30) :
    Calls Try.prog 60 #[.slice A b.length c, .slice A2 s.length c2, .int .i64 n, .int .i64 p] w fun e w' => e = .returned (.bool (wtB b s n p)) ∧ w = w' := by
  have hw1 : IntKind.i64.wrap (p - 1) = p - 1 := IntWalk.i64_in _ (by omega)
  have hw2 : IntKind.i64.wrap (p + 1) = p + 1 := IntWalk.i64_in _ (by omega)
  obtain ⟨q1, e1⟩ : ∃ q, q = abv b (p - 1) := ⟨_, rfl⟩
  obtain ⟨q2, e2⟩ : ∃ q, q = abv b p := ⟨_, rfl⟩
  obtain ⟨q3, e3⟩ : ∃ q, q = s.length - abv s p := ⟨_, rfl⟩
  obtain ⟨q4, e4⟩ : ∃ q, q = s.length - abv s (p - 1) := ⟨_, rfl⟩
  have H1 := Lib.hid (manyAbove_is A c b (p - 1) w e1 h hl)
  have H2 := Lib.hid (manyAbove_is A c b p w e2 h hl)
  have H3 := Lib.hid (manyBelow_is A2 c2 s (p + 1) w (n := q3) (by rw [e3, show p + 1 - 1 = p by omega]) h2 hl2 (by omega) (by omega))
  have H4 := Lib.hid (manyBelow_is A2 c2 s p w e4 h2 hl2 (by omega) (by omega))
  have E0 : Hid (n ≤ q1 → q2 ≤ n → n ≤ q3 → q4 ≤ n → wtB b s n p = true) := Lib.hid (by rw [e1, e2, e3, e4]; exact wt_0)
  have E1 : Hid (¬ n ≤ q1 → wtB b s n p = false) := Lib.hid (by rw [e1]; exact wt_1)
  have E2 : Hid (¬ q2 ≤ n → wtB b s n p = false) := Lib.hid (by rw [e2]; exact wt_2)
  have E3 : Hid (¬ n ≤ q3 → wtB b s n p = false) := Lib.hid (by rw [e3]; exact wt_3)
  have E4 : Hid (¬ q4 ≤ n → wtB b s n p = false) := Lib.hid (by rw [e4]; exact wt_4)
  clear e1 e2 e3 e4 h h2
  by_cases c1 : n ≤ q1
  · have d1 : (n : Int) ≤ (q1 : Int) := by omega
    by_cases c2' : q2 ≤ n
    · have d2 : (q2 : Int) ≤ (n : Int) := by omega
      by_cases c3 : n ≤ q3
      · have d3 : (n : Int) ≤ (q3 : Int) := by omega
        by_cases c4 : q4 ≤ n
        · have HE := Lib.hid (E0.out c1 c2' c3 c4)
          have d4 : decide (q4 ≤ n) = true := by simp; omega
          clear c1 c2' c3 c4 E0 E1 E2 E3 E4
          go_enter Try.func60, Try.ntmps60
          go_wp2_with fail
          refine H1.out.mono ?_
          rintro e w1 ⟨rfl, rfl⟩
          go_wp2_with fail
          refine H2.out.mono ?_
          rintro e w1 ⟨rfl, rfl⟩
          go_wp2_with fail
          refine H3.out.mono ?_
          rintro e w1 ⟨rfl, rfl⟩
          go_wp2_with fail
          refine H4.out.mono ?_
          rintro e w1 ⟨rfl, rfl⟩
          go_wp2
          go_ret
          exact ⟨by rw [HE.out, ← d4]; rfl, rfl⟩
        · have HE := Lib.hid (E4.out c4)
          have d4 : decide (q4 ≤ n) = false := by simp; omega
          clear c1 c2' c3 c4 E0 E1 E2 E3 E4
          go_enter Try.func60, Try.ntmps60
          go_wp2_with fail
          refine H1.out.mono ?_
          rintro e w1 ⟨rfl, rfl⟩
          go_wp2_with fail
          refine H2.out.mono ?_
          rintro e w1 ⟨rfl, rfl⟩
          go_wp2_with fail
          refine H3.out.mono ?_
          rintro e w1 ⟨rfl, rfl⟩
          go_wp2_with fail
          refine H4.out.mono ?_
          rintro e w1 ⟨rfl, rfl⟩
          go_wp2
          go_ret
          exact ⟨by rw [HE.out, ← d4]; rfl, rfl⟩
      · have HE := Lib.hid (E3.out c3)
        have d3 : ¬ (n : Int) ≤ (q3 : Int) := by omega
        clear c1 c2' c3 E0 E1 E2 E3 E4
        go_enter Try.func60, Try.ntmps60
        go_wp2_with fail
        refine H1.out.mono ?_
        rintro e w1 ⟨rfl, rfl⟩
        go_wp2_with fail
        refine H2.out.mono ?_
        rintro e w1 ⟨rfl, rfl⟩
        go_wp2_with fail
        refine H3.out.mono ?_
        rintro e w1 ⟨rfl, rfl⟩
        go_wp2
        go_ret
        exact ⟨by rw [HE.out]; rfl, rfl⟩
    · have HE := Lib.hid (E2.out c2')
      have d2 : ¬ (q2 : Int) ≤ (n : Int) := by omega
      clear c1 c2' E0 E1 E2 E3 E4
      go_enter Try.func60, Try.ntmps60
      go_wp2_with fail
      refine H1.out.mono ?_
      rintro e w1 ⟨rfl, rfl⟩
      go_wp2_with fail
      refine H2.out.mono ?_
      rintro e w1 ⟨rfl, rfl⟩
      go_wp2
      go_ret
      exact ⟨by rw [HE.out]; rfl, rfl⟩
  · have HE := Lib.hid (E1.out c1)
    have d1 : ¬ (n : Int) ≤ (q1 : Int) := by omega
    clear c1 E0 E1 E2 E3 E4
    go_enter Try.func60, Try.ntmps60
    go_wp2_with fail
    refine H1.out.mono ?_
    rintro e w1 ⟨rfl, rfl⟩
    go_wp2
    go_ret
    exact ⟨by rw [HE.out]; rfl, rfl⟩

end Go.Proofs.Ytpildecpabeanaa
