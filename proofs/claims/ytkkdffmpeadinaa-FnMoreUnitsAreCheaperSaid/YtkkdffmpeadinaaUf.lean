/-
  Chapter 3, the program: the contracts of plus, sumOf at ints, a row's worth, and worthTo.
-/
import Derived.Test.YtkkdffmpeadinaaUe
namespace Go.Proofs.Ytkkdffmpeadinaa
open Go.RowKit

theorem plusU_any (a b : Int) (w : World) (ha0 : -4611686018427387904 ≤ a) (ha1 : a ≤ 4611686018427387903) (hb0 : -4611686018427387904 ≤ b) (hb1 : b ≤ 4611686018427387903) :
    Calls Try.prog 83 #[.int .i64 a, .int .i64 b] w fun e w' => e = .returned (.int .i64 (a + b)) ∧ w = w' := by
  go_enter Try.func83, Try.ntmps83
  go_wp2
  go_ret
  exact ⟨rfl, rfl⟩

/-- Numbers of 0 .. 2 to 31. -/
def Some2 (xs : List Int) : Prop := ∀ x ∈ xs, 0 ≤ x ∧ x ≤ 2147483647
theorem some2_sum {xs : List Int} (h : Some2 xs) (k : Nat) : 0 ≤ (xs.take k).sum ∧ (xs.take k).sum ≤ 2147483647 * (k : Int) := by
  induction k with
  | zero => simp
  | succ k ih =>
    rw [List.take_add_one, List.sum_append]
    cases hx : xs[k]? with
    | none => simp; omega
    | some x => have := h x (List.mem_of_getElem? hx); simp; omega
theorem take_sum {xs : List Int} {k : Nat} {x : Int} (hx : xs[k]? = some x) : (xs.take (k + 1)).sum = (xs.take k).sum + x := by
  rw [List.take_add_one, hx]; simp
theorem RowOk.some2 {r : List Int} (h : RowOk r) : Some2 r := fun x hx => by
  obtain ⟨k, hk, rfl⟩ := List.getElem_of_mem hx
  have := h.2 k _ (List.getElem?_eq_getElem hk)
  omega

set_option maxHeartbeats 400000 in
theorem sumU_any (A : Option Addr) (c n : Nat) (s : Int) (xs : List Int) (w : World) (hn : xs.length = n) (hs : s = xs.sum) (h : Rd w A c xs) (hl : n ≤ 1048576) (h2 : Some2 xs) :
    Calls Try.prog 82 #[.func (.func 83) #[] #[], .int .i64 0, .slice A n c] w fun e w' => e = .returned (.int .i64 s) ∧ w = w' := by
  subst hn
  have HS := Lib.hid hs
  clear hs
  go_enter Try.func82, Try.ntmps82
  go_wp2
  go_loop [7, 13] (fun s i => ∃ k : Nat, k ≤ xs.length ∧ i = .int .i64 k ∧ ∃ t, s = .int .i64 t ∧ Hid (t = (xs.take k).sum)) (fun _ i => xs.length - (intOf i).toNat)
  case atStart => exact ⟨0, Nat.zero_le _, rfl, 0, rfl, Lib.hid (by simp)⟩
  case round =>
    obtain ⟨k, hk, rfl, t, rfl, HT⟩ := hrel
    by_cases hlt : k < xs.length
    · obtain ⟨b, off, x, rfl, _, hx, hc⟩ := h.at_ hlt
      have b1 := h2 x (List.mem_of_getElem? hx.out)
      have b2 := some2_sum h2 k
      rw [← HT.out] at b2
      have HT' := Lib.hid (take_sum hx.out)
      rw [← HT.out] at HT'
      go_wp2_with fail
      refine (plusU_any _ _ _ (by omega) (by omega) (by omega) (by omega)).mono ?_
      rintro e w' ⟨rfl, rfl⟩
      go_wp2
      go_round
      case rel => exact ⟨k + 1, by omega, by go_num, _, rfl, Lib.hid HT'.out.symm⟩
      case measure => simp [intOf]; omega
    · obtain rfl : k = xs.length := by omega
      have HE := Lib.hid (show t = s by rw [HT.out, HS.out, List.take_length])
      go_wp2
      go_ret
      exact ⟨by rw [HE.out]; rfl, rfl⟩

theorem Rd.cutTo {w : World} {A : Option Addr} {c c2 : Nat} {zs : List Int} (h : Rd w A c zs) (m : Nat) (hc : A = none → c2 = 0) : Rd w A c2 (zs.take m) := by
  rcases h with ⟨rfl, _⟩ | ⟨b', off', hA, hc⟩
  · exact .inl ⟨by simp, hc⟩
  · refine .inr ⟨b', off', hA, fun k hk => ?_⟩
    have hk2 : k < m ∧ k < zs.length := by simp at hk; omega
    rw [hc k hk2.2]; simp [hk2.1]

set_option maxHeartbeats 400000 in
theorem rowWorth_any (A : Option Addr) (c : Nat) (r : List Int) (k : Nat) (w : World) (h : Rd w A c r) (hc : r.length ≤ c) (hr : RowOk r) (hk : k ≤ 1048576) :
    Calls Try.prog 85 #[.slice A r.length c, .int .i64 k] w fun e w' => e = .returned (.int .i64 (pre r k)) ∧ w = w' := by
  have hr5 : r.length ≤ 5 := hr.1
  have HS : Hid (∀ (m c2 : Nat), m ≤ r.length → (A = none → c2 = 0) → Calls Try.prog 82 #[.func (.func 83) #[] #[], .int .i64 0, .slice A m c2] w fun e w' => e = .returned (.int .i64 (pre r m)) ∧ w = w') :=
    Lib.hid (fun m c2 hm hA => sumU_any A c2 m (pre r m) (r.take m) w (by simp; omega) rfl (h.cutTo m hA) (by omega) (fun x hx => hr.some2 x (List.mem_of_mem_take hx)))
  have hA0 : A = none → c = 0 ∧ r.length = 0 := by
    intro hA
    rcases h with ⟨rfl, h2⟩ | ⟨b, off, hA', _⟩
    · exact ⟨h2 hA, rfl⟩
    · rw [hA] at hA'; cases hA'
  have HA := Lib.hid hA0
  clear h hA0
  cases A with
  | none =>
    obtain ⟨rfl, h0⟩ := HA.out rfl
    obtain rfl : r = [] := List.eq_nil_of_length_eq_zero h0
    have HP : Hid (∀ m, pre [] m = pre [] k) := Lib.hid (fun m => by rw [pre_nil, pre_nil])
    clear h0 hc
    rcases Nat.eq_zero_or_pos k with rfl | hk0
    all_goals
      go_enter Try.func85, Try.ntmps85
      go_wp2_with fail
      refine (HS.out 0 0 (Nat.zero_le _) (fun _ => rfl)).mono ?_
      rintro e' w' ⟨rfl, rfl⟩
      go_wp2
      go_ret
      exact ⟨congrArg (fun x => Ending.returned (Value.int .i64 x)) (HP.out 0), rfl⟩
  | some a =>
    have HP : Hid (∀ m, m = k ∨ (m = r.length ∧ r.length ≤ k) → pre r m = pre r k) := Lib.hid (fun m h => by
      rcases h with rfl | ⟨rfl, h⟩
      · rfl
      · exact (pre_end h).symm)
    by_cases hkr : k ≤ r.length
    · go_enter Try.func85, Try.ntmps85
      go_wp2_with fail
      all_goals
        refine (HS.out _ _ (by omega) (fun h => by cases h)).mono ?_
        rintro e' w' ⟨rfl, rfl⟩
        go_wp2
        go_ret
        exact ⟨congrArg (fun x => Ending.returned (Value.int .i64 x)) (HP.out _ (by omega)), rfl⟩
    · go_enter Try.func85, Try.ntmps85
      go_wp2_with fail
      all_goals
        refine (HS.out _ _ (by omega) (fun h => by cases h)).mono ?_
        rintro e' w' ⟨rfl, rfl⟩
        go_wp2
        go_ret
        exact ⟨congrArg (fun x => Ending.returned (Value.int .i64 x)) (HP.out _ (by omega)), rfl⟩

end Go.Proofs.Ytkkdffmpeadinaa
