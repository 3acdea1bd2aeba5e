/-
  Chapter 2: the contracts of ValidWeights, of the program and of the model, of sums of numbers, and of tails.
-/
import Derived.Test.YtnojlapjkdihmaaLeast
import Derived.Test.YtnojlapjkdihmaaCq
namespace Go.Proofs.Ytnojlapjkdihmaa
open Go.RowKit

/-- Numbers are weights. -/
def vW (xs : List Int) : Bool := inR xs.length 1 6 && xs.all (fun x => inR x 1 6)
theorem vW_bad {xs : List Int} (h : xs.all (fun x => inR x 1 6) = false) : vW xs = false := by simp only [vW, h, Bool.and_false]
theorem vW_all {xs : List Int} (h : (xs.take xs.length).all (fun x => inR x 1 6) = true) : vW xs = inR xs.length 1 6 := by
  rw [List.take_length] at h; simp only [vW, h, Bool.and_true]
theorem vW_len {xs : List Int} (h : inR xs.length 1 6 = false) : vW xs = false := by simp only [vW, h, Bool.false_and]
theorem vW_valid {xs : List Int} (h : vW xs = true) : validW xs = true := by
  simp only [vW, Bool.and_eq_true, inR_true, List.all_eq_true] at h
  simp only [validW, Bool.and_eq_true, decide_eq_true_eq, List.all_eq_true]
  exact ⟨⟨by omega, by omega⟩, h.2⟩
theorem vW_mem {xs : List Int} (h : vW xs = true) : ∀ x ∈ xs, 1 ≤ x ∧ x ≤ 6 := validW_mem (vW_valid h)
theorem vW_le {xs : List Int} (h : vW xs = true) : 1 ≤ xs.length ∧ xs.length ≤ 6 := ⟨validW_len1 (vW_valid h), validW_len (vW_valid h)⟩

set_option maxHeartbeats 400000 in
theorem validWeights_any (A : Option Addr) (c : Nat) (xs : List Int) (w : World) (h : Rd w A c xs) (hl : xs.length ≤ 1099511627776) :
    Calls Try.prog 162 #[.slice A xs.length c] w fun e w' => e = .returned (.bool (vW xs)) ∧ w = w' := by
  go_enter Try.func162, Try.ntmps162
  go_wp2
  go_loop [3] (fun i => ∃ k : Nat, k ≤ xs.length ∧ i = .int .i64 k ∧ Hid ((xs.take k).all (fun x => inR x 1 6) = true)) (fun i => xs.length - (intOf i).toNat)
  case atStart => exact ⟨0, Nat.zero_le _, rfl, Lib.hid rfl⟩
  case round =>
    obtain ⟨k, hk, rfl, HT⟩ := hrel
    by_cases hlt : k < xs.length
    · obtain ⟨b, off, x, rfl, _, hx, hc⟩ := h.at_ hlt
      go_wp2_with fail
      refine (inRange_any _ _ _ _).mono ?_
      rintro e w' ⟨rfl, rfl⟩
      cases hb : inR x 1 6 with
      | true =>
        have HT' := Lib.hid (all_step hx.out hb HT.out)
        clear hb
        go_wp2
        go_round
        case rel => exact ⟨k + 1, by omega, by go_num, HT'⟩
        case measure => simp [intOf]; omega
      | false =>
        have HE := Lib.hid (vW_bad (all_at (p := fun x => inR x 1 6) hx.out hb))
        clear hb
        go_wp2
        go_ret
        exact ⟨by rw [HE.out]; rfl, rfl⟩
    · obtain rfl : k = xs.length := by omega
      have HE := Lib.hid (vW_all HT.out)
      go_wp2_with (refine (inRange_any _ _ _ _).mono ?_; rintro e w' ⟨rfl, rfl⟩)
      go_ret
      exact ⟨by rw [HE.out]; rfl, rfl⟩

theorem isWeight_any (n : Int) (w : World) :
    Calls Try.prog 161 #[.int .i64 n] w fun e w' => e = .returned (.bool (inR n 1 6)) ∧ w = w' := by
  by_cases h1 : 1 ≤ n
  · by_cases h2 : n ≤ 6
    · have HE := Lib.hid (inR_true.2 ⟨h1, h2⟩)
      go_enter Try.func161, Try.ntmps161
      go_wp2
      go_ret
      exact ⟨by rw [HE.out]; rfl, rfl⟩
    · have HE := Lib.hid (inR_false.2 (fun h : 1 ≤ n ∧ n ≤ 6 => h2 h.2))
      go_enter Try.func161, Try.ntmps161
      go_wp2
      go_ret
      exact ⟨by rw [HE.out]; rfl, rfl⟩
  · have HE := Lib.hid (inR_false.2 (fun h : 1 ≤ n ∧ n ≤ 6 => h1 h.1))
    go_enter Try.func161, Try.ntmps161
    go_wp2
    go_ret
    exact ⟨by rw [HE.out]; rfl, rfl⟩

set_option maxHeartbeats 400000 in
/-- areAll at weights. -/
theorem areWeights_any (A : Option Addr) (c : Nat) (xs : List Int) (w : World) (h : Rd w A c xs) (hl : xs.length ≤ 1099511627776) :
    Calls Try.prog 69 #[.slice A xs.length c, .int .i64 6, .func (.func 161) #[] #[]] w fun e w' => e = .returned (.bool (vW xs)) ∧ w = w' := by
  by_cases h1 : 1 ≤ xs.length
  · by_cases h2 : xs.length ≤ 6
    · have HR := Lib.hid (inR_true (n := (xs.length : Int)) (lo := 1) (hi := 6) |>.2 ⟨by omega, by omega⟩)
      go_enter Try.func69, Try.ntmps69
      go_wp2
      go_loop [20] (fun i => ∃ k : Nat, k ≤ xs.length ∧ i = .int .i64 k ∧ Hid ((xs.take k).all (fun x => inR x 1 6) = true)) (fun i => xs.length - (intOf i).toNat)
      case atStart => exact ⟨0, Nat.zero_le _, rfl, Lib.hid rfl⟩
      case round =>
        obtain ⟨k, hk, rfl, HT⟩ := hrel
        by_cases hlt : k < xs.length
        · obtain ⟨b, off, x, rfl, _, hx, hc⟩ := h.at_ hlt
          go_wp2_with fail
          refine (isWeight_any _ _).mono ?_
          rintro e w' ⟨rfl, rfl⟩
          cases hb : inR x 1 6 with
          | true =>
            have HT' := Lib.hid (all_step hx.out hb HT.out)
            clear hb
            go_wp2
            go_round
            case rel => exact ⟨k + 1, by omega, by go_num, HT'⟩
            case measure => simp [intOf]; omega
          | false =>
            have HE := Lib.hid (vW_bad (all_at (p := fun x => inR x 1 6) hx.out hb))
            clear hb
            go_wp2
            go_ret
            exact ⟨by rw [HE.out]; rfl, rfl⟩
        · obtain rfl : k = xs.length := by omega
          have HE := Lib.hid (vW_all HT.out)
          go_wp2
          go_ret
          exact ⟨by rw [HE.out, HR.out]; rfl, rfl⟩
    · have HE := Lib.hid (vW_len (inR_false (n := (xs.length : Int)) (lo := 1) (hi := 6) |>.2 (by omega)))
      go_enter Try.func69, Try.ntmps69
      go_wp2
      go_ret
      exact ⟨by rw [HE.out]; rfl, rfl⟩
  · have HE := Lib.hid (vW_len (inR_false (n := (xs.length : Int)) (lo := 1) (hi := 6) |>.2 (by omega)))
    go_enter Try.func69, Try.ntmps69
    go_wp2
    go_ret
    exact ⟨by rw [HE.out]; rfl, rfl⟩

theorem ValidWeights_any (A : Option Addr) (c : Nat) (xs : List Int) (w : World) (h : Rd w A c xs) (hl : xs.length ≤ 1099511627776) :
    Calls Try.prog 102 #[.slice A xs.length c] w fun e w' => e = .returned (.bool (vW xs)) ∧ w = w' := by
  have HC := Lib.hid (areWeights_any A c xs w h hl)
  go_enter Try.func102, Try.ntmps102
  go_wp2_with (go_at_call 69; refine HC.out.mono ?_; rintro e w' ⟨rfl, rfl⟩)
  go_ret
  exact ⟨rfl, rfl⟩

theorem isEdge_any (n : Int) (w : World) :
    Calls Try.prog 113 #[.int .i64 n] w fun e w' => e = .returned (.bool (inR n 0 6)) ∧ w = w' := by
  by_cases h1 : 0 ≤ n
  · by_cases h2 : n ≤ 6
    · have HE := Lib.hid (inR_true.2 ⟨h1, h2⟩)
      go_enter Try.func113, Try.ntmps113
      go_wp2
      go_ret
      exact ⟨by rw [HE.out]; rfl, rfl⟩
    · have HE := Lib.hid (inR_false.2 (fun h : 0 ≤ n ∧ n ≤ 6 => h2 h.2))
      go_enter Try.func113, Try.ntmps113
      go_wp2
      go_ret
      exact ⟨by rw [HE.out]; rfl, rfl⟩
  · have HE := Lib.hid (inR_false.2 (fun h : 0 ≤ n ∧ n ≤ 6 => h1 h.1))
    go_enter Try.func113, Try.ntmps113
    go_wp2
    go_ret
    exact ⟨by rw [HE.out]; rfl, rfl⟩

theorem plusI_any (a b : Int) (w : World) (ha0 : -4611686018427387904 ≤ a) (ha1 : a ≤ 4611686018427387903) (hb0 : -4611686018427387904 ≤ b) (hb1 : b ≤ 4611686018427387903) :
    Calls Try.prog 152 #[.int .i64 a, .int .i64 b] w fun e w' => e = .returned (.int .i64 (a + b)) ∧ w = w' := by
  go_enter Try.func152, Try.ntmps152
  go_wp2
  go_ret
  exact ⟨rfl, rfl⟩

/-- Numbers none of which is beyond 2 to 31. -/
def Small2 (xs : List Int) : Prop := ∀ x ∈ xs, -2147483648 ≤ x ∧ x ≤ 2147483647
theorem small_sum {xs : List Int} (h : Small2 xs) (k : Nat) : -2147483648 * (k : Int) ≤ (xs.take k).sum ∧ (xs.take k).sum ≤ 2147483647 * (k : Int) := by
  induction k with
  | zero => simp
  | succ k ih =>
    rw [List.take_add_one, List.sum_append]
    cases hx : xs[k]? with
    | none => simp; omega
    | some x => have := h x (List.mem_of_getElem? hx); simp; omega
theorem sum_step {xs : List Int} {k : Nat} {x : Int} (hx : xs[k]? = some x) : (xs.take (k + 1)).sum = (xs.take k).sum + x := by
  rw [List.take_add_one, hx]; simp

set_option maxHeartbeats 400000 in
theorem sumInts_any (A : Option Addr) (c : Nat) (xs : List Int) (w : World) (h : Rd w A c xs) (hl : xs.length ≤ 1048576) (hs : Small2 xs) :
    Calls Try.prog 151 #[.func (.func 152) #[] #[], .int .i64 0, .slice A xs.length c] w fun e w' => e = .returned (.int .i64 xs.sum) ∧ w = w' := by
  go_enter Try.func151, Try.ntmps151
  go_wp2
  go_loop [7, 13] (fun s i => ∃ k : Nat, k ≤ xs.length ∧ i = .int .i64 k ∧ ∃ t, s = .int .i64 t ∧ Hid (t = (xs.take k).sum)) (fun _ i => xs.length - (intOf i).toNat)
  case atStart => exact ⟨0, Nat.zero_le _, rfl, 0, rfl, Lib.hid (by simp)⟩
  case round =>
    obtain ⟨k, hk, rfl, t, rfl, HT⟩ := hrel
    by_cases hlt : k < xs.length
    · obtain ⟨b, off, x, rfl, _, hx, hc⟩ := h.at_ hlt
      have b1 := hs x (List.mem_of_getElem? hx.out)
      have b2 := small_sum hs k
      rw [← HT.out] at b2
      have HT' := Lib.hid (sum_step hx.out)
      rw [← HT.out] at HT'
      go_wp2_with fail
      refine (plusI_any _ _ _ (by omega) (by omega) (by omega) (by omega)).mono ?_
      rintro e w' ⟨rfl, rfl⟩
      go_wp2
      go_round
      case rel => exact ⟨k + 1, by omega, by go_num, _, rfl, Lib.hid HT'.out.symm⟩
      case measure => simp [intOf]; omega
    · obtain rfl : k = xs.length := by omega
      have HE := Lib.hid (show t = xs.sum by rw [HT.out, List.take_length])
      go_wp2
      go_ret
      exact ⟨by rw [HE.out]; rfl, rfl⟩

theorem tail_step {xs : List Int} {k : Nat} {x : Int} (hx : xs[k]? = some x) : tailW xs k = x + tailW xs (k + 1) := by
  rw [tailW_step]; unfold wt; rw [List.getD_eq_getElem?_getD, hx]; rfl
theorem tail_small {xs : List Int} (hs : Small2 xs) (k : Nat) : -2147483648 * ((xs.length - k : Nat) : Int) ≤ tailW xs k ∧ tailW xs k ≤ 2147483647 * ((xs.length - k : Nat) : Int) := by
  have := small_sum (xs := xs.drop k) (fun x hx => hs x (List.mem_of_mem_drop hx)) (xs.length - k)
  rw [List.take_of_length_le (by simp)] at this
  exact this

end Go.Proofs.Ytnojlapjkdihmaa
