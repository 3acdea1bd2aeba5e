/-
  Chapter 2: the contracts of ValidWeights, of the program and of the model, of sums of numbers, and of tails.
-/
import Derived.Test.YtnojlapjkdihmabG06
import Derived.Test.YtnojlapjkdihmabG07
namespace Go.Proofs.Ytnojlapjkdihmab
open Go.RowKit

/-- Numbers are weights. -/
def vW (xs : List Int) : Bool := inR xs.length 1 6 && xs.all (fun x => inR x 1 6)
theorem vW_bad {xs : List Int} (h : xs.all (fun x => inR x 1 6) = false) : vW xs = false := by simp only [vW, h, Bool.and_false]
theorem vW_all {xs : List Int} (h : (xs.take xs.length).all (fun x => inR x 1 6) = true) : vW xs = inR xs.length 1 6 := by
  rw [List.take_length] at h; simp only [vW, h, Bool.and_true]
theorem vW_len {xs : List Int} (h : inR xs.length 1 6 = false) : vW xs = false := by simp only [vW, h, Bool.false_and]
theorem vW_valid {xs : List Int} (h : vW xs = true) : validW xs = true := by
  simp only [vW, Bool.and_eq_true, inR_true, List.all_eq_true] at h
  simp only [validW, Bool.and_eq_true, decide_eq_true_eq, List.all_eq_true]
  exact ⟨⟨by omega, by omega⟩, h.2⟩
theorem vW_mem {xs : List Int} (h : vW xs = true) : ∀ x ∈ xs, 1 ≤ x ∧ x ≤ 6 := validW_mem (vW_valid h)
theorem vW_le {xs : List Int} (h : vW xs = true) : 1 ≤ xs.length ∧ xs.length ≤ 6 := ⟨validW_len1 (vW_valid h), validW_len (vW_valid h)⟩

set_option maxHeartbeats 400000 in
theorem validWeights_any (A : Option Addr) (c : Nat) (xs : List Int) (w : World) (h : Rd w A c xs) (hl : xs.length ≤ 1099511627776) :
    Calls Try.prog 55 #[.slice A xs.length c] w fun e w' => e = .returned (.bool (vW xs)) ∧ w = w' := by
  go_enter Try.func55, Try.ntmps55
  go_wp2
  go_loop [3] (fun i => ∃ k : Nat, k ≤ xs.length ∧ i = .int .i64 k ∧ Hid ((xs.take k).all (fun x => inR x 1 6) = true)) (fun i => xs.length - (intOf i).toNat)
  case atStart => exact ⟨0, Nat.zero_le _, rfl, Lib.hid rfl⟩
  case round =>
    obtain ⟨k, hk, rfl, HT⟩ := hrel
    by_cases hlt : k < xs.length
    · obtain ⟨b, off, x, rfl, _, hx, hc⟩ := h.at_ hlt
      go_wp2_with fail
      refine (inRange_any _ _ _ _).mono ?_
      rintro e w' ⟨rfl, rfl⟩
      cases hb : inR x 1 6 with
      | true =>
        have HT' := Lib.hid (all_step hx.out hb HT.out)
        clear hb
        go_wp2
        go_round
        case rel => exact ⟨k + 1, by omega, by go_num, HT'⟩
        case measure => simp [intOf]; omega
      | false =>
        have HE := Lib.hid (vW_bad (all_at (p := fun x => inR x 1 6) hx.out hb))
        clear hb
        go_wp2
        go_ret
        exact ⟨by rw [HE.out]; rfl, rfl⟩
    · obtain rfl : k = xs.length := by omega
      have HE := Lib.hid (vW_all HT.out)
      go_wp2_with (refine (inRange_any _ _ _ _).mono ?_; rintro e w' ⟨rfl, rfl⟩)
      go_ret
      exact ⟨by rw [HE.out]; rfl, rfl⟩

theorem isWeight_any (n : Int) (w : World) :
    Calls Try.prog 57 #[.int .i64 n] w fun e w' => e = .returned (.bool (inR n 1 6)) ∧ w = w' := by
  by_cases h1 : 1 ≤ n
  · by_cases h2 : n ≤ 6
    · have HE := Lib.hid (inR_true.2 ⟨h1, h2⟩)
      go_enter Try.func57, Try.ntmps57
      go_wp2
      go_ret
      exact ⟨by rw [HE.out]; rfl, rfl⟩
    · have HE := Lib.hid (inR_false.2 (fun h : 1 ≤ n ∧ n ≤ 6 => h2 h.2))
      go_enter Try.func57, Try.ntmps57
      go_wp2
      go_ret
      exact ⟨by rw [HE.out]; rfl, rfl⟩
  · have HE := Lib.hid (inR_false.2 (fun h : 1 ≤ n ∧ n ≤ 6 => h1 h.1))
    go_enter Try.func57, Try.ntmps57
    go_wp2
    go_ret
    exact ⟨by rw [HE.out]; rfl, rfl⟩

set_option maxHeartbeats 400000 in
/-- areAll at weights. -/
theorem areWeights_any (A : Option Addr) (c : Nat) (xs : List Int) (w : World) (h : Rd w A c xs) (hl : xs.length ≤ 1099511627776) :
    Calls Try.prog 56 #[.slice A xs.length c, .int .i64 6, .func (.func 57) #[] #[]] w fun e w' => e = .returned (.bool (vW xs)) ∧ w = w' := by
  by_cases h1 : 1 ≤ xs.length
  · by_cases h2 : xs.length ≤ 6
    · have HR := Lib.hid (inR_true (n := (xs.length : Int)) (lo := 1) (hi := 6) |>.2 ⟨by omega, by omega⟩)
      go_enter Try.func56, Try.ntmps56
      go_wp2
      go_loop [20] (fun i => ∃ k : Nat, k ≤ xs.length ∧ i = .int .i64 k ∧ Hid ((xs.take k).all (fun x => inR x 1 6) = true)) (fun i => xs.length - (intOf i).toNat)
      case atStart => exact ⟨0, Nat.zero_le _, rfl, Lib.hid rfl⟩
      case round =>
        obtain ⟨k, hk, rfl, HT⟩ := hrel
        by_cases hlt : k < xs.length
        · obtain ⟨b, off, x, rfl, _, hx, hc⟩ := h.at_ hlt
          go_wp2_with fail
          refine (isWeight_any _ _).mono ?_
          rintro e w' ⟨rfl, rfl⟩
          cases hb : inR x 1 6 with
          | true =>
            have HT' := Lib.hid (all_step hx.out hb HT.out)
            clear hb
            go_wp2
            go_round
            case rel => exact ⟨k + 1, by omega, by go_num, HT'⟩
            case measure => simp [intOf]; omega
          | false =>
            have HE := Lib.hid (vW_bad (all_at (p := fun x => inR x 1 6) hx.out hb))
            clear hb
            go_wp2
            go_ret
            exact ⟨by rw [HE.out]; rfl, rfl⟩
        · obtain rfl : k = xs.length := by omega
          have HE := Lib.hid (vW_all HT.out)
          go_wp2
          go_ret
          exact ⟨by rw [HE.out, HR.out]; rfl, rfl⟩
    · have HE := Lib.hid (vW_len (inR_false (n := (xs.length : Int)) (lo := 1) (hi := 6) |>.2 (by omega)))
      go_enter Try.func56, Try.ntmps56
      go_wp2
      go_ret
      exact ⟨by rw [HE.out]; rfl, rfl⟩
  · have HE := Lib.hid (vW_len (inR_false (n := (xs.length : Int)) (lo := 1) (hi := 6) |>.2 (by omega)))
    go_enter Try.func56, Try.ntmps56
    go_wp2
    go_ret
    exact ⟨by rw [HE.out]; rfl, rfl⟩

theorem ValidWeights_any (A : Option Addr) (c : Nat) (xs : List Int) (w : World) (h : Rd w A c xs) (hl : xs.length ≤ 1099511627776) :
    Calls Try.prog 35 #[.slice A xs.length c] w fun e w' => e = .returned (.bool (vW xs)) ∧ w = w' := by
  have HC := Lib.hid (areWeights_any A c xs w h hl)
  go_enter Try.func35, Try.ntmps35
  go_wp2_with (go_at_call 56; refine HC.out.mono ?_; rintro e w' ⟨rfl, rfl⟩)
  go_ret
  exact ⟨rfl, rfl⟩

theorem isEdge_any (n : Int) (w : World) :
    Calls Try.prog 47 #[.int .i64 n] w fun e w' => e = .returned (.bool (inR n 0 6)) ∧ w = w' := by
  by_cases h1 : 0 ≤ n
  · by_cases h2 : n ≤ 6
    · have HE := Lib.hid (inR_true.2 ⟨h1, h2⟩)
      go_enter Try.func47, Try.ntmps47
      go_wp2
      go_ret
      exact ⟨by rw [HE.out]; rfl, rfl⟩
    · have HE := Lib.hid (inR_false.2 (fun h : 0 ≤ n ∧ n ≤ 6 => h2 h.2))
      go_enter Try.func47, Try.ntmps47
      go_wp2
      go_ret
      exact ⟨by rw [HE.out]; rfl, rfl⟩
  · have HE := Lib.hid (inR_false.2 (fun h : 0 ≤ n ∧ n ≤ 6 => h1 h.1))
    go_enter Try.func47, Try.ntmps47
    go_wp2
    go_ret
    exact ⟨by rw [HE.out]; rfl, rfl⟩

theorem plusI_any (a b : Int) (w : World) (ha0 : -4611686018427387904 ≤ a) (ha1 : a ≤ 4611686018427387903) (hb0 : -4611686018427387904 ≤ b) (hb1 : b ≤ 4611686018427387903) :
    Calls Try.prog 75 #[.int .i64 a, .int .i64 b] w fun e w' => e = .returned (.int .i64 (a + b)) ∧ w = w' := by
  go_enter Try.func75, Try.ntmps75
  go_wp2
  go_ret
  exact ⟨rfl, rfl⟩

/-- Numbers none of which is beyond 2 to 31. -/
def Small2 (xs : List Int) : Prop := ∀ x ∈ xs, -2147483648 ≤ x ∧ x ≤ 2147483647
theorem small_sum {xs : List Int} (h : Small2 xs) (k : Nat) : -2147483648 * (k : Int) ≤ (xs.take k).sum ∧ (xs.take k).sum ≤ 2147483647 * (k : Int) := by
  induction k with
  | zero => simp
  | succ k ih =>
    rw [List.take_add_one, List.sum_append]
    cases hx : xs[k]? with
    | none => simp; omega
    | some x => have := h x (List.mem_of_getElem? hx); simp; omega
theorem sum_step {xs : List Int} {k : Nat} {x : Int} (hx : xs[k]? = some x) : (xs.take (k + 1)).sum = (xs.take k).sum + x := by
  rw [List.take_add_one, hx]; simp

set_option maxHeartbeats 400000 in
theorem sumInts_any (A : Option Addr) (c : Nat) (xs : List Int) (w : World) (h : Rd w A c xs) (hl : xs.length ≤ 1048576) (hs : Small2 xs) :
    Calls Try.prog 74 #[.func (.func 75) #[] #[], .int .i64 0, .slice A xs.length c] w fun e w' => e = .returned (.int .i64 xs.sum) ∧ w = w' := by
  go_enter Try.func74, Try.ntmps74
  go_wp2
  go_loop [7, 13] (fun s i => ∃ k : Nat, k ≤ xs.length ∧ i = .int .i64 k ∧ ∃ t, s = .int .i64 t ∧ Hid (t = (xs.take k).sum)) (fun _ i => xs.length - (intOf i).toNat)
  case atStart => exact ⟨0, Nat.zero_le _, rfl, 0, rfl, Lib.hid (by simp)⟩
  case round =>
    obtain ⟨k, hk, rfl, t, rfl, HT⟩ := hrel
    by_cases hlt : k < xs.length
    · obtain ⟨b, off, x, rfl, _, hx, hc⟩ := h.at_ hlt
      have b1 := hs x (List.mem_of_getElem? hx.out)
      have b2 := small_sum hs k
      rw [← HT.out] at b2
      have HT' := Lib.hid (sum_step hx.out)
      rw [← HT.out] at HT'
      go_wp2_with fail
      refine (plusI_any _ _ _ (by omega) (by omega) (by omega) (by omega)).mono ?_
      rintro e w' ⟨rfl, rfl⟩
      go_wp2
      go_round
      case rel => exact ⟨k + 1, by omega, by go_num, _, rfl, Lib.hid HT'.out.symm⟩
      case measure => simp [intOf]; omega
    · obtain rfl : k = xs.length := by omega
      have HE := Lib.hid (show t = xs.sum by rw [HT.out, List.take_length])
      go_wp2
      go_ret
      exact ⟨by rw [HE.out]; rfl, rfl⟩

theorem tail_step {xs : List Int} {k : Nat} {x : Int} (hx : xs[k]? = some x) : tailW xs k = x + tailW xs (k + 1) := by
  rw [tailW_step]; unfold wt; rw [List.getD_eq_getElem?_getD, hx]; rfl
theorem tail_small {xs : List Int} (hs : Small2 xs) (k : Nat) : -2147483648 * ((xs.length - k : Nat) : Int) ≤ tailW xs k ∧ tailW xs k ≤ 2147483647 * ((xs.length - k : Nat) : Int) := by
  have := small_sum (xs := xs.drop k) (fun x hx => hs x (List.mem_of_mem_drop hx)) (xs.length - k)
  rw [List.take_of_length_le (by simp)] at this
  exact this

end Go.Proofs.Ytnojlapjkdihmab

/-
  Chapter 2: the contracts of RevenueAt and BestPrice, of the program and of the model.
-/
namespace Go.Proofs.Ytnojlapjkdihmab
open Go.RowKit

theorem Rd.drop {w : World} {b off c : Nat} {xs : List Int} (h : Rd w (some ⟨b, off, none⟩) c xs) (m : Nat) : Rd w (some ⟨b, off + m, none⟩) (c - m) (xs.drop m) := by
  rcases h with ⟨rfl, _⟩ | ⟨b', off', hA, hc⟩
  · exact .inl ⟨by simp, fun h => by cases h⟩
  · injection hA with hA
    injection hA with h1 h2 h3
    subst h1 h2
    refine .inr ⟨b, off + m, rfl, fun k hk => ?_⟩
    rw [List.length_drop] at hk
    have := hc (m + k) (by omega)
    rw [List.getElem?_drop, Nat.add_assoc]
    exact this

theorem sumInts_n {n : Nat} {s : Int} (A : Option Addr) (c : Nat) (xs : List Int) (w : World) (hn : xs.length = n) (hs' : s = xs.sum) (h : Rd w A c xs) (hl : n ≤ 1048576) (hs : Small2 xs) :
    Calls Try.prog 74 #[.func (.func 75) #[] #[], .int .i64 0, .slice A n c] w fun e w' => e = .returned (.int .i64 s) ∧ w = w' := by
  subst hn hs'; exact sumInts_any A c xs w h hl hs

set_option maxHeartbeats 400000 in
theorem manyFrom_any (b off c : Nat) (xs : List Int) (v : Nat) (w : World) (h : Rd w (some ⟨b, off, none⟩) c xs) (hc : xs.length ≤ c) (hl : xs.length ≤ 1048576) (hv : v ≤ 1048576) (hs : Small2 xs) :
    Calls Try.prog 60 #[.slice (some ⟨b, off, none⟩) xs.length c, .int .i64 v] w fun e w' => e = .returned (.int .i64 (tailW xs v)) ∧ w = w' := by
  rcases Nat.lt_or_ge v xs.length with hlt | hge
  · have H := Lib.hid (sumInts_n (n := xs.length - v) (s := tailW xs v) _ _ (xs.drop v) w (by simp) rfl (h.drop v) (by omega) (fun x hx => hs x (List.mem_of_mem_drop hx)))
    have e : min (v : Int) (xs.length : Int) = v := by omega
    go_enter Try.func60, Try.ntmps60
    go_wp2_with fail
    refine H.out.mono ?_
    rintro e w' ⟨rfl, rfl⟩
    go_wp2
    go_ret
    exact ⟨rfl, rfl⟩
  · have H := Lib.hid (fun (o c' : Nat) => sumInts_n (n := 0) (s := tailW xs v) (some ⟨b, o, none⟩) c' [] w rfl (by rw [tailW_end _ _ hge]; simp) (.inl ⟨rfl, fun h => by cases h⟩) (by omega) (fun x hx => by cases hx))
    have e : min (v : Int) (xs.length : Int) = xs.length := by omega
    go_enter Try.func60, Try.ntmps60
    go_wp2_with fail
    all_goals
      refine (H.out _ _).mono ?_
      rintro e w' ⟨rfl, rfl⟩
      go_wp2
      go_ret
      exact ⟨rfl, rfl⟩

/-- What RevenueAt hands back. -/
def revF (xs : List Int) (p : Int) : Int := if (vW xs && inR p 0 6) = true then revW xs p.toNat else -1
theorem revF_yes {xs : List Int} {p : Nat} (h : vW xs = true) (hp : p ≤ 6) : revF xs p = revW xs p := by
  unfold revF; rw [h, inR_true.2 ⟨by omega, by omega⟩]; simp
theorem revF_bad {xs : List Int} {p : Int} (h : vW xs = false) : revF xs p = -1 := by unfold revF; rw [h]; simp
theorem revF_out {xs : List Int} {p : Int} (h : inR p 0 6 = false) : revF xs p = -1 := by unfold revF; rw [h]; simp
theorem vW_small {xs : List Int} (h : vW xs = true) : Small2 xs := fun x hx => by have := vW_mem h x hx; omega
theorem Rd.open1 {w : World} {A : Option Addr} {c : Nat} {xs : List Int} (h : Rd w A c xs) (h1 : 1 ≤ xs.length) : ∃ b off, A = some ⟨b, off, none⟩ := by
  rcases h with ⟨rfl, _⟩ | ⟨b, off, hA, _⟩
  · simp at h1
  · exact ⟨b, off, hA⟩
theorem rev_b {xs : List Int} (h : vW xs = true) (v : Nat) : 0 ≤ tailW xs v ∧ tailW xs v ≤ 36 := ⟨tailW_nn (vW_valid h) v, tailW_36 (vW_valid h) v⟩
theorem revW_nn {xs : List Int} (h : vW xs = true) (v : Nat) : 0 ≤ revW xs v := Int.mul_nonneg (by omega) (rev_b h v).1
theorem revW_le {xs : List Int} (h : vW xs = true) {v : Nat} (hv : v ≤ 6) : revW xs v ≤ 216 := by
  have h1 := rev_b h v
  have := Int.mul_le_mul (show (v : Int) ≤ 6 by omega) h1.2 h1.1 (by omega)
  unfold revW; omega

/-- The first of the prices below k that bring in most. -/
def bestG (xs : List Int) : Nat → Nat
  | 0 => 0
  | k + 1 => if revW xs (bestG xs k) < revW xs k then k else bestG xs k
theorem bestG_one (xs : List Int) : bestG xs 1 = 0 := by simp [bestG]
theorem bestG_lt (xs : List Int) : ∀ k, 1 ≤ k → bestG xs k < k
  | 1, _ => by rw [bestG_one]; omega
  | k + 2, _ => by have := bestG_lt xs (k + 1) (by omega); rw [bestG]; split <;> omega
theorem bestG_yes {xs : List Int} {k b : Nat} (hb : b = bestG xs k) (h : revW xs b < revW xs k) : k = bestG xs (k + 1) := by subst hb; rw [bestG, if_pos h]
theorem bestG_no {xs : List Int} {k b : Nat} (hb : b = bestG xs k) (h : ¬ revW xs b < revW xs k) : b = bestG xs (k + 1) := by subst hb; rw [bestG, if_neg h]
theorem bestG_more {xs : List Int} (h : vW xs = true) : ∀ d, bestG xs (xs.length + d) = bestG xs xs.length
  | 0 => rfl
  | d + 1 => by
    rw [← Nat.add_assoc, bestG, bestG_more h d, if_neg]
    have := revW_nn h (bestG xs xs.length)
    have e : revW xs (xs.length + d) = 0 := by unfold revW; rw [tailW_end _ _ (by omega)]; simp
    omega
theorem bestG_7 {xs : List Int} (h : vW xs = true) : bestG xs 7 = bestG xs xs.length := by
  have := vW_le h
  rw [← bestG_more h (7 - xs.length), show xs.length + (7 - xs.length) = 7 by omega]
theorem bestG_max (xs : List Int) : ∀ k u, u < k → revW xs u ≤ revW xs (bestG xs k)
  | 0, u, h => by omega
  | k + 1, u, h => by
    have := bestG_max xs k u
    rw [bestG]
    split
    · rcases Nat.eq_or_lt_of_le (show u ≤ k by omega) with rfl | h2
      · omega
      · have := this h2; omega
    · rcases Nat.eq_or_lt_of_le (show u ≤ k by omega) with rfl | h2
      · omega
      · exact this h2
theorem bestG_first (xs : List Int) : ∀ k u, u < bestG xs k → revW xs u < revW xs (bestG xs k)
  | 0, u, h => by rw [bestG] at h; omega
  | k + 1, u, h => by
    rw [bestG] at h ⊢
    split
    · rename_i hlt
      rw [if_pos hlt] at h
      have := bestG_max xs k u h
      omega
    · rename_i hge
      rw [if_neg hge] at h
      exact bestG_first xs k u h

/-- What BestPrice hands back. -/
def bestP (xs : List Int) : Int := if vW xs = true then bestG xs xs.length else -1

end Go.Proofs.Ytnojlapjkdihmab
