/-
  Chapter 11, plain arithmetic: the greatest values in whole numbers, and what is had over one denominator.
-/
import Derived.Test.YtnojlapjkdihmaaHa
import Derived.Test.YtnojlapjkdihmaaCt
namespace Go.Proofs.Ytnojlapjkdihmaa

/-- The sum of whole numbers f over 0..n-1. -/
def sI (n : Nat) (f : Nat → Int) : Int := match n with
  | 0 => 0
  | n + 1 => sI n f + f n
theorem sI_congr {n : Nat} {f g : Nat → Int} (h : ∀ k, k < n → f k = g k) : sI n f = sI n g := by
  induction n with
  | zero => rfl
  | succ n ih => rw [sI, sI, ih (fun k hk => h k (by omega)), h n (by omega)]
theorem sI_le {n : Nat} {f g : Nat → Int} (h : ∀ k, k < n → f k ≤ g k) : sI n f ≤ sI n g := by
  induction n with
  | zero => exact Int.le_refl _
  | succ n ih => rw [sI, sI]; have h1 := ih (fun k hk => h k (by omega)); have h2 := h n (by omega); omega
theorem sI_add {n : Nat} {f g : Nat → Int} : sI n (fun k => f k + g k) = sI n f + sI n g := by
  induction n with
  | zero => rfl
  | succ n ih => rw [sI, sI, sI, ih]; omega
theorem sI_sub {n : Nat} {f g : Nat → Int} : sI n (fun k => f k - g k) = sI n f - sI n g := by
  induction n with
  | zero => rfl
  | succ n ih => rw [sI, sI, sI, ih]; omega
theorem sI_mul {n : Nat} {c : Int} {f : Nat → Int} : sI n (fun k => f k * c) = sI n f * c := by
  induction n with
  | zero => simp [sI]
  | succ n ih => rw [sI, sI, ih, Int.add_mul]
theorem sI_mul' {n : Nat} {c : Int} {f : Nat → Int} : sI n (fun k => c * f k) = c * sI n f := by
  induction n with
  | zero => simp [sI]
  | succ n ih => rw [sI, sI, ih, Int.mul_add]
theorem sI_zero {n : Nat} : sI n (fun _ => 0) = 0 := by
  induction n with
  | zero => rfl
  | succ n ih => rw [sI, ih]; rfl
theorem sI_nn {n : Nat} {f : Nat → Int} (h : ∀ k, k < n → 0 ≤ f k) : 0 ≤ sI n f := by
  have := sI_le (n := n) (f := fun _ => 0) (g := f) h
  rwa [sI_zero] at this
theorem sI_swap {m : Nat} {f : Nat → Nat → Int} : ∀ n, sI n (fun v => sI m (f v)) = sI m (fun t => sI n (fun v => f v t))
  | 0 => by simp only [sI]; exact sI_zero.symm
  | n + 1 => by simp only [sI]; rw [sI_swap n, ← sI_add]
theorem sI_cast (n : Nat) (f : Nat → Int) : ((sI n f : Int) : Rat) = sumR n (fun v => (f v : Rat)) := by
  induction n with
  | zero => rfl
  | succ n ih => rw [sI, sumR, Rat.intCast_add, ih]

/-- The weights below the value s. -/
theorem wt_below (w : List Int) (s : Nat) : sI w.length (fun v => if v < s then wt w v else 0) = tailW w 0 - tailW w s := by
  have key : ∀ n, sI n (fun v => if v < s then wt w v else 0) = tailW w 0 - tailW w (min n s) := by
    intro n
    induction n with
    | zero => simp [sI]
    | succ n ih =>
      rw [sI, ih]
      by_cases h : n < s
      · rw [if_pos h, Nat.min_eq_left (by omega), Nat.min_eq_left (by omega)]
        have := tailW_step w n
        omega
      · rw [if_neg h, Nat.min_eq_right (by omega), Nat.min_eq_right (by omega)]; omega
  rw [key]
  by_cases h : w.length ≤ s
  · rw [Nat.min_eq_left h, tailW_end w _ (Nat.le_refl _), tailW_end w s h]
  · rw [Nat.min_eq_right (by omega)]
theorem wt_all (w : List Int) : sI w.length (fun v => wt w v) = tailW w 0 := by
  have h := wt_below w w.length
  rw [tailW_end w _ (Nat.le_refl _), sI_congr (g := fun v => wt w v) (fun v hv => if_pos hv)] at h
  omega

/-- In how many ways all values come, and in how many all of them are below t. -/
def waysL : List (List Int) → Int
  | [] => 1
  | w :: ws => tailW w 0 * waysL ws
def belowL (t : Nat) : List (List Int) → Int
  | [] => 1
  | w :: ws => (tailW w 0 - tailW w t) * belowL t ws
/-- The sum of the greatest values with their weights. -/
def bestS : List (List Int) → Nat → Int
  | [], m => m
  | w :: ws, m => sI w.length (fun v => wt w v * bestS ws (max m v))
def seenN (rows : List (List Int)) : Int := sI 5 (fun t => waysL rows - belowL (t + 1) rows)

theorem waysL_pos : ∀ (ws : List (List Int)), VS ws → 1 ≤ waysL ws
  | [], _ => by simp [waysL]
  | w :: ws, hv => by
    have h1 := tot_pos hv.head
    have h2 := waysL_pos ws hv.tail
    rw [waysL]
    have := Int.mul_le_mul h1 h2 (by omega) (by omega)
    omega
theorem waysL_le : ∀ (ws : List (List Int)), VS ws → waysL ws ≤ 36 ^ ws.length
  | [], _ => by simp [waysL]
  | w :: ws, hv => by
    have h1 := tailW_36 hv.head 0
    have h2 := waysL_le ws hv.tail
    have h3 := waysL_pos ws hv.tail
    rw [waysL, List.length_cons, Int.pow_succ, Int.mul_comm]
    exact Int.mul_le_mul h2 h1 (by have := tot_pos hv.head; omega) (by omega)
theorem belowL_bd (t : Nat) : ∀ (ws : List (List Int)), VS ws → 0 ≤ belowL t ws ∧ belowL t ws ≤ waysL ws
  | [], _ => by simp [waysL, belowL]
  | w :: ws, hv => by
    obtain ⟨h1, h2⟩ := belowL_bd t ws hv.tail
    have t1 := tailW_nn hv.head t
    have t2 : tailW w t ≤ tailW w 0 := by
      rcases Nat.eq_zero_or_pos t with rfl | h
      · exact Int.le_refl _
      · by_cases hl : t ≤ w.length
        · have := tailW_lt hv.head h hl; omega
        · rw [tailW_end w t (by omega)]; exact tailW_nn hv.head 0
    rw [belowL, waysL]
    exact ⟨Int.mul_nonneg (by omega) h1, Int.mul_le_mul (by omega) h2 h1 (tailW_nn hv.head 0)⟩
theorem belowL_all : ∀ (ws : List (List Int)), VS ws → belowL 6 ws = waysL ws
  | [], _ => rfl
  | w :: ws, hv => by
    have := validW_len hv.head
    rw [belowL, waysL, belowL_all ws hv.tail, tailW_end w 6 this, Int.sub_zero]

/-- The sum of the greatest values by counting: once for each value from 1 on that it is at least. -/
theorem bestS_eq : ∀ (ws : List (List Int)) (m : Nat), VS ws → m ≤ 5 → bestS ws m = sI 5 (fun t => waysL ws - if m < t + 1 then belowL (t + 1) ws else 0)
  | [], m, _, h => by
    have : m = 0 ∨ m = 1 ∨ m = 2 ∨ m = 3 ∨ m = 4 ∨ m = 5 := by omega
    rcases this with rfl | rfl | rfl | rfl | rfl | rfl <;> simp [bestS, sI, waysL, belowL]
  | w :: ws, m, hv, h => by
    have hl := validW_len hv.head
    rw [bestS, sI_congr (g := fun v => sI 5 (fun t => wt w v * waysL ws - (if v < t + 1 then wt w v else 0) * (if m < t + 1 then belowL (t + 1) ws else 0))) fun v hv' => by
      rw [bestS_eq ws (max m v) hv.tail (by omega), ← sI_mul']
      refine sI_congr fun t _ => ?_
      rw [Int.mul_sub]
      congr 1
      by_cases c1 : v < t + 1
      · by_cases c2 : m < t + 1
        · rw [if_pos c1, if_pos c2, if_pos (by omega)]
        · rw [if_neg c2, if_neg (by omega), Int.mul_zero, Int.mul_zero]
      · rw [if_neg c1, if_neg (by omega), Int.mul_zero, Int.zero_mul]]
    rw [sI_swap]
    refine sI_congr fun t _ => ?_
    rw [sI_sub, sI_mul, sI_mul, wt_all, wt_below, waysL, belowL]
    split <;> simp
theorem bestS_seen {ws : List (List Int)} (hv : VS ws) : bestS ws 0 = seenN ws := by
  rw [bestS_eq ws 0 hv (by omega)]
  exact sI_congr fun t _ => by rw [if_pos (by omega)]
theorem bestS_bd {ws : List (List Int)} (hv : VS ws) {m : Nat} (hm : m ≤ 5) : 0 ≤ bestS ws m ∧ bestS ws m ≤ 5 * waysL ws := by
  rw [bestS_eq ws m hv hm]
  have h : ∀ t, 0 ≤ waysL ws - (if m < t + 1 then belowL (t + 1) ws else 0) ∧ waysL ws - (if m < t + 1 then belowL (t + 1) ws else 0) ≤ waysL ws := fun t => by
    obtain ⟨h1, h2⟩ := belowL_bd (t + 1) ws hv
    have := waysL_pos ws hv
    split <;> omega
  refine ⟨sI_nn fun t _ => (h t).1, ?_⟩
  have := sI_le (n := 5) (f := fun t => waysL ws - if m < t + 1 then belowL (t + 1) ws else 0) (g := fun _ => waysL ws) fun t _ => (h t).2
  refine Int.le_trans this ?_
  simp only [sI]; omega

/-- The mean of whole numbers over one denominator. -/
theorem mean_fq {w : List Int} (hw : validW w = true) {D : Int} (hD : 1 ≤ D) (z : Nat → Int) : meanV w (fun v => fq (z v) D) = fq (sI w.length (fun v => wt w v * z v)) (tailW w 0 * D) := by
  have h1 : (D : Rat) ≠ 0 := by have : (0 : Rat) < (D : Rat) := Rat.intCast_pos.2 (by omega); grind
  have h2 : (tailW w 0 : Rat) ≠ 0 := by have := tot_posQ hw; grind
  have h3 : ((tailW w 0 : Rat) * (D : Rat)) ≠ 0 := fun h => (Rat.mul_eq_zero.1 h).elim h2 h1
  unfold fq
  rw [Rat.intCast_mul]
  refine (div_eq h3 ?_).symm
  have e := meanV_tot hw (fun v => (z v : Rat) / (D : Rat))
  rw [← Rat.mul_assoc, e, sI_cast, Rat.mul_comm, ← sumR_mul]
  refine sumR_congr fun v _ => ?_
  rw [Rat.intCast_mul]
  have := Rat.div_mul_cancel (a := (z v : Rat)) h1
  grind
theorem fq_nat (v : Nat) {D : Int} (hD : 1 ≤ D) : ((v : Nat) : Rat) = fq (v * D) D := by
  have h := fq_scale (z := v) (d := 1) (k := D) (by decide) hD
  rw [Int.one_mul, fq_one] at h
  exact h.symm
theorem seen_fq : ∀ (ws : List (List Int)) (m : Nat), VS ws → seenQ ws m = fq (bestS ws m) (waysL ws)
  | [], m, _ => by rw [bestS, waysL, fq_one]; rfl
  | w :: ws, m, hv => by
    rw [seenQ, bestS, waysL, ← mean_fq hv.head (waysL_pos ws hv.tail)]
    exact meanV_congr fun v _ => seen_fq ws _ hv.tail

/-- What is had lies over one denominator. -/
def Had (D : Int) (q : Rat) : Prop := ∃ z : Int, q = fq z D ∧ 0 ≤ z ∧ z ≤ 5 * D
theorem Had.sc {D : Int} {q : Rat} (h : Had D q) : Sc D (5 * D) q := by
  obtain ⟨z, h1, h2, h3⟩ := h
  exact ⟨z, h1, by omega, h3⟩
theorem Had.nat (v : Nat) (hv : v ≤ 5) {D : Int} (hD : 1 ≤ D) : Had D (v : Rat) :=
  ⟨v * D, fq_nat v hD, Int.mul_nonneg (by omega) (by omega), Int.mul_le_mul_of_nonneg_right (by omega) (by omega)⟩
theorem Had.take {D : Int} {e r : Rat} (h : Had D r) (hD : 1 ≤ D) {v : Nat} (hv : v ≤ 5) : Had D (takeQ e r v) := by
  unfold takeQ; split
  · exact h
  · exact Had.nat v hv hD
theorem mean_had {w : List Int} (hw : validW w = true) {D : Int} (hD : 1 ≤ D) {f : Nat → Rat} (hf : ∀ v, v < w.length → Had D (f v)) : Had (tailW w 0 * D) (meanV w f) := by
  have hz : ∃ z : Nat → Int, ∀ v, v < w.length → f v = fq (z v) D ∧ 0 ≤ z v ∧ z v ≤ 5 * D := by
    refine ⟨fun v => if h : v < w.length then (hf v h).choose else 0, fun v h => ?_⟩
    simp only [h, dif_pos]
    exact (hf v h).choose_spec
  obtain ⟨z, hz⟩ := hz
  refine ⟨sI w.length (fun v => wt w v * z v), ?_, sI_nn fun v hv => Int.mul_nonneg (validW_nn hw v) (hz v hv).2.1, ?_⟩
  · rw [← mean_fq hw hD]
    exact meanV_congr fun v hv => (hz v hv).1
  · have := sI_le (n := w.length) (f := fun v => wt w v * z v) (g := fun v => wt w v * (5 * D)) fun v hv => Int.mul_le_mul_of_nonneg_left (hz v hv).2.2 (validW_nn hw v)
    rw [sI_mul, wt_all] at this
    rw [← Int.mul_assoc, Int.mul_comm 5, Int.mul_assoc]
    exact this
theorem by_had (e : Rat → Rat) : ∀ (ws : List (List Int)), VS ws → Had (waysL ws) (byQ e ws)
  | [], _ => ⟨0, by rw [waysL, fq_one]; rfl, by omega, by rw [waysL]; omega⟩
  | w :: ws, hv => mean_had hv.head (waysL_pos ws hv.tail) fun v hv' => (by_had e ws hv.tail).take (waysL_pos ws hv.tail) (by have := validW_len hv.head; omega)

/-- The other way round the same is seen. -/
theorem waysL_app (xs ys : List (List Int)) : waysL (xs ++ ys) = waysL xs * waysL ys := by
  induction xs with
  | nil => simp [waysL]
  | cons x xs ih => rw [List.cons_append, waysL, waysL, ih, Int.mul_assoc]
theorem belowL_app (t : Nat) (xs ys : List (List Int)) : belowL t (xs ++ ys) = belowL t xs * belowL t ys := by
  induction xs with
  | nil => simp [belowL]
  | cons x xs ih => rw [List.cons_append, belowL, belowL, ih, Int.mul_assoc]
theorem waysL_rev (xs : List (List Int)) : waysL xs.reverse = waysL xs := by
  induction xs with
  | nil => rfl
  | cons x xs ih => rw [List.reverse_cons, waysL_app, ih, waysL, waysL, waysL, Int.mul_one, Int.mul_comm]
theorem belowL_rev (t : Nat) (xs : List (List Int)) : belowL t xs.reverse = belowL t xs := by
  induction xs with
  | nil => rfl
  | cons x xs ih => rw [List.reverse_cons, belowL_app, ih, belowL, belowL, belowL, Int.mul_one, Int.mul_comm]
theorem seenN_rev (xs : List (List Int)) : seenN xs.reverse = seenN xs := by
  unfold seenN
  exact sI_congr fun t _ => by rw [waysL_rev, belowL_rev]
end Go.Proofs.Ytnojlapjkdihmaa
