/-
  Chapter 2, plain arithmetic: tails, virtual values, slopes, the ironed values and their curve.
-/
import Derived.Test.YtnojlapjkdihmaaProg
namespace Go.Proofs.Ytnojlapjkdihmaa

/-- The weight of the value v, 0 for none. -/
def wt (w : List Int) (v : Nat) : Int := w.getD v 0
/-- How many have at least the value v. -/
def tailW (w : List Int) (v : Nat) : Int := (w.drop v).sum
/-- What the price v brings in. -/
def revW (w : List Int) (v : Nat) : Int := v * tailW w v

theorem tailW_step (w : List Int) (v : Nat) : tailW w v = wt w v + tailW w (v + 1) := by
  unfold tailW wt
  by_cases h : v < w.length
  · rw [List.drop_eq_getElem_cons h, List.sum_cons]
    simp [h]
  · rw [List.drop_eq_nil_of_le (by omega), List.drop_eq_nil_of_le (by omega)]
    simp [show w.length ≤ v by omega]
theorem tailW_end (w : List Int) (v : Nat) (h : w.length ≤ v) : tailW w v = 0 := by
  unfold tailW; rw [List.drop_eq_nil_of_le h]; rfl
theorem wt_end (w : List Int) (v : Nat) (h : w.length ≤ v) : wt w v = 0 := by unfold wt; simp [h]

/-- Weights of values. -/
def validW (w : List Int) : Bool := decide (1 ≤ w.length) && decide (w.length ≤ 6) && w.all (fun x => decide (1 ≤ x) && decide (x ≤ 6))

theorem validW_len1 {w : List Int} (h : validW w = true) : 1 ≤ w.length := by simp [validW] at h; omega
theorem validW_len {w : List Int} (h : validW w = true) : w.length ≤ 6 := by simp [validW] at h; omega
theorem validW_mem {w : List Int} (h : validW w = true) : ∀ x ∈ w, 1 ≤ x ∧ x ≤ 6 := by
  simp [validW] at h; exact fun x hx => h.2 x hx
theorem validW_lo {w : List Int} (h : validW w = true) {v : Nat} (hv : v < w.length) : 1 ≤ wt w v := by
  unfold wt; simp [hv]; exact (validW_mem h _ (List.getElem_mem hv)).1
theorem validW_hi {w : List Int} (h : validW w = true) (v : Nat) : wt w v ≤ 6 := by
  by_cases hv : v < w.length
  · unfold wt; simp [hv]; exact (validW_mem h _ (List.getElem_mem hv)).2
  · rw [wt_end w v (by omega)]; omega
theorem validW_nn {w : List Int} (h : validW w = true) (v : Nat) : 0 ≤ wt w v := by
  by_cases hv : v < w.length
  · have := validW_lo h hv; omega
  · rw [wt_end w v (by omega)]; omega
theorem tailW_nn {w : List Int} (h : validW w = true) (v : Nat) : 0 ≤ tailW w v := by
  by_cases hv : v < w.length
  · rw [tailW_step]; have := tailW_nn h (v + 1); have := validW_nn h v; omega
  · rw [tailW_end w v (by omega)]; omega
  termination_by w.length - v
theorem tailW_hi {w : List Int} (h : validW w = true) (v : Nat) : tailW w v ≤ 6 * ((w.length - v : Nat) : Int) := by
  by_cases hv : v < w.length
  · rw [tailW_step]; have := tailW_hi h (v + 1); have := validW_hi h v; omega
  · rw [tailW_end w v (by omega)]; omega
  termination_by w.length - v
theorem tailW_36 {w : List Int} (h : validW w = true) (v : Nat) : tailW w v ≤ 36 := by
  have := tailW_hi h v; have := validW_len h; omega
theorem tailW_lt {w : List Int} (h : validW w = true) {u v : Nat} (huv : u < v) (hv : v ≤ w.length) : tailW w v + ((v - u : Nat) : Int) ≤ tailW w u := by
  induction v with
  | zero => omega
  | succ v ih =>
    have e := tailW_step w v
    have := validW_lo h (show v < w.length by omega)
    rcases Nat.lt_or_ge u v with h1 | h1
    · have := ih h1 (by omega); omega
    · obtain rfl : u = v := by omega
      omega
theorem tailW_gap {w : List Int} (h : validW w = true) {u v : Nat} (huv : u ≤ v) : tailW w u - tailW w v ≤ 6 * ((v - u : Nat) : Int) := by
  induction v with
  | zero => obtain rfl : u = 0 := by omega
            omega
  | succ v ih =>
    have e := tailW_step w v
    have := validW_hi h v
    rcases Nat.lt_or_ge v u with h1 | h1
    · obtain rfl : u = v + 1 := by omega
      omega
    · have := ih h1; omega

/-- A value less the rest of those that are greater. -/
def virtQ (w : List Int) (v : Nat) : Rat := ((v * wt w v - tailW w (v + 1) : Int) : Rat) / (wt w v : Rat)
/-- The slope of the revenues between two values. -/
def slopeQ (w : List Int) (u h : Nat) : Rat := ((revW w u - revW w h : Int) : Rat) / ((tailW w u - tailW w h : Int) : Rat)

theorem revW_step (w : List Int) (v : Nat) : revW w v - revW w (v + 1) = v * wt w v - tailW w (v + 1) := by
  unfold revW
  rw [tailW_step w v]
  push_cast
  grind

theorem virtQ_mul {w : List Int} (h : validW w = true) {v : Nat} (hv : v < w.length) : (wt w v : Rat) * virtQ w v = ((revW w v - revW w (v + 1) : Int) : Rat) := by
  have h1 := validW_lo h hv
  have h2 : (wt w v : Rat) ≠ 0 := by have : (0 : Rat) < (wt w v : Rat) := Rat.intCast_pos.2 (by omega); grind
  unfold virtQ
  rw [Rat.mul_comm, Rat.div_mul_cancel h2, revW_step]

theorem slopeQ_mul {w : List Int} (h : validW w = true) {u v : Nat} (huv : u < v) (hv : v ≤ w.length) : ((tailW w u - tailW w v : Int) : Rat) * slopeQ w u v = ((revW w u - revW w v : Int) : Rat) := by
  have h1 := tailW_lt h huv hv
  have h2 : ((tailW w u - tailW w v : Int) : Rat) ≠ 0 := by have : (0 : Rat) < ((tailW w u - tailW w v : Int) : Rat) := Rat.intCast_pos.2 (by omega); grind
  unfold slopeQ
  rw [Rat.mul_comm, Rat.div_mul_cancel h2]

theorem slopeQ_one {w : List Int} (v : Nat) : slopeQ w v (v + 1) = virtQ w v := by
  unfold slopeQ virtQ
  rw [revW_step, show tailW w v - tailW w (v + 1) = wt w v by rw [tailW_step w v]; omega]

/-- From the k values below on: to where the slope from h is the greatest, the furthest one of several. -/
def steepTo (w : List Int) (h : Nat) : Nat → Nat × Rat → Nat × Rat
  | 0, s => s
  | u + 1, s => steepTo w h u (if slopeQ w u h < s.2 then s else (u, slopeQ w u h))

def steep (w : List Int) (h : Nat) : Nat × Rat := steepTo w h (h - 1) (h - 1, slopeQ w (h - 1) h)

theorem steepTo_is (w : List Int) (h : Nat) : ∀ (k : Nat) (s : Nat × Rat), k ≤ s.1 → s.1 < h → s.2 = slopeQ w s.1 h → (∀ u, k ≤ u → u < h → slopeQ w u h ≤ s.2) → (∀ u, k ≤ u → u < s.1 → slopeQ w u h < s.2) →
    (steepTo w h k s).1 < h ∧ (steepTo w h k s).2 = slopeQ w (steepTo w h k s).1 h ∧ (∀ u, u < h → slopeQ w u h ≤ (steepTo w h k s).2) ∧ (∀ u, u < (steepTo w h k s).1 → slopeQ w u h < (steepTo w h k s).2)
  | 0, s, hk, h1, h2, h3, h4 => ⟨h1, h2, fun u hu => h3 u (Nat.zero_le _) hu, fun u hu => h4 u (Nat.zero_le _) hu⟩
  | u + 1, s, hk, h1, h2, h3, h4 => by
    rw [steepTo]
    split
    · rename_i hlt
      refine steepTo_is w h u s (by omega) h1 h2 (fun x hx hx2 => ?_) (fun x hx hx2 => ?_)
      · rcases Nat.eq_or_lt_of_le hx with rfl | hx
        · exact Rat.le_of_lt hlt
        · exact h3 x hx hx2
      · rcases Nat.eq_or_lt_of_le hx with rfl | hx
        · exact hlt
        · exact h4 x hx hx2
    · rename_i hge
      have hge' := Rat.not_lt.1 hge
      refine steepTo_is w h u (u, slopeQ w u h) (Nat.le_refl _) (by simp; omega) rfl (fun x hx hx2 => ?_) (fun x hx hx2 => ?_)
      · rcases Nat.eq_or_lt_of_le hx with rfl | hx
        · exact Rat.le_refl
        · exact Rat.le_trans (h3 x hx hx2) hge'
      · simp at hx2; omega

theorem steep_is (w : List Int) {h : Nat} (hh : 1 ≤ h) :
    (steep w h).1 < h ∧ (steep w h).2 = slopeQ w (steep w h).1 h ∧ (∀ u, u < h → slopeQ w u h ≤ (steep w h).2) ∧ (∀ u, u < (steep w h).1 → slopeQ w u h < (steep w h).2) := by
  unfold steep
  refine steepTo_is w h (h - 1) _ (Nat.le_refl _) (by simp; omega) rfl (fun u h1 h2 => ?_) (fun u h1 h2 => ?_)
  · obtain rfl : u = h - 1 := by omega
    exact Rat.le_refl
  · simp at h2; omega

/-- The ironed values below h. -/
def ironL (w : List Int) : Nat → Nat → List Rat
  | 0, _ => []
  | f + 1, h => if h = 0 then [] else ironL w f (steep w h).1 ++ List.replicate (h - (steep w h).1) (steep w h).2
/-- Of which all their Downs are factors. -/
def ironD (w : List Int) : Nat → Nat → Int
  | 0, _ => 1
  | f + 1, h => if h = 0 then 1 else (tailW w (steep w h).1 - tailW w h) * ironD w f (steep w h).1
def ironed (w : List Int) : List Rat := ironL w w.length w.length
def ironAt (w : List Int) (v : Nat) : Rat := (ironed w).getD v 0

theorem ironL_fuel (w : List Int) : ∀ (f g h : Nat), h ≤ f → h ≤ g → ironL w f h = ironL w g h
  | 0, 0, _, _, _ => rfl
  | 0, g + 1, h, h1, _ => by obtain rfl : h = 0 := by omega
                             simp [ironL]
  | f + 1, 0, h, _, h1 => by obtain rfl : h = 0 := by omega
                             simp [ironL]
  | f + 1, g + 1, h, h1, h2 => by
    rw [ironL, ironL]
    split
    · rfl
    · have := (steep_is w (show 1 ≤ h by omega)).1
      rw [ironL_fuel w f g _ (by omega) (by omega)]

theorem ironL_len (w : List Int) : ∀ (f h : Nat), h ≤ f → (ironL w f h).length = h
  | 0, h, h1 => by obtain rfl : h = 0 := by omega
                   rfl
  | f + 1, h, h1 => by
    rw [ironL]
    split
    · simp; omega
    · have := (steep_is w (show 1 ≤ h by omega)).1
      rw [List.length_append, ironL_len w f _ (by omega), List.length_replicate]; omega

theorem ironed_len (w : List Int) : (ironed w).length = w.length := ironL_len w _ _ (Nat.le_refl _)

/-- The sum of f over 0..n-1. -/
def sumR (n : Nat) (f : Nat → Rat) : Rat := match n with
  | 0 => 0
  | n + 1 => sumR n f + f n
theorem sumR_congr {n : Nat} {f g : Nat → Rat} (h : ∀ k, k < n → f k = g k) : sumR n f = sumR n g := by
  induction n with
  | zero => rfl
  | succ n ih => rw [sumR, sumR, ih (fun k hk => h k (by omega)), h n (by omega)]
theorem sumR_le {n : Nat} {f g : Nat → Rat} (h : ∀ k, k < n → f k ≤ g k) : sumR n f ≤ sumR n g := by
  induction n with
  | zero => exact Rat.le_refl
  | succ n ih => rw [sumR, sumR]; have h1 := ih (fun k hk => h k (by omega)); have h2 := h n (by omega); grind
theorem sumR_add {n : Nat} {f g : Nat → Rat} : sumR n (fun k => f k + g k) = sumR n f + sumR n g := by
  induction n with
  | zero => simp [sumR]; grind
  | succ n ih => rw [sumR, sumR, sumR, ih]; grind
theorem sumR_mul {n : Nat} {c : Rat} {f : Nat → Rat} : sumR n (fun k => c * f k) = c * sumR n f := by
  induction n with
  | zero => simp [sumR]
  | succ n ih => rw [sumR, sumR, ih]; grind
theorem sumR_zero {n : Nat} : sumR n (fun _ => 0) = 0 := by
  induction n with
  | zero => rfl
  | succ n ih => rw [sumR, ih]; grind
theorem sumR_nn {n : Nat} {f : Nat → Rat} (h : ∀ k, k < n → 0 ≤ f k) : 0 ≤ sumR n f := by
  have := sumR_le (n := n) (f := fun _ => 0) (g := f) h
  rwa [sumR_zero] at this

/-- The sum of what a telescope steps from t on. -/
theorem sumR_tele (F : Nat → Rat) (t : Nat) : ∀ n, t ≤ n → sumR n (fun x => if t ≤ x then F x - F (x + 1) else 0) = F t - F n := by
  intro n h
  induction n with
  | zero => obtain rfl : t = 0 := by omega
            simp [sumR]; grind
  | succ n ih =>
    rw [sumR]
    rcases Nat.lt_or_ge n t with h1 | h1
    · obtain rfl : t = n + 1 := by omega
      rw [if_neg (by omega), sumR_congr (g := fun _ => 0) (fun k hk => if_neg (by omega)), sumR_zero]; grind
    · rw [ih h1, if_pos h1]; grind
theorem sumR_late {f : Nat → Rat} (t n : Nat) (h : n ≤ t) : sumR n (fun x => if t ≤ x then f x else 0) = 0 := by
  rw [sumR_congr (g := fun _ => 0) (fun k hk => if_neg (by omega)), sumR_zero]

/-- Virtual values from t on bring in what the price t does. -/
theorem virt_tele {w : List Int} (h : validW w = true) (t : Nat) : sumR w.length (fun x => if t ≤ x then (wt w x : Rat) * virtQ w x else 0) = (revW w t : Rat) := by
  rcases Nat.lt_or_ge w.length t with h1 | h1
  · rw [sumR_late _ _ (by omega)]; unfold revW; rw [tailW_end _ _ (by omega)]; simp
  · rw [sumR_congr (g := fun x => if t ≤ x then (revW w x : Rat) - (revW w (x + 1) : Rat) else 0) (fun k hk => by rw [virtQ_mul h hk, Rat.intCast_sub]), sumR_tele _ _ _ h1]
    have : revW w w.length = 0 := by unfold revW; rw [tailW_end _ _ (by omega)]; simp
    rw [this]; grind
theorem wt_tele (w : List Int) (t : Nat) (c : Rat) : sumR w.length (fun x => if t ≤ x then (wt w x : Rat) * c else 0) = (tailW w t : Rat) * c := by
  rcases Nat.lt_or_ge w.length t with h1 | h1
  · rw [sumR_late _ _ (by omega), tailW_end _ _ (by omega)]; simp
  · rw [sumR_congr (g := fun x => if t ≤ x then (tailW w x : Rat) * c - (tailW w (x + 1) : Rat) * c else 0) (fun k hk => by rw [tailW_step w k, Rat.intCast_add]; split <;> grind), sumR_tele (fun x => (tailW w x : Rat) * c) _ _ h1]
    rw [tailW_end w w.length (by omega)]; grind
end Go.Proofs.Ytnojlapjkdihmaa
