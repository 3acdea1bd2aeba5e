/-
  Chapter 2, plain arithmetic: tails, virtual values, slopes, the ironed values and their curve.
-/
import Derived.Test.YtoipjhdnmiomeaaProg
import Derived.Test.YtoipjhdnmiomeaaGB
namespace Go.Proofs.Ytoipjhdnmiomeaa

/-- The weight of the value v, 0 for none. -/
def wt (w : List Int) (v : Nat) : Int := w.getD v 0
/-- How many have at least the value v. -/
def tailW (w : List Int) (v : Nat) : Int := (w.drop v).sum
/-- What the price v brings in. -/
def revW (w : List Int) (v : Nat) : Int := v * tailW w v

theorem tailW_step (w : List Int) (v : Nat) : tailW w v = wt w v + tailW w (v + 1) := by
  unfold tailW wt
  by_cases h : v < w.length
  · rw [List.drop_eq_getElem_cons h, List.sum_cons]
    simp [h]
  · rw [List.drop_eq_nil_of_le (by omega), List.drop_eq_nil_of_le (by omega)]
    simp [show w.length ≤ v by omega]
theorem tailW_end (w : List Int) (v : Nat) (h : w.length ≤ v) : tailW w v = 0 := by
  unfold tailW; rw [List.drop_eq_nil_of_le h]; rfl
theorem wt_end (w : List Int) (v : Nat) (h : w.length ≤ v) : wt w v = 0 := by unfold wt; simp [h]

/-- Weights of values. -/
def validW (w : List Int) : Bool := decide (1 ≤ w.length) && decide (w.length ≤ 6) && w.all (fun x => decide (1 ≤ x) && decide (x ≤ 6))

theorem validW_len1 {w : List Int} (h : validW w = true) : 1 ≤ w.length := by simp [validW] at h; omega
theorem validW_len {w : List Int} (h : validW w = true) : w.length ≤ 6 := by simp [validW] at h; omega
theorem validW_mem {w : List Int} (h : validW w = true) : ∀ x ∈ w, 1 ≤ x ∧ x ≤ 6 := by
  simp [validW] at h; exact fun x hx => h.2 x hx
theorem validW_lo {w : List Int} (h : validW w = true) {v : Nat} (hv : v < w.length) : 1 ≤ wt w v := by
  unfold wt; simp [hv]; exact (validW_mem h _ (List.getElem_mem hv)).1
theorem validW_hi {w : List Int} (h : validW w = true) (v : Nat) : wt w v ≤ 6 := by
  by_cases hv : v < w.length
  · unfold wt; simp [hv]; exact (validW_mem h _ (List.getElem_mem hv)).2
  · rw [wt_end w v (by omega)]; omega
theorem validW_nn {w : List Int} (h : validW w = true) (v : Nat) : 0 ≤ wt w v := by
  by_cases hv : v < w.length
  · have := validW_lo h hv; omega
  · rw [wt_end w v (by omega)]; omega
theorem tailW_nn {w : List Int} (h : validW w = true) (v : Nat) : 0 ≤ tailW w v := by
  by_cases hv : v < w.length
  · rw [tailW_step]; have := tailW_nn h (v + 1); have := validW_nn h v; omega
  · rw [tailW_end w v (by omega)]; omega
  termination_by w.length - v
theorem tailW_hi {w : List Int} (h : validW w = true) (v : Nat) : tailW w v ≤ 6 * ((w.length - v : Nat) : Int) := by
  by_cases hv : v < w.length
  · rw [tailW_step]; have := tailW_hi h (v + 1); have := validW_hi h v; omega
  · rw [tailW_end w v (by omega)]; omega
  termination_by w.length - v
theorem tailW_36 {w : List Int} (h : validW w = true) (v : Nat) : tailW w v ≤ 36 := by
  have := tailW_hi h v; have := validW_len h; omega
theorem tailW_lt {w : List Int} (h : validW w = true) {u v : Nat} (huv : u < v) (hv : v ≤ w.length) : tailW w v + ((v - u : Nat) : Int) ≤ tailW w u := by
  induction v with
  | zero => omega
  | succ v ih =>
    have e := tailW_step w v
    have := validW_lo h (show v < w.length by omega)
    rcases Nat.lt_or_ge u v with h1 | h1
    · have := ih h1 (by omega); omega
    · obtain rfl : u = v := by omega
      omega
theorem tailW_gap {w : List Int} (h : validW w = true) {u v : Nat} (huv : u ≤ v) : tailW w u - tailW w v ≤ 6 * ((v - u : Nat) : Int) := by
  induction v with
  | zero => obtain rfl : u = 0 := by omega
            omega
  | succ v ih =>
    have e := tailW_step w v
    have := validW_hi h v
    rcases Nat.lt_or_ge v u with h1 | h1
    · obtain rfl : u = v + 1 := by omega
      omega
    · have := ih h1; omega

/-- A value less the rest of those that are greater. -/
def virtQ (w : List Int) (v : Nat) : Rat := ((v * wt w v - tailW w (v + 1) : Int) : Rat) / (wt w v : Rat)
/-- The slope of the revenues between two values. -/
def slopeQ (w : List Int) (u h : Nat) : Rat := ((revW w u - revW w h : Int) : Rat) / ((tailW w u - tailW w h : Int) : Rat)

theorem revW_step (w : List Int) (v : Nat) : revW w v - revW w (v + 1) = v * wt w v - tailW w (v + 1) := by
  unfold revW
  rw [tailW_step w v]
  push_cast
  grind

theorem virtQ_mul {w : List Int} (h : validW w = true) {v : Nat} (hv : v < w.length) : (wt w v : Rat) * virtQ w v = ((revW w v - revW w (v + 1) : Int) : Rat) := by
  have h1 := validW_lo h hv
  have h2 : (wt w v : Rat) ≠ 0 := by have : (0 : Rat) < (wt w v : Rat) := Rat.intCast_pos.2 (by omega); grind
  unfold virtQ
  rw [Rat.mul_comm, Rat.div_mul_cancel h2, revW_step]

theorem slopeQ_mul {w : List Int} (h : validW w = true) {u v : Nat} (huv : u < v) (hv : v ≤ w.length) : ((tailW w u - tailW w v : Int) : Rat) * slopeQ w u v = ((revW w u - revW w v : Int) : Rat) := by
  have h1 := tailW_lt h huv hv
  have h2 : ((tailW w u - tailW w v : Int) : Rat) ≠ 0 := by have : (0 : Rat) < ((tailW w u - tailW w v : Int) : Rat) := Rat.intCast_pos.2 (by omega); grind
  unfold slopeQ
  rw [Rat.mul_comm, Rat.div_mul_cancel h2]

theorem slopeQ_one {w : List Int} (v : Nat) : slopeQ w v (v + 1) = virtQ w v := by
  unfold slopeQ virtQ
  rw [revW_step, show tailW w v - tailW w (v + 1) = wt w v by rw [tailW_step w v]; omega]

/-- From the k values below on: to where the slope from h is the greatest, the furthest one of several. -/
def steepTo (w : List Int) (h : Nat) : Nat → Nat × Rat → Nat × Rat
  | 0, s => s
  | u + 1, s => steepTo w h u (if slopeQ w u h < s.2 then s else (u, slopeQ w u h))

def steep (w : List Int) (h : Nat) : Nat × Rat := steepTo w h (h - 1) (h - 1, slopeQ w (h - 1) h)

theorem steepTo_is (w : List Int) (h : Nat) : ∀ (k : Nat) (s : Nat × Rat), k ≤ s.1 → s.1 < h → s.2 = slopeQ w s.1 h → (∀ u, k ≤ u → u < h → slopeQ w u h ≤ s.2) → (∀ u, k ≤ u → u < s.1 → slopeQ w u h < s.2) →
    (steepTo w h k s).1 < h ∧ (steepTo w h k s).2 = slopeQ w (steepTo w h k s).1 h ∧ (∀ u, u < h → slopeQ w u h ≤ (steepTo w h k s).2) ∧ (∀ u, u < (steepTo w h k s).1 → slopeQ w u h < (steepTo w h k s).2)
  | 0, s, hk, h1, h2, h3, h4 => ⟨h1, h2, fun u hu => h3 u (Nat.zero_le _) hu, fun u hu => h4 u (Nat.zero_le _) hu⟩
  | u + 1, s, hk, h1, h2, h3, h4 => by
    rw [steepTo]
    split
    · rename_i hlt
      refine steepTo_is w h u s (by omega) h1 h2 (fun x hx hx2 => ?_) (fun x hx hx2 => ?_)
      · rcases Nat.eq_or_lt_of_le hx with rfl | hx
        · exact Rat.le_of_lt hlt
        · exact h3 x hx hx2
      · rcases Nat.eq_or_lt_of_le hx with rfl | hx
        · exact hlt
        · exact h4 x hx hx2
    · rename_i hge
      have hge' := Rat.not_lt.1 hge
      refine steepTo_is w h u (u, slopeQ w u h) (Nat.le_refl _) (by simp; omega) rfl (fun x hx hx2 => ?_) (fun x hx hx2 => ?_)
      · rcases Nat.eq_or_lt_of_le hx with rfl | hx
        · exact Rat.le_refl
        · exact Rat.le_trans (h3 x hx hx2) hge'
      · simp at hx2; omega

theorem steep_is (w : List Int) {h : Nat} (hh : 1 ≤ h) :
    (steep w h).1 < h ∧ (steep w h).2 = slopeQ w (steep w h).1 h ∧ (∀ u, u < h → slopeQ w u h ≤ (steep w h).2) ∧ (∀ u, u < (steep w h).1 → slopeQ w u h < (steep w h).2) := by
  unfold steep
  refine steepTo_is w h (h - 1) _ (Nat.le_refl _) (by simp; omega) rfl (fun u h1 h2 => ?_) (fun u h1 h2 => ?_)
  · obtain rfl : u = h - 1 := by omega
    exact Rat.le_refl
  · simp at h2; omega

/-- The ironed values below h. -/
def ironL (w : List Int) : Nat → Nat → List Rat
  | 0, _ => []
  | f + 1, h => if h = 0 then [] else ironL w f (steep w h).1 ++ List.replicate (h - (steep w h).1) (steep w h).2
/-- Of which all their Downs are factors. -/
def ironD (w : List Int) : Nat → Nat → Int
  | 0, _ => 1
  | f + 1, h => if h = 0 then 1 else (tailW w (steep w h).1 - tailW w h) * ironD w f (steep w h).1
def ironed (w : List Int) : List Rat := ironL w w.length w.length
def ironAt (w : List Int) (v : Nat) : Rat := (ironed w).getD v 0

theorem ironL_fuel (w : List Int) : ∀ (f g h : Nat), h ≤ f → h ≤ g → ironL w f h = ironL w g h
  | 0, 0, _, _, _ => rfl
  | 0, g + 1, h, h1, _ => by obtain rfl : h = 0 := by omega
                             simp [ironL]
  | f + 1, 0, h, _, h1 => by obtain rfl : h = 0 := by omega
                             simp [ironL]
  | f + 1, g + 1, h, h1, h2 => by
    rw [ironL, ironL]
    split
    · rfl
    · have := (steep_is w (show 1 ≤ h by omega)).1
      rw [ironL_fuel w f g _ (by omega) (by omega)]

theorem ironL_len (w : List Int) : ∀ (f h : Nat), h ≤ f → (ironL w f h).length = h
  | 0, h, h1 => by obtain rfl : h = 0 := by omega
                   rfl
  | f + 1, h, h1 => by
    rw [ironL]
    split
    · simp; omega
    · have := (steep_is w (show 1 ≤ h by omega)).1
      rw [List.length_append, ironL_len w f _ (by omega), List.length_replicate]; omega

theorem ironed_len (w : List Int) : (ironed w).length = w.length := ironL_len w _ _ (Nat.le_refl _)

/-- The sum of f over 0..n-1. -/
def sumTo (n : Nat) (f : Nat → Rat) : Rat := match n with
  | 0 => 0
  | n + 1 => sumTo n f + f n
theorem sumTo_congr {n : Nat} {f g : Nat → Rat} (h : ∀ k, k < n → f k = g k) : sumTo n f = sumTo n g := by
  induction n with
  | zero => rfl
  | succ n ih => rw [sumTo, sumTo, ih (fun k hk => h k (by omega)), h n (by omega)]
theorem sumTo_le {n : Nat} {f g : Nat → Rat} (h : ∀ k, k < n → f k ≤ g k) : sumTo n f ≤ sumTo n g := by
  induction n with
  | zero => exact Rat.le_refl
  | succ n ih => rw [sumTo, sumTo]; have h1 := ih (fun k hk => h k (by omega)); have h2 := h n (by omega); grind
theorem sumTo_add {n : Nat} {f g : Nat → Rat} : sumTo n (fun k => f k + g k) = sumTo n f + sumTo n g := by
  induction n with
  | zero => simp [sumTo]; grind
  | succ n ih => rw [sumTo, sumTo, sumTo, ih]; grind
theorem sumTo_mul {n : Nat} {c : Rat} {f : Nat → Rat} : sumTo n (fun k => c * f k) = c * sumTo n f := by
  induction n with
  | zero => simp [sumTo]
  | succ n ih => rw [sumTo, sumTo, ih]; grind
theorem sumTo_zero {n : Nat} : sumTo n (fun _ => 0) = 0 := by
  induction n with
  | zero => rfl
  | succ n ih => rw [sumTo, ih]; grind
theorem sumTo_nn {n : Nat} {f : Nat → Rat} (h : ∀ k, k < n → 0 ≤ f k) : 0 ≤ sumTo n f := by
  have := sumTo_le (n := n) (f := fun _ => 0) (g := f) h
  rwa [sumTo_zero] at this

/-- The sum of what a telescope steps from t on. -/
theorem sumTo_tele (F : Nat → Rat) (t : Nat) : ∀ n, t ≤ n → sumTo n (fun x => if t ≤ x then F x - F (x + 1) else 0) = F t - F n := by
  intro n h
  induction n with
  | zero => obtain rfl : t = 0 := by omega
            simp [sumTo]; grind
  | succ n ih =>
    rw [sumTo]
    rcases Nat.lt_or_ge n t with h1 | h1
    · obtain rfl : t = n + 1 := by omega
      rw [if_neg (by omega), sumTo_congr (g := fun _ => 0) (fun k hk => if_neg (by omega)), sumTo_zero]; grind
    · rw [ih h1, if_pos h1]; grind
theorem sumTo_late {f : Nat → Rat} (t n : Nat) (h : n ≤ t) : sumTo n (fun x => if t ≤ x then f x else 0) = 0 := by
  rw [sumTo_congr (g := fun _ => 0) (fun k hk => if_neg (by omega)), sumTo_zero]

/-- Virtual values from t on bring in what the price t does. -/
theorem virt_tele {w : List Int} (h : validW w = true) (t : Nat) : sumTo w.length (fun x => if t ≤ x then (wt w x : Rat) * virtQ w x else 0) = (revW w t : Rat) := by
  rcases Nat.lt_or_ge w.length t with h1 | h1
  · rw [sumTo_late _ _ (by omega)]; unfold revW; rw [tailW_end _ _ (by omega)]; simp
  · rw [sumTo_congr (g := fun x => if t ≤ x then (revW w x : Rat) - (revW w (x + 1) : Rat) else 0) (fun k hk => by rw [virtQ_mul h hk, Rat.intCast_sub]), sumTo_tele _ _ _ h1]
    have : revW w w.length = 0 := by unfold revW; rw [tailW_end _ _ (by omega)]; simp
    rw [this]; grind
theorem wt_tele (w : List Int) (t : Nat) (c : Rat) : sumTo w.length (fun x => if t ≤ x then (wt w x : Rat) * c else 0) = (tailW w t : Rat) * c := by
  rcases Nat.lt_or_ge w.length t with h1 | h1
  · rw [sumTo_late _ _ (by omega), tailW_end _ _ (by omega)]; simp
  · rw [sumTo_congr (g := fun x => if t ≤ x then (tailW w x : Rat) * c - (tailW w (x + 1) : Rat) * c else 0) (fun k hk => by rw [tailW_step w k, Rat.intCast_add]; split <;> grind), sumTo_tele (fun x => (tailW w x : Rat) * c) _ _ h1]
    rw [tailW_end w w.length (by omega)]; grind
end Go.Proofs.Ytoipjhdnmiomeaa

/-
  Chapter 2, plain arithmetic: the ironed values rise, their curve lies above the revenues, and touches them where it bends.
-/
namespace Go.Proofs.Ytoipjhdnmiomeaa

/-- What the curve of the slopes L has gained from t up to n. -/
def gainL (w : List Int) (L : List Rat) (n t : Nat) : Rat := sumTo n (fun x => if t ≤ x then (wt w x : Rat) * L.getD x 0 else 0)

theorem gainL_app {w : List Int} {L : List Rat} {s : Rat} {a h : Nat} (hL : L.length = a) (hah : a ≤ h) (t : Nat) (ht : t ≤ h) :
    gainL w (L ++ List.replicate (h - a) s) h t = (if t ≤ a then gainL w L a t else 0) + ((tailW w (max t a) : Rat) - (tailW w h : Rat)) * s := by
  unfold gainL
  subst hL
  generalize hd : h - L.length = d
  obtain rfl : h = L.length + d := by omega
  clear hah hd
  induction d with
  | zero =>
    simp only [Nat.add_zero, List.replicate_zero, List.append_nil] at ht ⊢
    rw [if_pos ht, Nat.max_eq_right ht]; grind
  | succ d ih =>
    rw [← Nat.add_assoc, sumTo]
    have e : (L ++ List.replicate (d + 1) s).getD (L.length + d) 0 = s := by simp [List.getD]
    have c : sumTo (L.length + d) (fun x => if t ≤ x then (wt w x : Rat) * (L ++ List.replicate (d + 1) s).getD x 0 else 0) = sumTo (L.length + d) (fun x => if t ≤ x then (wt w x : Rat) * (L ++ List.replicate d s).getD x 0 else 0) := by
      refine sumTo_congr fun k hk => ?_
      congr 2
      simp only [List.getD, List.getElem?_append, List.getElem?_replicate]
      split
      · rfl
      · rw [if_pos (by omega), if_pos (by omega)]
    rw [c, e]
    have st : (tailW w (L.length + d) : Rat) = (wt w (L.length + d) : Rat) + (tailW w (L.length + d + 1) : Rat) := by rw [tailW_step w (L.length + d), Rat.intCast_add]
    rcases Nat.lt_or_ge (L.length + d) t with h1 | h1
    · obtain rfl : t = L.length + d + 1 := by omega
      rw [if_neg (by omega), sumTo_late _ _ (by omega), if_neg (by omega), Nat.max_eq_left (by omega)]; grind
    · rw [ih (by omega), if_pos h1, Nat.add_assoc]
      rw [← Nat.add_assoc]
      grind

theorem ironL_at {w : List Int} {f h : Nat} (h1 : 1 ≤ h) : ironL w (f + 1) h = ironL w f (steep w h).1 ++ List.replicate (h - (steep w h).1) (steep w h).2 := by
  rw [ironL, if_neg (by omega)]

theorem mul_gap {w : List Int} (hw : validW w = true) {u v : Nat} (huv : u < v) (hv : v ≤ w.length) : (0 : Rat) < (tailW w u : Rat) - (tailW w v : Rat) := by
  have := tailW_lt hw huv hv
  rw [← Rat.intCast_sub]
  exact Rat.intCast_pos.2 (by omega)
theorem slope_eq {w : List Int} (hw : validW w = true) {u v : Nat} (huv : u < v) (hv : v ≤ w.length) : ((tailW w u : Rat) - (tailW w v : Rat)) * slopeQ w u v = (revW w u : Rat) - (revW w v : Rat) := by
  have := slopeQ_mul hw huv hv
  rwa [Rat.intCast_sub, Rat.intCast_sub] at this

/-- Two segments, one behind the other: the slope falls. -/
theorem steep_falls {w : List Int} (hw : validW w = true) {h : Nat} (h1 : 1 ≤ h) (hl : h ≤ w.length) (ha : 1 ≤ (steep w h).1) : (steep w (steep w h).1).2 < (steep w h).2 := by
  obtain ⟨a1, a2, a3, a4⟩ := steep_is w h1
  obtain ⟨b1, b2, b3, b4⟩ := steep_is w ha
  generalize steep w (steep w h).1 = s' at *
  generalize steep w h = s at *
  have k1 := a4 _ b1
  have e1 := slope_eq hw (show s'.1 < h by omega) hl
  have e2 := slope_eq hw a1 hl
  have e3 := slope_eq hw b1 (by omega)
  have g1 := mul_gap hw (show s'.1 < h by omega) hl
  have g3 := mul_gap hw b1 (by omega)
  rw [← a2] at e2
  rw [← b2] at e3
  have m := Rat.mul_lt_mul_of_pos_left k1 g1
  rw [e1] at m
  have m2 : ((tailW w s'.1 : Rat) - (tailW w s.1 : Rat)) * s'.2 < ((tailW w s'.1 : Rat) - (tailW w s.1 : Rat)) * s.2 := by grind
  exact Rat.lt_of_mul_lt_mul_left m2 (Rat.le_of_lt g3)

theorem ironL_top {w : List Int} {f h : Nat} (h1 : 1 ≤ h) (hf : h ≤ f) : (ironL w f h).getD (h - 1) 0 = (steep w h).2 := by
  obtain ⟨f, rfl⟩ : ∃ g, f = g + 1 := ⟨f - 1, by omega⟩
  obtain ⟨a1, _⟩ := steep_is w h1
  rw [ironL_at h1]
  have := ironL_len w f (steep w h).1 (by omega)
  simp only [List.getD, List.getElem?_append, List.getElem?_replicate, this]
  rw [if_neg (by omega), if_pos (by omega)]; rfl

/-- The ironed values rise. -/
theorem ironL_rise {w : List Int} (hw : validW w = true) : ∀ (f h : Nat), h ≤ f → h ≤ w.length → ∀ v, v + 1 < h → (ironL w f h).getD v 0 ≤ (ironL w f h).getD (v + 1) 0
  | 0, h, h1, _, v, hv => by omega
  | f + 1, h, h1, hl, v, hv => by
    obtain ⟨a1, _⟩ := steep_is w (show 1 ≤ h by omega)
    have hlen := ironL_len w f (steep w h).1 (by omega)
    rw [ironL_at (by omega)]
    simp only [List.getD, List.getElem?_append, List.getElem?_replicate, hlen]
    by_cases c1 : v + 1 < (steep w h).1
    · rw [if_pos (by omega), if_pos c1]
      exact ironL_rise hw f _ (by omega) (by omega) v c1
    · have g1 : v + 1 - (steep w h).1 < h - (steep w h).1 := by omega
      rw [if_neg c1, if_pos g1]
      by_cases c2 : v < (steep w h).1
      · rw [if_pos c2]
        have := ironL_top (w := w) (f := f) (h := (steep w h).1) (by omega) (by omega)
        simp only [List.getD] at this
        rw [show v = (steep w h).1 - 1 by omega, this]
        exact Rat.le_of_lt (steep_falls hw (by omega) hl (by omega))
      · rw [if_neg c2, if_pos (show v - (steep w h).1 < h - (steep w h).1 by omega)]
        exact Rat.le_refl

/-- The curve lies above the revenues, and touches them where it bends. -/
theorem ironL_hull {w : List Int} (hw : validW w = true) : ∀ (f h : Nat), h ≤ f → h ≤ w.length → ∀ t, t ≤ h →
    (revW w t : Rat) - (revW w h : Rat) ≤ gainL w (ironL w f h) h t ∧
    ((t = 0 ∨ t = h ∨ (ironL w f h).getD (t - 1) 0 ≠ (ironL w f h).getD t 0) → gainL w (ironL w f h) h t = (revW w t : Rat) - (revW w h : Rat))
  | 0, h, h1, _, t, ht => by
    obtain rfl : h = 0 := by omega
    obtain rfl : t = 0 := by omega
    have : gainL w (ironL w 0 0) 0 0 = 0 := rfl
    rw [this]
    refine ⟨by grind, fun _ => by grind⟩
  | f + 1, h, h1, hl, t, ht => by
    rcases Nat.eq_zero_or_pos h with rfl | hp
    · obtain rfl : t = 0 := by omega
      have : gainL w (ironL w (f + 1) 0) 0 0 = 0 := rfl
      rw [this]
      refine ⟨by grind, fun _ => by grind⟩
    · obtain ⟨a1, a2, a3, a4⟩ := steep_is w hp
      have hlen := ironL_len w f (steep w h).1 (by omega)
      have e2 := slope_eq hw a1 hl
      rw [← a2] at e2
      rw [ironL_at hp, gainL_app hlen (by omega) t ht]
      by_cases c : t ≤ (steep w h).1
      · obtain ⟨i1, i2⟩ := ironL_hull hw f _ (show (steep w h).1 ≤ f by omega) (by omega) t c
        rw [if_pos c, Nat.max_eq_right c]
        refine ⟨by grind, fun hv => ?_⟩
        have := i2 (by
          rcases hv with hv | hv | hv
          · exact .inl hv
          · omega
          · by_cases c3 : t = (steep w h).1
            · exact .inr (.inl c3)
            · by_cases c4 : t = 0
              · exact .inl c4
              · refine .inr (.inr ?_)
                simp only [List.getD, List.getElem?_append, List.getElem?_replicate, hlen] at hv ⊢
                rw [if_pos (show t - 1 < (steep w h).1 by omega), if_pos (show t < (steep w h).1 by omega)] at hv
                exact hv)
        grind
      · rw [if_neg c, Nat.max_eq_left (by omega)]
        rcases Nat.eq_or_lt_of_le ht with rfl | hlt
        · refine ⟨by grind, fun _ => by grind⟩
        · have k1 := a3 t hlt
          have e1 := slope_eq hw hlt hl
          have g1 := mul_gap hw hlt hl
          have m := Rat.mul_le_mul_of_nonneg_left k1 (Rat.le_of_lt g1)
          rw [e1] at m
          refine ⟨by grind, fun hv => ?_⟩
          exfalso
          rcases hv with hv | hv | hv
          · omega
          · omega
          · apply hv
            simp only [List.getD, List.getElem?_append, List.getElem?_replicate, hlen]
            rw [if_neg (show ¬ t - 1 < (steep w h).1 by omega), if_neg (show ¬ t < (steep w h).1 by omega), if_pos (show t - 1 - (steep w h).1 < h - (steep w h).1 by omega), if_pos (show t - (steep w h).1 < h - (steep w h).1 by omega)]

theorem revW_end (w : List Int) : revW w w.length = 0 := by unfold revW; rw [tailW_end _ _ (by omega)]; simp

/-- What the ironed values from t on bring in. -/
def hullW (w : List Int) (t : Nat) : Rat := sumTo w.length (fun x => if t ≤ x then (wt w x : Rat) * ironAt w x else 0)

theorem iron_rise {w : List Int} (hw : validW w = true) {v : Nat} (hv : v + 1 < w.length) : ironAt w v ≤ ironAt w (v + 1) := ironL_rise hw _ _ (Nat.le_refl _) (Nat.le_refl _) v hv
theorem iron_mono {w : List Int} (hw : validW w = true) {u v : Nat} (huv : u ≤ v) (hv : v < w.length) : ironAt w u ≤ ironAt w v := by
  induction v with
  | zero => obtain rfl : u = 0 := by omega
            exact Rat.le_refl
  | succ v ih =>
    rcases Nat.eq_or_lt_of_le huv with rfl | h1
    · exact Rat.le_refl
    · exact Rat.le_trans (ih (by omega) (by omega)) (iron_rise hw hv)
theorem hull_ge {w : List Int} (hw : validW w = true) (t : Nat) : (revW w t : Rat) ≤ hullW w t := by
  rcases Nat.lt_or_ge w.length t with h1 | h1
  · unfold hullW; rw [sumTo_late _ _ (by omega)]; unfold revW; rw [tailW_end _ _ (by omega)]; simp
  · have := (ironL_hull hw w.length w.length (Nat.le_refl _) (Nat.le_refl _) t h1).1
    rw [revW_end] at this
    unfold hullW ironAt ironed
    unfold gainL at this
    grind
theorem hull_bend {w : List Int} (hw : validW w = true) {t : Nat} (ht : t < w.length) (hb : t = 0 ∨ ironAt w (t - 1) ≠ ironAt w t) : hullW w t = (revW w t : Rat) := by
  have := (ironL_hull hw w.length w.length (Nat.le_refl _) (Nat.le_refl _) t (by omega)).2 (hb.imp_right .inr)
  rw [revW_end] at this
  unfold hullW ironAt ironed
  unfold gainL at this
  grind
theorem iron_top {w : List Int} (hw : validW w = true) : 0 ≤ ironAt w (w.length - 1) := by
  have h1 := validW_len1 hw
  have h2 := validW_lo hw (show w.length - 1 < w.length by omega)
  unfold ironAt ironed
  rw [ironL_top h1 (Nat.le_refl _)]
  obtain ⟨_, _, a3, _⟩ := steep_is w h1
  refine Rat.le_trans ?_ (a3 (w.length - 1) (by omega))
  have e := slope_eq hw (show w.length - 1 < w.length by omega) (Nat.le_refl _)
  have g := mul_gap hw (show w.length - 1 < w.length by omega) (Nat.le_refl _)
  rw [revW_end] at e
  have r : (0 : Rat) ≤ (revW w (w.length - 1) : Rat) := Rat.intCast_nonneg.2 (Int.mul_nonneg (by omega) (tailW_nn hw _))
  refine Rat.le_of_mul_le_mul_left (c := (tailW w (w.length - 1) : Rat) - (tailW w w.length : Rat)) ?_ g
  rw [e]
  grind

/-- The least value of which the ironed one is not below 0, from k on. -/
def leastIron (w : List Int) : Nat → Nat → Nat
  | 0, k => k
  | n + 1, k => if ironAt w k < 0 then leastIron w n (k + 1) else k
theorem leastIron_is {w : List Int} (hw : validW w = true) : ∀ (n k : Nat), k + n + 1 = w.length → (∀ u, u < k → ironAt w u < 0) → leastIron w n k < w.length ∧ 0 ≤ ironAt w (leastIron w n k) ∧ ∀ u, u < leastIron w n k → ironAt w u < 0
  | 0, k, hk, hu => ⟨by rw [leastIron]; omega, by rw [leastIron, show k = w.length - 1 by omega]; exact iron_top hw, hu⟩
  | n + 1, k, hk, hu => by
    rw [leastIron]
    split
    · rename_i hlt
      refine leastIron_is hw n (k + 1) (by omega) fun u h1 => ?_
      rcases Nat.eq_or_lt_of_le (show u ≤ k by omega) with rfl | h2
      · exact hlt
      · exact hu u h2
    · rename_i hge
      exact ⟨by omega, Rat.not_lt.1 hge, hu⟩

/-- It brings in most, and is the least that does. -/
theorem least_best {w : List Int} (hw : validW w = true) {p : Nat} (hp : p < w.length) (h0 : 0 ≤ ironAt w p) (hl : ∀ u, u < p → ironAt w u < 0) :
    hullW w p = (revW w p : Rat) ∧ (∀ u, revW w u ≤ revW w p) ∧ ∀ u, u < p → revW w u < revW w p := by
  have hb : hullW w p = (revW w p : Rat) := by
    refine hull_bend hw hp ?_
    by_cases c : p = 0
    · exact .inl c
    · have := hl (p - 1) (by omega)
      exact .inr (by grind)
  have step : ∀ u, hullW w u = (if u < w.length then (wt w u : Rat) * ironAt w u else 0) + hullW w (u + 1) := by
    intro u
    unfold hullW
    generalize w.length = n
    induction n with
    | zero => simp [sumTo]; grind
    | succ n ih =>
      rw [sumTo, sumTo, ih]
      rcases Nat.lt_trichotomy u n with h | h | h
      · rw [if_pos h, if_pos (by omega), if_pos (by omega), if_pos (by omega)]; grind
      · subst h
        rw [if_neg (by omega), if_pos (Nat.le_refl _), if_pos (by omega), if_neg (by omega), sumTo_late _ _ (by omega)]; grind
      · rw [if_neg (by omega), if_neg (by omega), if_neg (by omega), if_neg (by omega)]; grind
  have up : ∀ d, hullW w (p + d) ≤ hullW w p := by
    intro d
    induction d with
    | zero => exact Rat.le_refl
    | succ d ih =>
      refine Rat.le_trans ?_ ih
      rw [step (p + d), Nat.add_assoc]
      split
      · rename_i hh
        have := iron_mono hw (show p ≤ p + d by omega) hh
        have h2 := Rat.mul_nonneg (Rat.intCast_nonneg.2 (validW_nn hw (p + d))) (Rat.le_trans h0 this)
        grind
      · grind
  have down : ∀ d, d ≤ p → hullW w (p - d) ≤ hullW w p ∧ (1 ≤ d → hullW w (p - d) < hullW w p) := by
    intro d
    induction d with
    | zero => exact fun _ => ⟨Rat.le_refl, fun h => by omega⟩
    | succ d ih =>
      intro hd
      have h1 := (ih (by omega)).1
      rw [step (p - (d + 1)), if_pos (by omega), show p - (d + 1) + 1 = p - d by omega]
      have h2 := hl (p - (d + 1)) (by omega)
      have h3 : (0 : Rat) < (wt w (p - (d + 1)) : Rat) := Rat.intCast_pos.2 (by have := validW_lo hw (show p - (d + 1) < w.length by omega); omega)
      have h4 := (Rat.mul_neg_iff_of_pos_left h3).2 h2
      exact ⟨by grind, fun _ => by grind⟩
  refine ⟨hb, fun u => ?_, fun u hu => ?_⟩
  · rw [← Rat.intCast_le_intCast]
    refine Rat.le_trans (hull_ge hw u) ?_
    rw [← hb]
    rcases Nat.lt_or_ge u p with h | h
    · have := (down (p - u) (by omega)).1
      rwa [show p - (p - u) = u by omega] at this
    · have := up (u - p)
      rwa [show p + (u - p) = u by omega] at this
  · rw [← Rat.intCast_lt_intCast]
    have := (down (p - u) (by omega)).2 (by omega)
    rw [show p - (p - u) = u by omega] at this
    have h2 := hull_ge hw u
    rw [← hb]
    grind

/-- Weights are regular where their virtual values rise. -/
def regW (w : List Int) : Prop := ∀ v, v + 1 < w.length → virtQ w v ≤ virtQ w (v + 1)
theorem reg_mono {w : List Int} (hr : regW w) {u v : Nat} (huv : u ≤ v) (hv : v < w.length) : virtQ w u ≤ virtQ w v := by
  induction v with
  | zero => obtain rfl : u = 0 := by omega
            exact Rat.le_refl
  | succ v ih =>
    rcases Nat.eq_or_lt_of_le huv with rfl | h1
    · exact Rat.le_refl
    · exact Rat.le_trans (ih (by omega) (by omega)) (hr v hv)

/-- Slopes are means of virtual values. -/
theorem slope_mean {w : List Int} (hw : validW w = true) {h c : Nat} (hl : h ≤ w.length) (q : Rat) (hc : ∀ x, c ≤ x → x < h → virtQ w x ≤ q) : ∀ d, c + d = h →
    (revW w c : Rat) - (revW w h : Rat) ≤ ((tailW w c : Rat) - (tailW w h : Rat)) * q ∧ ((revW w c : Rat) - (revW w h : Rat) = ((tailW w c : Rat) - (tailW w h : Rat)) * q → ∀ x, c ≤ x → x < h → virtQ w x = q) := by
  intro d
  induction d generalizing c with
  | zero => intro h1; obtain rfl : c = h := by omega
            exact ⟨by grind, fun _ x _ _ => by omega⟩
  | succ d ih =>
    intro h1
    obtain ⟨i1, i2⟩ := ih (c := c + 1) (fun x h1 h2 => hc x (by omega) h2) (by omega)
    have e := virtQ_mul hw (show c < w.length by omega)
    rw [Rat.intCast_sub] at e
    have st : (tailW w c : Rat) = (wt w c : Rat) + (tailW w (c + 1) : Rat) := by rw [tailW_step w c, Rat.intCast_add]
    have h3 : (0 : Rat) < (wt w c : Rat) := Rat.intCast_pos.2 (by have := validW_lo hw (show c < w.length by omega); omega)
    have k := hc c (Nat.le_refl _) (by omega)
    have m := Rat.mul_le_mul_of_nonneg_left k (Rat.le_of_lt h3)
    refine ⟨by clear ih i2 hc; rw [st]; grind, fun he x hx1 hx2 => ?_⟩
    have e3 : (wt w c : Rat) * virtQ w c = (wt w c : Rat) * q := by clear ih i2 hc; rw [st] at he; grind
    rcases Nat.eq_or_lt_of_le hx1 with rfl | hx1
    · refine Rat.le_antisymm k (Rat.le_of_mul_le_mul_left (c := (wt w c : Rat)) ?_ h3)
      rw [e3]; exact Rat.le_refl
    · exact i2 (by clear ih i2 hc; rw [st] at he; grind) x hx1 hx2

/-- Regular weights are their own irons. -/
theorem ironL_reg {w : List Int} (hw : validW w = true) (hr : regW w) : ∀ (f h : Nat), h ≤ f → h ≤ w.length → ∀ v, v < h → (ironL w f h).getD v 0 = virtQ w v
  | 0, h, h1, _, v, hv => by omega
  | f + 1, h, h1, hl, v, hv => by
    obtain ⟨a1, a2, a3, _⟩ := steep_is w (show 1 ≤ h by omega)
    have hlen := ironL_len w f (steep w h).1 (by omega)
    have k1 := a3 (h - 1) (by omega)
    have e1 := slopeQ_one (w := w) (h - 1)
    rw [show h - 1 + 1 = h by omega] at e1
    rw [e1] at k1
    have e2 := slope_eq hw a1 hl
    rw [← a2] at e2
    have g := mul_gap hw a1 hl
    obtain ⟨m1, m2⟩ := slope_mean hw hl (c := (steep w h).1) (virtQ w (h - 1)) (fun x _ hx => reg_mono hr (by omega) (by omega)) (h - (steep w h).1) (by omega)
    have e4 : (steep w h).2 = virtQ w (h - 1) := by
      refine Rat.le_antisymm (Rat.le_of_mul_le_mul_left (c := (tailW w (steep w h).1 : Rat) - (tailW w h : Rat)) ?_ g) k1
      rw [e2]; exact m1
    rw [ironL_at (by omega)]
    simp only [List.getD, List.getElem?_append, List.getElem?_replicate, hlen]
    by_cases c : v < (steep w h).1
    · rw [if_pos c]
      exact ironL_reg hw hr f _ (by omega) (by omega) v c
    · rw [if_neg c, if_pos (by omega)]
      simp only [Option.getD_some]
      rw [e4]
      exact (m2 (by rw [← e2, e4]) v (by omega) hv).symm
theorem iron_reg {w : List Int} (hw : validW w = true) (hr : regW w) {v : Nat} (hv : v < w.length) : ironAt w v = virtQ w v := ironL_reg hw hr _ _ (Nat.le_refl _) (Nat.le_refl _) v hv
end Go.Proofs.Ytoipjhdnmiomeaa

/-
  Chapter 2: the contracts of ValidWeights, of the program and of the model, of sums of numbers, and of tails.
-/
namespace Go.Proofs.Ytoipjhdnmiomeaa
open Go.RowKit

/-- Numbers are weights. -/
def vW (xs : List Int) : Bool := inR xs.length 1 6 && xs.all (fun x => inR x 1 6)
theorem vW_bad {xs : List Int} (h : xs.all (fun x => inR x 1 6) = false) : vW xs = false := by simp only [vW, h, Bool.and_false]
theorem vW_all {xs : List Int} (h : (xs.take xs.length).all (fun x => inR x 1 6) = true) : vW xs = inR xs.length 1 6 := by
  rw [List.take_length] at h; simp only [vW, h, Bool.and_true]
theorem vW_len {xs : List Int} (h : inR xs.length 1 6 = false) : vW xs = false := by simp only [vW, h, Bool.false_and]
theorem vW_valid {xs : List Int} (h : vW xs = true) : validW xs = true := by
  simp only [vW, Bool.and_eq_true, inR_true, List.all_eq_true] at h
  simp only [validW, Bool.and_eq_true, decide_eq_true_eq, List.all_eq_true]
  exact ⟨⟨by omega, by omega⟩, h.2⟩
theorem vW_mem {xs : List Int} (h : vW xs = true) : ∀ x ∈ xs, 1 ≤ x ∧ x ≤ 6 := validW_mem (vW_valid h)
theorem vW_le {xs : List Int} (h : vW xs = true) : 1 ≤ xs.length ∧ xs.length ≤ 6 := ⟨validW_len1 (vW_valid h), validW_len (vW_valid h)⟩

set_option maxHeartbeats 400000 in
theorem validWeights_any (A : Option Addr) (c : Nat) (xs : List Int) (w : World) (h : Rd w A c xs) (hl : xs.length ≤ 1099511627776) :
    Calls Try.prog 51 #[.slice A xs.length c] w fun e w' => e = .returned (.bool (vW xs)) ∧ w = w' := by
  go_enter Try.func51, Try.ntmps51
  go_wp2
  go_loop [3] (fun i => ∃ k : Nat, k ≤ xs.length ∧ i = .int .i64 k ∧ Hid ((xs.take k).all (fun x => inR x 1 6) = true)) (fun i => xs.length - (intOf i).toNat)
  case atStart => exact ⟨0, Nat.zero_le _, rfl, Lib.hid rfl⟩
  case round =>
    obtain ⟨k, hk, rfl, HT⟩ := hrel
    by_cases hlt : k < xs.length
    · obtain ⟨b, off, x, rfl, _, hx, hc⟩ := h.at_ hlt
      go_wp2_with fail
      refine (inRange_any _ _ _ _).mono ?_
      rintro e w' ⟨rfl, rfl⟩
      cases hb : inR x 1 6 with
      | true =>
        have HT' := Lib.hid (all_step hx.out hb HT.out)
        clear hb
        go_wp2
        go_round
        case rel => exact ⟨k + 1, by omega, by go_num, HT'⟩
        case measure => simp [intOf]; omega
      | false =>
        have HE := Lib.hid (vW_bad (all_at (p := fun x => inR x 1 6) hx.out hb))
        clear hb
        go_wp2
        go_ret
        exact ⟨by rw [HE.out]; rfl, rfl⟩
    · obtain rfl : k = xs.length := by omega
      have HE := Lib.hid (vW_all HT.out)
      go_wp2_with (refine (inRange_any _ _ _ _).mono ?_; rintro e w' ⟨rfl, rfl⟩)
      go_ret
      exact ⟨by rw [HE.out]; rfl, rfl⟩

theorem SValidWeights_any (A : Option Addr) (c : Nat) (xs : List Int) (w : World) (h : Rd w A c xs) (hl : xs.length ≤ 1099511627776) :
    Calls Try.prog 42 #[.slice A xs.length c] w fun e w' => e = .returned (.bool (vW xs)) ∧ w = w' := by
  go_enter Try.func42, Try.ntmps42
  go_wp2_with (refine (validWeights_any _ _ _ _ h hl).mono ?_; rintro e w' ⟨rfl, rfl⟩)
  go_ret
  exact ⟨rfl, rfl⟩

set_option maxHeartbeats 400000 in
theorem ValidWeights_any (A : Option Addr) (c : Nat) (xs : List Int) (w : World) (h : Rd w A c xs) (hl : xs.length ≤ 1099511627776) :
    Calls Try.prog 44 #[.slice A xs.length c] w fun e w' => e = .returned (.bool (vW xs)) ∧ w = w' := by
  by_cases h1 : 1 ≤ xs.length
  · by_cases h2 : xs.length ≤ 6
    · have HR := Lib.hid (inR_true (n := (xs.length : Int)) (lo := 1) (hi := 6) |>.2 ⟨by omega, by omega⟩)
      go_enter Try.func44, Try.ntmps44
      go_wp2
      go_loop [15] (fun i => ∃ k : Nat, k ≤ xs.length ∧ i = .int .i64 k ∧ Hid ((xs.take k).all (fun x => inR x 1 6) = true)) (fun i => xs.length - (intOf i).toNat)
      case atStart => exact ⟨0, Nat.zero_le _, rfl, Lib.hid rfl⟩
      case round =>
        obtain ⟨k, hk, rfl, HT⟩ := hrel
        by_cases hlt : k < xs.length
        · obtain ⟨b, off, x, rfl, _, hx, hc⟩ := h.at_ hlt
          by_cases hx1 : 1 ≤ x
          · by_cases hx6 : x ≤ 6
            · have HT' := Lib.hid (all_step (p := fun x => inR x 1 6) hx.out (inR_true.2 ⟨hx1, hx6⟩) HT.out)
              go_wp2
              go_round
              case rel => exact ⟨k + 1, by omega, by go_num, HT'⟩
              case measure => simp [intOf]; omega
            · have HE := Lib.hid (vW_bad (all_at (p := fun x => inR x 1 6) hx.out (inR_false.2 (by omega))))
              go_wp2
              go_ret
              exact ⟨by rw [HE.out]; rfl, rfl⟩
          · have HE := Lib.hid (vW_bad (all_at (p := fun x => inR x 1 6) hx.out (inR_false.2 (by omega))))
            go_wp2
            go_ret
            exact ⟨by rw [HE.out]; rfl, rfl⟩
        · obtain rfl : k = xs.length := by omega
          have HE := Lib.hid (vW_all HT.out)
          go_wp2
          go_ret
          exact ⟨by rw [HE.out, HR.out]; rfl, rfl⟩
    · have HE := Lib.hid (vW_len (inR_false (n := (xs.length : Int)) (lo := 1) (hi := 6) |>.2 (by omega)))
      go_enter Try.func44, Try.ntmps44
      go_wp2
      go_ret
      exact ⟨by rw [HE.out]; rfl, rfl⟩
  · have HE := Lib.hid (vW_len (inR_false (n := (xs.length : Int)) (lo := 1) (hi := 6) |>.2 (by omega)))
    go_enter Try.func44, Try.ntmps44
    go_wp2
    go_ret
    exact ⟨by rw [HE.out]; rfl, rfl⟩

theorem isEdge_any (n : Int) (w : World) :
    Calls Try.prog 49 #[.int .i64 n] w fun e w' => e = .returned (.bool (inR n 0 6)) ∧ w = w' := by
  by_cases h1 : 0 ≤ n
  · by_cases h2 : n ≤ 6
    · have HE := Lib.hid (inR_true.2 ⟨h1, h2⟩)
      go_enter Try.func49, Try.ntmps49
      go_wp2
      go_ret
      exact ⟨by rw [HE.out]; rfl, rfl⟩
    · have HE := Lib.hid (inR_false.2 (fun h : 0 ≤ n ∧ n ≤ 6 => h2 h.2))
      go_enter Try.func49, Try.ntmps49
      go_wp2
      go_ret
      exact ⟨by rw [HE.out]; rfl, rfl⟩
  · have HE := Lib.hid (inR_false.2 (fun h : 0 ≤ n ∧ n ≤ 6 => h1 h.1))
    go_enter Try.func49, Try.ntmps49
    go_wp2
    go_ret
    exact ⟨by rw [HE.out]; rfl, rfl⟩

theorem isFew_any (n : Int) (w : World) :
    Calls Try.prog 60 #[.int .i64 n] w fun e w' => e = .returned (.bool (inR n 1 3)) ∧ w = w' := by
  by_cases h1 : 1 ≤ n
  · by_cases h2 : n ≤ 3
    · have HE := Lib.hid (inR_true.2 ⟨h1, h2⟩)
      go_enter Try.func60, Try.ntmps60
      go_wp2
      go_ret
      exact ⟨by rw [HE.out]; rfl, rfl⟩
    · have HE := Lib.hid (inR_false.2 (fun h : 1 ≤ n ∧ n ≤ 3 => h2 h.2))
      go_enter Try.func60, Try.ntmps60
      go_wp2
      go_ret
      exact ⟨by rw [HE.out]; rfl, rfl⟩
  · have HE := Lib.hid (inR_false.2 (fun h : 1 ≤ n ∧ n ≤ 3 => h1 h.1))
    go_enter Try.func60, Try.ntmps60
    go_wp2
    go_ret
    exact ⟨by rw [HE.out]; rfl, rfl⟩

theorem plusI_any (a b : Int) (w : World) (ha0 : -4611686018427387904 ≤ a) (ha1 : a ≤ 4611686018427387903) (hb0 : -4611686018427387904 ≤ b) (hb1 : b ≤ 4611686018427387903) :
    Calls Try.prog 66 #[.int .i64 a, .int .i64 b] w fun e w' => e = .returned (.int .i64 (a + b)) ∧ w = w' := by
  go_enter Try.func66, Try.ntmps66
  go_wp2
  go_ret
  exact ⟨rfl, rfl⟩

/-- Numbers none of which is beyond 2 to 31. -/
def Small2 (xs : List Int) : Prop := ∀ x ∈ xs, -2147483648 ≤ x ∧ x ≤ 2147483647
theorem small_sum {xs : List Int} (h : Small2 xs) (k : Nat) : -2147483648 * (k : Int) ≤ (xs.take k).sum ∧ (xs.take k).sum ≤ 2147483647 * (k : Int) := by
  induction k with
  | zero => simp
  | succ k ih =>
    rw [List.take_add_one, List.sum_append]
    cases hx : xs[k]? with
    | none => simp; omega
    | some x => have := h x (List.mem_of_getElem? hx); simp; omega
theorem sum_step {xs : List Int} {k : Nat} {x : Int} (hx : xs[k]? = some x) : (xs.take (k + 1)).sum = (xs.take k).sum + x := by
  rw [List.take_add_one, hx]; simp

set_option maxHeartbeats 400000 in
theorem sumInts_any (A : Option Addr) (c : Nat) (xs : List Int) (w : World) (h : Rd w A c xs) (hl : xs.length ≤ 1048576) (hs : Small2 xs) :
    Calls Try.prog 65 #[.func (.func 66) #[] #[], .int .i64 0, .slice A xs.length c] w fun e w' => e = .returned (.int .i64 xs.sum) ∧ w = w' := by
  go_enter Try.func65, Try.ntmps65
  go_wp2
  go_loop [7, 13] (fun s i => ∃ k : Nat, k ≤ xs.length ∧ i = .int .i64 k ∧ ∃ t, s = .int .i64 t ∧ Hid (t = (xs.take k).sum)) (fun _ i => xs.length - (intOf i).toNat)
  case atStart => exact ⟨0, Nat.zero_le _, rfl, 0, rfl, Lib.hid (by simp)⟩
  case round =>
    obtain ⟨k, hk, rfl, t, rfl, HT⟩ := hrel
    by_cases hlt : k < xs.length
    · obtain ⟨b, off, x, rfl, _, hx, hc⟩ := h.at_ hlt
      have b1 := hs x (List.mem_of_getElem? hx.out)
      have b2 := small_sum hs k
      rw [← HT.out] at b2
      have HT' := Lib.hid (sum_step hx.out)
      rw [← HT.out] at HT'
      go_wp2_with fail
      refine (plusI_any _ _ _ (by omega) (by omega) (by omega) (by omega)).mono ?_
      rintro e w' ⟨rfl, rfl⟩
      go_wp2
      go_round
      case rel => exact ⟨k + 1, by omega, by go_num, _, rfl, Lib.hid HT'.out.symm⟩
      case measure => simp [intOf]; omega
    · obtain rfl : k = xs.length := by omega
      have HE := Lib.hid (show t = xs.sum by rw [HT.out, List.take_length])
      go_wp2
      go_ret
      exact ⟨by rw [HE.out]; rfl, rfl⟩

theorem tail_step {xs : List Int} {k : Nat} {x : Int} (hx : xs[k]? = some x) : tailW xs k = x + tailW xs (k + 1) := by
  rw [tailW_step]; unfold wt; rw [List.getD_eq_getElem?_getD, hx]; rfl
theorem tail_small {xs : List Int} (hs : Small2 xs) (k : Nat) : -2147483648 * ((xs.length - k : Nat) : Int) ≤ tailW xs k ∧ tailW xs k ≤ 2147483647 * ((xs.length - k : Nat) : Int) := by
  have := small_sum (xs := xs.drop k) (fun x hx => hs x (List.mem_of_mem_drop hx)) (xs.length - k)
  rw [List.take_of_length_le (by simp)] at this
  exact this

set_option maxHeartbeats 400000 in
theorem tail_any (A : Option Addr) (c : Nat) (xs : List Int) (v : Nat) (w : World) (h : Rd w A c xs) (hl : xs.length ≤ 1048576) (hv : v ≤ 1048576) (hs : Small2 xs) :
    Calls Try.prog 53 #[.slice A xs.length c, .int .i64 v] w fun e w' => e = .returned (.int .i64 (tailW xs v)) ∧ w = w' := by
  go_enter Try.func53, Try.ntmps53
  go_wp2
  go_loop [5, 6] (fun s i => ∃ k : Nat, v ≤ k ∧ k ≤ max v xs.length ∧ i = .int .i64 k ∧ ∃ t, s = .int .i64 t ∧ Hid (t + tailW xs k = tailW xs v)) (fun _ i => xs.length - (intOf i).toNat)
  case atStart => exact ⟨v, Nat.le_refl _, by omega, rfl, 0, rfl, Lib.hid (by simp)⟩
  case round =>
    obtain ⟨k, hk1, hk, rfl, t, rfl, HT⟩ := hrel
    by_cases hlt : k < xs.length
    · obtain ⟨b, off, x, rfl, _, hx, hc⟩ := h.at_ hlt
      have b1 := hs x (List.mem_of_getElem? hx.out)
      have b2 := tail_small hs k
      have b3 := tail_small hs v
      have b4 := HT.out
      have b5 : -2147483648 * 1048576 * 2 ≤ t ∧ t ≤ 2147483648 * 1048576 * 2 := by omega
      have HT' := Lib.hid (show t + x + tailW xs (k + 1) = tailW xs v by rw [← HT.out, tail_step hx.out]; omega)
      clear b2 b3 b4
      go_wp2
      go_round
      case rel => exact ⟨k + 1, by omega, by omega, by go_num, _, rfl, HT'⟩
      case measure => simp [intOf]; omega
    · have HE := Lib.hid (show t = tailW xs v by have := HT.out; rw [tailW_end xs k (by omega)] at this; omega)
      go_wp2
      go_ret
      exact ⟨by rw [HE.out]; rfl, rfl⟩

end Go.Proofs.Ytoipjhdnmiomeaa

/-
  Chapter 2: the contracts of RevenueAt and BestPrice, of the program and of the model.
-/
namespace Go.Proofs.Ytoipjhdnmiomeaa
open Go.RowKit

theorem Rd.drop {w : World} {b off c : Nat} {xs : List Int} (h : Rd w (some ⟨b, off, none⟩) c xs) (m : Nat) : Rd w (some ⟨b, off + m, none⟩) (c - m) (xs.drop m) := by
  rcases h with ⟨rfl, _⟩ | ⟨b', off', hA, hc⟩
  · exact .inl ⟨by simp, fun h => by cases h⟩
  · injection hA with hA
    injection hA with h1 h2 h3
    subst h1 h2
    refine .inr ⟨b, off + m, rfl, fun k hk => ?_⟩
    rw [List.length_drop] at hk
    have := hc (m + k) (by omega)
    rw [List.getElem?_drop, Nat.add_assoc]
    exact this

theorem sumInts_n {n : Nat} {s : Int} (A : Option Addr) (c : Nat) (xs : List Int) (w : World) (hn : xs.length = n) (hs' : s = xs.sum) (h : Rd w A c xs) (hl : n ≤ 1048576) (hs : Small2 xs) :
    Calls Try.prog 65 #[.func (.func 66) #[] #[], .int .i64 0, .slice A n c] w fun e w' => e = .returned (.int .i64 s) ∧ w = w' := by
  subst hn hs'; exact sumInts_any A c xs w h hl hs

set_option maxHeartbeats 400000 in
theorem manyFrom_any (b off c : Nat) (xs : List Int) (v : Nat) (w : World) (h : Rd w (some ⟨b, off, none⟩) c xs) (hc : xs.length ≤ c) (hl : xs.length ≤ 1048576) (hv : v ≤ 1048576) (hs : Small2 xs) :
    Calls Try.prog 50 #[.slice (some ⟨b, off, none⟩) xs.length c, .int .i64 v] w fun e w' => e = .returned (.int .i64 (tailW xs v)) ∧ w = w' := by
  rcases Nat.lt_or_ge v xs.length with hlt | hge
  · have H := Lib.hid (sumInts_n (n := xs.length - v) (s := tailW xs v) _ _ (xs.drop v) w (by simp) rfl (h.drop v) (by omega) (fun x hx => hs x (List.mem_of_mem_drop hx)))
    have e : min (v : Int) (xs.length : Int) = v := by omega
    go_enter Try.func50, Try.ntmps50
    go_wp2_with fail
    refine H.out.mono ?_
    rintro e w' ⟨rfl, rfl⟩
    go_wp2
    go_ret
    exact ⟨rfl, rfl⟩
  · have H := Lib.hid (fun (o c' : Nat) => sumInts_n (n := 0) (s := tailW xs v) (some ⟨b, o, none⟩) c' [] w rfl (by rw [tailW_end _ _ hge]; simp) (.inl ⟨rfl, fun h => by cases h⟩) (by omega) (fun x hx => by cases hx))
    have e : min (v : Int) (xs.length : Int) = xs.length := by omega
    go_enter Try.func50, Try.ntmps50
    go_wp2_with fail
    all_goals
      refine (H.out _ _).mono ?_
      rintro e w' ⟨rfl, rfl⟩
      go_wp2
      go_ret
      exact ⟨rfl, rfl⟩

/-- What RevenueAt hands back. -/
def revF (xs : List Int) (p : Int) : Int := if (vW xs && inR p 0 6) = true then revW xs p.toNat else -1
theorem revF_yes {xs : List Int} {p : Nat} (h : vW xs = true) (hp : p ≤ 6) : revF xs p = revW xs p := by
  unfold revF; rw [h, inR_true.2 ⟨by omega, by omega⟩]; simp
theorem revF_bad {xs : List Int} {p : Int} (h : vW xs = false) : revF xs p = -1 := by unfold revF; rw [h]; simp
theorem revF_out {xs : List Int} {p : Int} (h : inR p 0 6 = false) : revF xs p = -1 := by unfold revF; rw [h]; simp
theorem vW_small {xs : List Int} (h : vW xs = true) : Small2 xs := fun x hx => by have := vW_mem h x hx; omega
theorem Rd.open1 {w : World} {A : Option Addr} {c : Nat} {xs : List Int} (h : Rd w A c xs) (h1 : 1 ≤ xs.length) : ∃ b off, A = some ⟨b, off, none⟩ := by
  rcases h with ⟨rfl, _⟩ | ⟨b, off, hA, _⟩
  · simp at h1
  · exact ⟨b, off, hA⟩
theorem rev_b {xs : List Int} (h : vW xs = true) (v : Nat) : 0 ≤ tailW xs v ∧ tailW xs v ≤ 36 := ⟨tailW_nn (vW_valid h) v, tailW_36 (vW_valid h) v⟩
theorem revW_nn {xs : List Int} (h : vW xs = true) (v : Nat) : 0 ≤ revW xs v := Int.mul_nonneg (by omega) (rev_b h v).1
theorem revW_le {xs : List Int} (h : vW xs = true) {v : Nat} (hv : v ≤ 6) : revW xs v ≤ 216 := by
  have h1 := rev_b h v
  have := Int.mul_le_mul (show (v : Int) ≤ 6 by omega) h1.2 h1.1 (by omega)
  unfold revW; omega

set_option maxHeartbeats 400000 in
theorem SRevenueAt_any (A : Option Addr) (c : Nat) (xs : List Int) (p : Int) (w : World) (h : Rd w A c xs) (hl : xs.length ≤ 1048576) :
    Calls Try.prog 17 #[.slice A xs.length c, .int .i64 p] w fun e w' => e = .returned (.int .i64 (revF xs p)) ∧ w = w' := by
  have hl2 : xs.length ≤ 1099511627776 := by omega
  have HV := Lib.hid (validWeights_any A c xs w h hl2)
  cases hv : vW xs with
  | false =>
    have HE := Lib.hid (revF_bad (p := p) hv)
    rw [hv] at HV
    clear hv
    go_enter Try.func17, Try.ntmps17
    go_wp2_with (refine HV.out.mono ?_; rintro e w1 ⟨rfl, rfl⟩)
    go_ret
    exact ⟨by rw [HE.out]; rfl, rfl⟩
  | true =>
    rw [hv] at HV
    cases hp : inR p 0 6 with
    | false =>
      have HE := Lib.hid (revF_out (xs := xs) hp)
      have HP := Lib.hid (inRange_any p 0 6 w)
      rw [hp] at HP
      clear hv hp
      go_enter Try.func17, Try.ntmps17
      go_wp2_with fail
      refine HV.out.mono ?_
      rintro e w1 ⟨rfl, rfl⟩
      go_wp2_with fail
      refine HP.out.mono ?_
      rintro e w1 ⟨rfl, rfl⟩
      go_wp2
      go_ret
      exact ⟨by rw [HE.out]; rfl, rfl⟩
    | true =>
      have hb := inR_true.1 hp
      obtain ⟨v, rfl⟩ : ∃ v : Nat, p = v := ⟨p.toNat, by omega⟩
      have HE := Lib.hid (revF_yes hv (show v ≤ 6 by omega))
      have HP := Lib.hid (inRange_any v 0 6 w)
      have HT := Lib.hid (tail_any A c xs v w h hl (by omega) (vW_small hv))
      have HR := Lib.hid (show revW xs v = v * tailW xs v from rfl)
      obtain ⟨b1, b2⟩ := rev_b hv v
      generalize tailW xs v = T at HT HR b1 b2
      rw [hp] at HP
      have b3 : 0 ≤ (v : Int) * T := Int.mul_nonneg (by omega) b1
      have b4 : (v : Int) * T ≤ 216 := by rw [← HR.out]; exact revW_le hv (by omega)
      clear hv hp
      go_enter Try.func17, Try.ntmps17
      go_wp2_with fail
      refine HV.out.mono ?_
      rintro e w1 ⟨rfl, rfl⟩
      go_wp2_with fail
      refine HP.out.mono ?_
      rintro e w1 ⟨rfl, rfl⟩
      go_wp2_with fail
      refine HT.out.mono ?_
      rintro e w1 ⟨rfl, rfl⟩
      go_wp2
      go_ret
      exact ⟨by rw [HE.out, HR.out]; rfl, rfl⟩

set_option maxHeartbeats 400000 in
theorem RevenueAt_any (A : Option Addr) (c : Nat) (xs : List Int) (p : Int) (w : World) (h : Rd w A c xs) (hc : xs.length ≤ c) (hl : xs.length ≤ 1048576) :
    Calls Try.prog 16 #[.slice A xs.length c, .int .i64 p] w fun e w' => e = .returned (.int .i64 (revF xs p)) ∧ w = w' := by
  have hl2 : xs.length ≤ 1099511627776 := by omega
  have HV := Lib.hid (ValidWeights_any A c xs w h hl2)
  cases hv : vW xs with
  | false =>
    have HE := Lib.hid (revF_bad (p := p) hv)
    rw [hv] at HV
    clear hv
    go_enter Try.func16, Try.ntmps16
    go_wp2_with (refine HV.out.mono ?_; rintro e w1 ⟨rfl, rfl⟩)
    go_ret
    exact ⟨by rw [HE.out]; rfl, rfl⟩
  | true =>
    rw [hv] at HV
    cases hp : inR p 0 6 with
    | false =>
      have HE := Lib.hid (revF_out (xs := xs) hp)
      have HP := Lib.hid (isEdge_any p w)
      rw [hp] at HP
      clear hv hp
      go_enter Try.func16, Try.ntmps16
      go_wp2_with fail
      refine HV.out.mono ?_
      rintro e w1 ⟨rfl, rfl⟩
      go_wp2_with fail
      refine HP.out.mono ?_
      rintro e w1 ⟨rfl, rfl⟩
      go_wp2
      go_ret
      exact ⟨by rw [HE.out]; rfl, rfl⟩
    | true =>
      have hb := inR_true.1 hp
      obtain ⟨v, rfl⟩ : ∃ v : Nat, p = v := ⟨p.toNat, by omega⟩
      obtain ⟨b, off, rfl⟩ := h.open1 (vW_le hv).1
      have HE := Lib.hid (revF_yes hv (show v ≤ 6 by omega))
      have HP := Lib.hid (isEdge_any v w)
      have HT := Lib.hid (manyFrom_any b off c xs v w h hc hl (by omega) (vW_small hv))
      have HR := Lib.hid (show revW xs v = v * tailW xs v from rfl)
      obtain ⟨b1, b2⟩ := rev_b hv v
      generalize tailW xs v = T at HT HR b1 b2
      rw [hp] at HP
      have b3 : 0 ≤ (v : Int) * T := Int.mul_nonneg (by omega) b1
      have b4 : (v : Int) * T ≤ 216 := by rw [← HR.out]; exact revW_le hv (by omega)
      clear hv hp
      go_enter Try.func16, Try.ntmps16
      go_wp2_with fail
      refine HV.out.mono ?_
      rintro e w1 ⟨rfl, rfl⟩
      go_wp2_with fail
      refine HP.out.mono ?_
      rintro e w1 ⟨rfl, rfl⟩
      go_wp2_with fail
      refine HT.out.mono ?_
      rintro e w1 ⟨rfl, rfl⟩
      go_wp2
      go_ret
      exact ⟨by rw [HE.out, HR.out]; rfl, rfl⟩

/-- The first of the prices below k that bring in most. -/
def bestG (xs : List Int) : Nat → Nat
  | 0 => 0
  | k + 1 => if revW xs (bestG xs k) < revW xs k then k else bestG xs k
theorem bestG_one (xs : List Int) : bestG xs 1 = 0 := by simp [bestG]
theorem bestG_lt (xs : List Int) : ∀ k, 1 ≤ k → bestG xs k < k
  | 1, _ => by rw [bestG_one]; omega
  | k + 2, _ => by have := bestG_lt xs (k + 1) (by omega); rw [bestG]; split <;> omega
theorem bestG_yes {xs : List Int} {k b : Nat} (hb : b = bestG xs k) (h : revW xs b < revW xs k) : k = bestG xs (k + 1) := by subst hb; rw [bestG, if_pos h]
theorem bestG_no {xs : List Int} {k b : Nat} (hb : b = bestG xs k) (h : ¬ revW xs b < revW xs k) : b = bestG xs (k + 1) := by subst hb; rw [bestG, if_neg h]
theorem bestG_more {xs : List Int} (h : vW xs = true) : ∀ d, bestG xs (xs.length + d) = bestG xs xs.length
  | 0 => rfl
  | d + 1 => by
    rw [← Nat.add_assoc, bestG, bestG_more h d, if_neg]
    have := revW_nn h (bestG xs xs.length)
    have e : revW xs (xs.length + d) = 0 := by unfold revW; rw [tailW_end _ _ (by omega)]; simp
    omega
theorem bestG_7 {xs : List Int} (h : vW xs = true) : bestG xs 7 = bestG xs xs.length := by
  have := vW_le h
  rw [← bestG_more h (7 - xs.length), show xs.length + (7 - xs.length) = 7 by omega]
theorem bestG_max (xs : List Int) : ∀ k u, u < k → revW xs u ≤ revW xs (bestG xs k)
  | 0, u, h => by omega
  | k + 1, u, h => by
    have := bestG_max xs k u
    rw [bestG]
    split
    · rcases Nat.eq_or_lt_of_le (show u ≤ k by omega) with rfl | h2
      · omega
      · have := this h2; omega
    · rcases Nat.eq_or_lt_of_le (show u ≤ k by omega) with rfl | h2
      · omega
      · exact this h2
theorem bestG_first (xs : List Int) : ∀ k u, u < bestG xs k → revW xs u < revW xs (bestG xs k)
  | 0, u, h => by rw [bestG] at h; omega
  | k + 1, u, h => by
    rw [bestG] at h ⊢
    split
    · rename_i hlt
      rw [if_pos hlt] at h
      have := bestG_max xs k u h
      omega
    · rename_i hge
      rw [if_neg hge] at h
      exact bestG_first xs k u h

/-- What BestPrice hands back. -/
def bestP (xs : List Int) : Int := if vW xs = true then bestG xs xs.length else -1

set_option maxHeartbeats 600000 in
theorem SbestPrice_any (A : Option Addr) (c : Nat) (xs : List Int) (w : World) (h : Rd w A c xs) (hv : vW xs = true) :
    Calls Try.prog 55 #[.slice A xs.length c] w fun e w' => e = .returned (.int .i64 (bestG xs xs.length)) ∧ w = w' := by
  obtain ⟨l1, l2⟩ := vW_le hv
  have HV := Lib.hid hv
  have HT := Lib.hid (fun v (hv' : v ≤ 6) => tail_any A c xs v w h (by omega) (by omega) (vW_small hv))
  clear hv
  go_enter Try.func55, Try.ntmps55
  go_wp2
  go_loop [3, 4] (fun s i => ∃ k : Nat, 1 ≤ k ∧ k ≤ xs.length ∧ i = .int .i64 k ∧ ∃ b : Nat, b < k ∧ s = .int .i64 b ∧ Hid (b = bestG xs k)) (fun _ i => xs.length - (intOf i).toNat)
  case atStart => exact ⟨1, Nat.le_refl _, l1, rfl, 0, by omega, rfl, Lib.hid (bestG_one xs).symm⟩
  case round =>
    obtain ⟨k, hk1, hk, rfl, b, hb, rfl, HB⟩ := hrel
    by_cases hlt : k < xs.length
    · obtain ⟨a1, a2⟩ := rev_b HV.out k
      obtain ⟨a3, a4⟩ := rev_b HV.out b
      have HTk := Lib.hid (HT.out k (by omega))
      have HTb := Lib.hid (HT.out b (by omega))
      have p1 := revW_nn HV.out k
      have p2 := revW_le HV.out (show k ≤ 6 by omega)
      have p3 := revW_nn HV.out b
      have p4 := revW_le HV.out (show b ≤ 6 by omega)
      have ek : revW xs k = k * tailW xs k := rfl
      have eb : revW xs b = b * tailW xs b := rfl
      have HY := Lib.hid (fun hh => bestG_yes (k := k) HB.out hh)
      have HN := Lib.hid (fun hh => bestG_no (k := k) HB.out hh)
      rw [ek] at p1 p2 HY HN
      rw [eb] at p3 p4 HY HN
      clear ek eb
      generalize tailW xs k = T at *
      generalize tailW xs b = U at *
      generalize hx : (k : Int) * T = X at *
      generalize hy : (b : Int) * U = Y at *
      have HX := Lib.hid hx
      have HYY := Lib.hid hy
      clear hx hy
      by_cases hgt : Y < X
      · have HE := Lib.hid (HY.out hgt)
        have hd : decide (X > Y) = true := by simpa using hgt
        rw [← HX.out, ← HYY.out] at hd
        rw [← HX.out] at p1 p2
        rw [← HYY.out] at p3 p4
        clear hgt HY HN
        go_wp2_with fail
        refine HTk.out.mono ?_
        rintro e w1 ⟨rfl, rfl⟩
        go_wp2_with fail
        refine HTb.out.mono ?_
        rintro e w1 ⟨rfl, rfl⟩
        go_wp2
        go_round
        case rel => exact ⟨k + 1, by omega, by omega, by go_num, k, by omega, rfl, HE⟩
        case measure => simp [intOf]; omega
      · have HE := Lib.hid (HN.out hgt)
        have hd : decide (X > Y) = false := by simpa using hgt
        rw [← HX.out, ← HYY.out] at hd
        rw [← HX.out] at p1 p2
        rw [← HYY.out] at p3 p4
        clear hgt HY HN
        go_wp2_with fail
        refine HTk.out.mono ?_
        rintro e w1 ⟨rfl, rfl⟩
        go_wp2_with fail
        refine HTb.out.mono ?_
        rintro e w1 ⟨rfl, rfl⟩
        go_wp2
        go_round
        case rel => exact ⟨k + 1, by omega, by omega, by go_num, b, by omega, rfl, HE⟩
        case measure => simp [intOf]; omega
    · obtain rfl : k = xs.length := by omega
      have HE := Lib.hid HB.out
      go_wp2
      go_ret
      exact ⟨by rw [HE.out]; rfl, rfl⟩

theorem SBestPrice_any (A : Option Addr) (c : Nat) (xs : List Int) (w : World) (h : Rd w A c xs) (hl : xs.length ≤ 1048576) :
    Calls Try.prog 21 #[.slice A xs.length c] w fun e w' => e = .returned (.int .i64 (bestP xs)) ∧ w = w' := by
  have HV := Lib.hid (validWeights_any A c xs w h (by omega))
  cases hv : vW xs with
  | false =>
    have HE := Lib.hid (show bestP xs = -1 by unfold bestP; rw [hv]; rfl)
    rw [hv] at HV
    clear hv
    go_enter Try.func21, Try.ntmps21
    go_wp2_with (refine HV.out.mono ?_; rintro e w1 ⟨rfl, rfl⟩)
    go_ret
    exact ⟨by rw [HE.out]; rfl, rfl⟩
  | true =>
    have HE := Lib.hid (show bestP xs = bestG xs xs.length by unfold bestP; rw [hv]; rfl)
    have HB := Lib.hid (SbestPrice_any A c xs w h hv)
    rw [hv] at HV
    clear hv
    go_enter Try.func21, Try.ntmps21
    go_wp2_with fail
    refine HV.out.mono ?_
    rintro e w1 ⟨rfl, rfl⟩
    go_wp2_with fail
    refine HB.out.mono ?_
    rintro e w1 ⟨rfl, rfl⟩
    go_wp2
    go_ret
    exact ⟨by rw [HE.out]; rfl, rfl⟩

set_option maxHeartbeats 600000 in
theorem BestPrice_any (A : Option Addr) (c : Nat) (xs : List Int) (w : World) (h : Rd w A c xs) (hc : xs.length ≤ c) (hl : xs.length ≤ 1048576) :
    Calls Try.prog 20 #[.slice A xs.length c] w fun e w' => e = .returned (.int .i64 (bestP xs)) ∧ w = w' := by
  have HV := Lib.hid (ValidWeights_any A c xs w h (by omega))
  cases hv : vW xs with
  | false =>
    have HE := Lib.hid (show bestP xs = -1 by unfold bestP; rw [hv]; rfl)
    rw [hv] at HV
    clear hv
    go_enter Try.func20, Try.ntmps20
    go_wp2_with (refine HV.out.mono ?_; rintro e w1 ⟨rfl, rfl⟩)
    go_ret
    exact ⟨by rw [HE.out]; rfl, rfl⟩
  | true =>
    have HE := Lib.hid (show bestP xs = bestG xs 7 by unfold bestP; rw [hv, bestG_7 hv]; rfl)
    have HR := Lib.hid (fun (p : Nat) (hp : p ≤ 6) => show Calls _ _ _ _ _ from (revF_yes hv hp) ▸ RevenueAt_any A c xs p w h hc hl)
    rw [hv] at HV
    have HVV := Lib.hid hv
    clear hv
    go_enter Try.func20, Try.ntmps20
    go_wp2_with fail
    refine HV.out.mono ?_
    rintro e w1 ⟨rfl, rfl⟩
    go_wp2
    go_loop [3, 8] (fun s i => ∃ k : Nat, k ≤ 7 ∧ i = .int .i64 k ∧ ∃ b : Nat, b ≤ k ∧ b ≤ 6 ∧ s = .int .i64 b ∧ Hid (b = bestG xs k)) (fun _ i => 7 - (intOf i).toNat)
    case atStart => exact ⟨0, by omega, rfl, 0, by omega, by omega, rfl, Lib.hid rfl⟩
    case round =>
      obtain ⟨k, hk, rfl, b, hb, hb6, rfl, HB⟩ := hrel
      by_cases hlt : k < 7
      · have HTk := Lib.hid (HR.out k (by omega))
        have HTb := Lib.hid (HR.out b (by omega))
        have HY := Lib.hid (fun hh => bestG_yes (k := k) HB.out hh)
        have HN := Lib.hid (fun hh => bestG_no (k := k) HB.out hh)
        generalize revW xs k = X at *
        generalize revW xs b = Y at *
        by_cases hgt : Y < X
        · have HE2 := Lib.hid (HY.out hgt)
          have hd : decide (X > Y) = true := by simpa using hgt
          clear hgt HY HN
          go_wp2_with fail
          refine HTk.out.mono ?_
          rintro e w1 ⟨rfl, rfl⟩
          go_wp2_with fail
          refine HTb.out.mono ?_
          rintro e w1 ⟨rfl, rfl⟩
          go_wp2
          go_round
          case rel => exact ⟨k + 1, by omega, by go_num, k, by omega, by omega, rfl, HE2⟩
          case measure => simp [intOf]; omega
        · have HE2 := Lib.hid (HN.out hgt)
          have hd : decide (X > Y) = false := by simpa using hgt
          clear hgt HY HN
          go_wp2_with fail
          refine HTk.out.mono ?_
          rintro e w1 ⟨rfl, rfl⟩
          go_wp2_with fail
          refine HTb.out.mono ?_
          rintro e w1 ⟨rfl, rfl⟩
          go_wp2
          go_round
          case rel => exact ⟨k + 1, by omega, by go_num, b, by omega, by omega, rfl, HE2⟩
          case measure => simp [intOf]; omega
      · obtain rfl : k = 7 := by omega
        have HE2 := Lib.hid HB.out
        go_wp2
        go_ret
        exact ⟨by rw [HE.out, ← HE2.out]; rfl, rfl⟩
end Go.Proofs.Ytoipjhdnmiomeaa

/-
  Chapter 2: at whatever weights the program's ValidWeights, RevenueAt and BestPrice answer as the model's.
-/
namespace Go.Proofs.Ytoipjhdnmiomeaa
open Go.RowKit

/-- The answer v, and what was there is as it was. -/
def AnsIs (w : World) (v : Value) (e : Ending) (w' : World) : Prop := e = .returned v ∧ Below w.heap.size w w'
theorem AnsIs.of_same {w : World} {v : Value} {e : Ending} {w' : World} (h : e = .returned v ∧ w = w') : AnsIs w v e w' := ⟨h.1, h.2 ▸ Below.refl _ _⟩

theorem ValidWeights_both (xs : List Int) (hl : xs.length ≤ 1048576) : ∃ v,
    (∀ A c w, Rd w A c xs → Calls Try.prog 42 #[.slice A xs.length c] w (AnsIs w (.bool v))) ∧
    (∀ A c w, Rd w A c xs → xs.length ≤ c → Calls Try.prog 44 #[.slice A xs.length c] w (AnsIs w (.bool v))) :=
  ⟨vW xs, fun A c w h => (SValidWeights_any A c xs w h (by omega)).mono fun _ _ => AnsIs.of_same, fun A c w h _ => (ValidWeights_any A c xs w h (by omega)).mono fun _ _ => AnsIs.of_same⟩

theorem RevenueAt_both (xs : List Int) (p : Int) (hl : xs.length ≤ 1048576) : ∃ v,
    (∀ A c w, Rd w A c xs → Calls Try.prog 17 #[.slice A xs.length c, .int .i64 p] w (AnsIs w (.int .i64 v))) ∧
    (∀ A c w, Rd w A c xs → xs.length ≤ c → Calls Try.prog 16 #[.slice A xs.length c, .int .i64 p] w (AnsIs w (.int .i64 v))) :=
  ⟨revF xs p, fun A c w h => (SRevenueAt_any A c xs p w h hl).mono fun _ _ => AnsIs.of_same, fun A c w h hc => (RevenueAt_any A c xs p w h hc hl).mono fun _ _ => AnsIs.of_same⟩

theorem BestPrice_both (xs : List Int) (hl : xs.length ≤ 1048576) : ∃ v,
    (∀ A c w, Rd w A c xs → Calls Try.prog 21 #[.slice A xs.length c] w (AnsIs w (.int .i64 v))) ∧
    (∀ A c w, Rd w A c xs → xs.length ≤ c → Calls Try.prog 20 #[.slice A xs.length c] w (AnsIs w (.int .i64 v))) :=
  ⟨bestP xs, fun A c w h => (SBestPrice_any A c xs w h hl).mono fun _ _ => AnsIs.of_same, fun A c w h hc => (BestPrice_any A c xs w h hc hl).mono fun _ _ => AnsIs.of_same⟩

end Go.Proofs.Ytoipjhdnmiomeaa

/-
  Chapter 2, plain arithmetic: fractions in lowest terms.
-/
namespace Go.Proofs.Ytoipjhdnmiomeaa

/-- up divided by dn. -/
def fq (up dn : Int) : Rat := (up : Rat) / (dn : Rat)
/-- The numbers n and d are the fraction q in lowest terms. -/
def FrIs (q : Rat) (n d : Int) : Prop := n = q.num ∧ d = q.den
theorem FrIs.self (q : Rat) : FrIs q q.num q.den := ⟨rfl, rfl⟩
theorem FrIs.pos {q : Rat} {n d : Int} (h : FrIs q n d) : 1 ≤ d := by have := q.den_pos; rw [h.2]; omega
theorem FrIs.same {q : Rat} {n d n' d' : Int} (h : FrIs q n d) (h' : FrIs q n' d') : n = n' ∧ d = d' := ⟨h.1.trans h'.1.symm, h.2.trans h'.2.symm⟩
theorem FrIs.eq {p q : Rat} {n d : Int} (h : FrIs p n d) (h' : FrIs q n d) : p = q := by
  refine Rat.ext (h.1.symm.trans h'.1) ?_
  have := h.2.symm.trans h'.2
  omega
theorem FrIs.int (k : Int) : FrIs (k : Rat) k 1 := ⟨rfl, rfl⟩

theorem fq_mk {up dn : Int} (h : 1 ≤ dn) : fq up dn = mkRat up dn.toNat := by
  rw [Rat.mkRat_eq_div]
  unfold fq
  congr 1
  have : ((dn.toNat : Int) : Rat) = (dn : Rat) := by rw [Int.toNat_of_nonneg (by omega)]
  exact this.symm

theorem fq_is {up dn : Int} (h : 1 ≤ dn) : FrIs (fq up dn) (up.tdiv (Nat.gcd up.natAbs dn.natAbs : Nat)) (dn.tdiv (Nat.gcd up.natAbs dn.natAbs : Nat)) := by
  have e : dn.toNat = dn.natAbs := by omega
  have hd : ((Nat.gcd up.natAbs dn.natAbs : Nat) : Int) ∣ dn := Int.ofNat_dvd_left.2 (Nat.gcd_dvd_right _ _)
  have hu : ((Nat.gcd up.natAbs dn.natAbs : Nat) : Int) ∣ up := Int.ofNat_dvd_left.2 (Nat.gcd_dvd_left _ _)
  unfold FrIs
  rw [fq_mk h, Rat.num_mkRat, Rat.den_mkRat, e, if_neg (by omega), if_neg (by omega), Int.tdiv_eq_ediv_of_dvd hu, Int.tdiv_eq_ediv_of_dvd hd, Nat.gcd_comm]
  refine ⟨rfl, ?_⟩
  rw [Int.natCast_ediv]
  congr 1
  omega

theorem rat_den_ne (q : Rat) : (q.den : Rat) ≠ 0 := by
  have : (0 : Rat) < (q.den : Rat) := Rat.natCast_pos.2 q.den_pos
  grind
theorem rat_num (q : Rat) : (q.num : Rat) = q * (q.den : Rat) := by
  have := Rat.mkRat_self q
  rw [Rat.mkRat_eq_div] at this
  have h2 := Rat.div_mul_cancel (a := (q.num : Rat)) (rat_den_ne q)
  rw [this] at h2
  exact h2.symm
theorem div_eq {a b q : Rat} (hb : b ≠ 0) (h : a = q * b) : a / b = q := by
  rw [h, Rat.mul_div_cancel hb]

theorem fq_add (p q : Rat) : fq (p.num * q.den + q.num * p.den) (p.den * q.den) = p + q := by
  unfold fq
  have hb : ((p.den * q.den : Int) : Rat) ≠ 0 := by
    rw [Rat.intCast_mul]
    intro h
    rcases Rat.mul_eq_zero.1 h with h | h
    · exact rat_den_ne p h
    · exact rat_den_ne q h
  refine div_eq hb ?_
  simp only [Rat.intCast_add, Rat.intCast_mul, rat_num p, rat_num q]
  have e1 : ((p.den : Int) : Rat) = (p.den : Rat) := rfl
  have e2 : ((q.den : Int) : Rat) = (q.den : Rat) := rfl
  rw [e1, e2]
  grind
theorem fq_mul (p q : Rat) : fq (p.num * q.num) (p.den * q.den) = p * q := by
  unfold fq
  have hb : ((p.den * q.den : Int) : Rat) ≠ 0 := by
    rw [Rat.intCast_mul]
    intro h
    rcases Rat.mul_eq_zero.1 h with h | h
    · exact rat_den_ne p h
    · exact rat_den_ne q h
  refine div_eq hb ?_
  simp only [Rat.intCast_mul, rat_num p, rat_num q]
  have e1 : ((p.den : Int) : Rat) = (p.den : Rat) := rfl
  have e2 : ((q.den : Int) : Rat) = (q.den : Rat) := rfl
  rw [e1, e2]
  grind
theorem fq_times (p : Rat) (k : Int) : fq (p.num * k) p.den = p * (k : Rat) := by
  have := fq_mul p (k : Rat)
  rw [show ((k : Rat).num) = k from rfl, show ((k : Rat).den) = 1 from rfl] at this
  rw [← this]
  congr 1
  simp
theorem fq_one (k : Int) : fq k 1 = (k : Rat) := by
  unfold fq
  refine div_eq (by decide) ?_
  have : ((1 : Int) : Rat) = 1 := rfl
  rw [this]; grind

/-- The numbers of a fraction are no greater than those that are divided. -/
theorem fq_le {up dn n d : Int} (h : 1 ≤ dn) (hf : FrIs (fq up dn) n d) : n.natAbs ≤ up.natAbs ∧ 1 ≤ d ∧ d ≤ dn := by
  obtain ⟨h1, h2⟩ := hf.same (fq_is h)
  refine ⟨?_, hf.pos, ?_⟩
  · rw [h1, Int.natAbs_tdiv]
    exact Nat.div_le_self _ _
  · rw [h2]
    have : (dn.tdiv (Nat.gcd up.natAbs dn.natAbs : Nat)).natAbs ≤ dn.natAbs := by rw [Int.natAbs_tdiv]; exact Nat.div_le_self _ _
    omega
end Go.Proofs.Ytoipjhdnmiomeaa
