/-
  Chapter 2, plain arithmetic: the ironed values rise, their curve lies above the revenues, and touches them where it bends.
-/
import Derived.Test.YtnojlapjkdihmaaCp
namespace Go.Proofs.Ytnojlapjkdihmaa

/-- What the curve of the slopes L has gained from t up to n. -/
def gainL (w : List Int) (L : List Rat) (n t : Nat) : Rat := sumR n (fun x => if t ≤ x then (wt w x : Rat) * L.getD x 0 else 0)

theorem gainL_app {w : List Int} {L : List Rat} {s : Rat} {a h : Nat} (hL : L.length = a) (hah : a ≤ h) (t : Nat) (ht : t ≤ h) :
    gainL w (L ++ List.replicate (h - a) s) h t = (if t ≤ a then gainL w L a t else 0) + ((tailW w (max t a) : Rat) - (tailW w h : Rat)) * s := by
  unfold gainL
  subst hL
  generalize hd : h - L.length = d
  obtain rfl : h = L.length + d := by omega
  clear hah hd
  induction d with
  | zero =>
    simp only [Nat.add_zero, List.replicate_zero, List.append_nil] at ht ⊢
    rw [if_pos ht, Nat.max_eq_right ht]; grind
  | succ d ih =>
    rw [← Nat.add_assoc, sumR]
    have e : (L ++ List.replicate (d + 1) s).getD (L.length + d) 0 = s := by simp [List.getD]
    have c : sumR (L.length + d) (fun x => if t ≤ x then (wt w x : Rat) * (L ++ List.replicate (d + 1) s).getD x 0 else 0) = sumR (L.length + d) (fun x => if t ≤ x then (wt w x : Rat) * (L ++ List.replicate d s).getD x 0 else 0) := by
      refine sumR_congr fun k hk => ?_
      congr 2
      simp only [List.getD, List.getElem?_append, List.getElem?_replicate]
      split
      · rfl
      · rw [if_pos (by omega), if_pos (by omega)]
    rw [c, e]
    have st : (tailW w (L.length + d) : Rat) = (wt w (L.length + d) : Rat) + (tailW w (L.length + d + 1) : Rat) := by rw [tailW_step w (L.length + d), Rat.intCast_add]
    rcases Nat.lt_or_ge (L.length + d) t with h1 | h1
    · obtain rfl : t = L.length + d + 1 := by omega
      rw [if_neg (by omega), sumR_late _ _ (by omega), if_neg (by omega), Nat.max_eq_left (by omega)]; grind
    · rw [ih (by omega), if_pos h1, Nat.add_assoc]
      rw [← Nat.add_assoc]
      grind

theorem ironL_at {w : List Int} {f h : Nat} (h1 : 1 ≤ h) : ironL w (f + 1) h = ironL w f (steep w h).1 ++ List.replicate (h - (steep w h).1) (steep w h).2 := by
  rw [ironL, if_neg (by omega)]

theorem mul_gap {w : List Int} (hw : validW w = true) {u v : Nat} (huv : u < v) (hv : v ≤ w.length) : (0 : Rat) < (tailW w u : Rat) - (tailW w v : Rat) := by
  have := tailW_lt hw huv hv
  rw [← Rat.intCast_sub]
  exact Rat.intCast_pos.2 (by omega)
theorem slope_eq {w : List Int} (hw : validW w = true) {u v : Nat} (huv : u < v) (hv : v ≤ w.length) : ((tailW w u : Rat) - (tailW w v : Rat)) * slopeQ w u v = (revW w u : Rat) - (revW w v : Rat) := by
  have := slopeQ_mul hw huv hv
  rwa [Rat.intCast_sub, Rat.intCast_sub] at this

/-- Two segments, one behind the other: the slope falls. -/
theorem steep_falls {w : List Int} (hw : validW w = true) {h : Nat} (h1 : 1 ≤ h) (hl : h ≤ w.length) (ha : 1 ≤ (steep w h).1) : (steep w (steep w h).1).2 < (steep w h).2 := by
  obtain ⟨a1, a2, a3, a4⟩ := steep_is w h1
  obtain ⟨b1, b2, b3, b4⟩ := steep_is w ha
  generalize steep w (steep w h).1 = s' at *
  generalize steep w h = s at *
  have k1 := a4 _ b1
  have e1 := slope_eq hw (show s'.1 < h by omega) hl
  have e2 := slope_eq hw a1 hl
  have e3 := slope_eq hw b1 (by omega)
  have g1 := mul_gap hw (show s'.1 < h by omega) hl
  have g3 := mul_gap hw b1 (by omega)
  rw [← a2] at e2
  rw [← b2] at e3
  have m := Rat.mul_lt_mul_of_pos_left k1 g1
  rw [e1] at m
  have m2 : ((tailW w s'.1 : Rat) - (tailW w s.1 : Rat)) * s'.2 < ((tailW w s'.1 : Rat) - (tailW w s.1 : Rat)) * s.2 := by grind
  exact Rat.lt_of_mul_lt_mul_left m2 (Rat.le_of_lt g3)

theorem ironL_top {w : List Int} {f h : Nat} (h1 : 1 ≤ h) (hf : h ≤ f) : (ironL w f h).getD (h - 1) 0 = (steep w h).2 := by
  obtain ⟨f, rfl⟩ : ∃ g, f = g + 1 := ⟨f - 1, by omega⟩
  obtain ⟨a1, _⟩ := steep_is w h1
  rw [ironL_at h1]
  have := ironL_len w f (steep w h).1 (by omega)
  simp only [List.getD, List.getElem?_append, List.getElem?_replicate, this]
  rw [if_neg (by omega), if_pos (by omega)]; rfl

/-- The ironed values rise. -/
theorem ironL_rise {w : List Int} (hw : validW w = true) : ∀ (f h : Nat), h ≤ f → h ≤ w.length → ∀ v, v + 1 < h → (ironL w f h).getD v 0 ≤ (ironL w f h).getD (v + 1) 0
  | 0, h, h1, _, v, hv => by omega
  | f + 1, h, h1, hl, v, hv => by
    obtain ⟨a1, _⟩ := steep_is w (show 1 ≤ h by omega)
    have hlen := ironL_len w f (steep w h).1 (by omega)
    rw [ironL_at (by omega)]
    simp only [List.getD, List.getElem?_append, List.getElem?_replicate, hlen]
    by_cases c1 : v + 1 < (steep w h).1
    · rw [if_pos (by omega), if_pos c1]
      exact ironL_rise hw f _ (by omega) (by omega) v c1
    · have g1 : v + 1 - (steep w h).1 < h - (steep w h).1 := by omega
      rw [if_neg c1, if_pos g1]
      by_cases c2 : v < (steep w h).1
      · rw [if_pos c2]
        have := ironL_top (w := w) (f := f) (h := (steep w h).1) (by omega) (by omega)
        simp only [List.getD] at this
        rw [show v = (steep w h).1 - 1 by omega, this]
        exact Rat.le_of_lt (steep_falls hw (by omega) hl (by omega))
      · rw [if_neg c2, if_pos (show v - (steep w h).1 < h - (steep w h).1 by omega)]
        exact Rat.le_refl

/-- The curve lies above the revenues, and touches them where it bends. -/
theorem ironL_hull {w : List Int} (hw : validW w = true) : ∀ (f h : Nat), h ≤ f → h ≤ w.length → ∀ t, t ≤ h →
    (revW w t : Rat) - (revW w h : Rat) ≤ gainL w (ironL w f h) h t ∧
    ((t = 0 ∨ t = h ∨ (ironL w f h).getD (t - 1) 0 ≠ (ironL w f h).getD t 0) → gainL w (ironL w f h) h t = (revW w t : Rat) - (revW w h : Rat))
  | 0, h, h1, _, t, ht => by
    obtain rfl : h = 0 := by omega
    obtain rfl : t = 0 := by omega
    have : gainL w (ironL w 0 0) 0 0 = 0 := rfl
    rw [this]
    refine ⟨by grind, fun _ => by grind⟩
  | f + 1, h, h1, hl, t, ht => by
    rcases Nat.eq_zero_or_pos h with rfl | hp
    · obtain rfl : t = 0 := by omega
      have : gainL w (ironL w (f + 1) 0) 0 0 = 0 := rfl
      rw [this]
      refine ⟨by grind, fun _ => by grind⟩
    · obtain ⟨a1, a2, a3, a4⟩ := steep_is w hp
      have hlen := ironL_len w f (steep w h).1 (by omega)
      have e2 := slope_eq hw a1 hl
      rw [← a2] at e2
      rw [ironL_at hp, gainL_app hlen (by omega) t ht]
      by_cases c : t ≤ (steep w h).1
      · obtain ⟨i1, i2⟩ := ironL_hull hw f _ (show (steep w h).1 ≤ f by omega) (by omega) t c
        rw [if_pos c, Nat.max_eq_right c]
        refine ⟨by grind, fun hv => ?_⟩
        have := i2 (by
          rcases hv with hv | hv | hv
          · exact .inl hv
          · omega
          · by_cases c3 : t = (steep w h).1
            · exact .inr (.inl c3)
            · by_cases c4 : t = 0
              · exact .inl c4
              · refine .inr (.inr ?_)
                simp only [List.getD, List.getElem?_append, List.getElem?_replicate, hlen] at hv ⊢
                rw [if_pos (show t - 1 < (steep w h).1 by omega), if_pos (show t < (steep w h).1 by omega)] at hv
                exact hv)
        grind
      · rw [if_neg c, Nat.max_eq_left (by omega)]
        rcases Nat.eq_or_lt_of_le ht with rfl | hlt
        · refine ⟨by grind, fun _ => by grind⟩
        · have k1 := a3 t hlt
          have e1 := slope_eq hw hlt hl
          have g1 := mul_gap hw hlt hl
          have m := Rat.mul_le_mul_of_nonneg_left k1 (Rat.le_of_lt g1)
          rw [e1] at m
          refine ⟨by grind, fun hv => ?_⟩
          exfalso
          rcases hv with hv | hv | hv
          · omega
          · omega
          · apply hv
            simp only [List.getD, List.getElem?_append, List.getElem?_replicate, hlen]
            rw [if_neg (show ¬ t - 1 < (steep w h).1 by omega), if_neg (show ¬ t < (steep w h).1 by omega), if_pos (show t - 1 - (steep w h).1 < h - (steep w h).1 by omega), if_pos (show t - (steep w h).1 < h - (steep w h).1 by omega)]

theorem revW_end (w : List Int) : revW w w.length = 0 := by unfold revW; rw [tailW_end _ _ (by omega)]; simp

/-- What the ironed values from t on bring in. -/
def hullW (w : List Int) (t : Nat) : Rat := sumR w.length (fun x => if t ≤ x then (wt w x : Rat) * ironAt w x else 0)

theorem iron_rise {w : List Int} (hw : validW w = true) {v : Nat} (hv : v + 1 < w.length) : ironAt w v ≤ ironAt w (v + 1) := ironL_rise hw _ _ (Nat.le_refl _) (Nat.le_refl _) v hv
theorem iron_mono {w : List Int} (hw : validW w = true) {u v : Nat} (huv : u ≤ v) (hv : v < w.length) : ironAt w u ≤ ironAt w v := by
  induction v with
  | zero => obtain rfl : u = 0 := by omega
            exact Rat.le_refl
  | succ v ih =>
    rcases Nat.eq_or_lt_of_le huv with rfl | h1
    · exact Rat.le_refl
    · exact Rat.le_trans (ih (by omega) (by omega)) (iron_rise hw hv)
theorem hull_ge {w : List Int} (hw : validW w = true) (t : Nat) : (revW w t : Rat) ≤ hullW w t := by
  rcases Nat.lt_or_ge w.length t with h1 | h1
  · unfold hullW; rw [sumR_late _ _ (by omega)]; unfold revW; rw [tailW_end _ _ (by omega)]; simp
  · have := (ironL_hull hw w.length w.length (Nat.le_refl _) (Nat.le_refl _) t h1).1
    rw [revW_end] at this
    unfold hullW ironAt ironed
    unfold gainL at this
    grind
theorem hull_bend {w : List Int} (hw : validW w = true) {t : Nat} (ht : t < w.length) (hb : t = 0 ∨ ironAt w (t - 1) ≠ ironAt w t) : hullW w t = (revW w t : Rat) := by
  have := (ironL_hull hw w.length w.length (Nat.le_refl _) (Nat.le_refl _) t (by omega)).2 (hb.imp_right .inr)
  rw [revW_end] at this
  unfold hullW ironAt ironed
  unfold gainL at this
  grind
theorem iron_top {w : List Int} (hw : validW w = true) : 0 ≤ ironAt w (w.length - 1) := by
  have h1 := validW_len1 hw
  have h2 := validW_lo hw (show w.length - 1 < w.length by omega)
  unfold ironAt ironed
  rw [ironL_top h1 (Nat.le_refl _)]
  obtain ⟨_, _, a3, _⟩ := steep_is w h1
  refine Rat.le_trans ?_ (a3 (w.length - 1) (by omega))
  have e := slope_eq hw (show w.length - 1 < w.length by omega) (Nat.le_refl _)
  have g := mul_gap hw (show w.length - 1 < w.length by omega) (Nat.le_refl _)
  rw [revW_end] at e
  have r : (0 : Rat) ≤ (revW w (w.length - 1) : Rat) := Rat.intCast_nonneg.2 (Int.mul_nonneg (by omega) (tailW_nn hw _))
  refine Rat.le_of_mul_le_mul_left (c := (tailW w (w.length - 1) : Rat) - (tailW w w.length : Rat)) ?_ g
  rw [e]
  grind

/-- The least value of which the ironed one is not below 0, from k on. -/
def leastIron (w : List Int) : Nat → Nat → Nat
  | 0, k => k
  | n + 1, k => if ironAt w k < 0 then leastIron w n (k + 1) else k
theorem leastIron_is {w : List Int} (hw : validW w = true) : ∀ (n k : Nat), k + n + 1 = w.length → (∀ u, u < k → ironAt w u < 0) → leastIron w n k < w.length ∧ 0 ≤ ironAt w (leastIron w n k) ∧ ∀ u, u < leastIron w n k → ironAt w u < 0
  | 0, k, hk, hu => ⟨by rw [leastIron]; omega, by rw [leastIron, show k = w.length - 1 by omega]; exact iron_top hw, hu⟩
  | n + 1, k, hk, hu => by
    rw [leastIron]
    split
    · rename_i hlt
      refine leastIron_is hw n (k + 1) (by omega) fun u h1 => ?_
      rcases Nat.eq_or_lt_of_le (show u ≤ k by omega) with rfl | h2
      · exact hlt
      · exact hu u h2
    · rename_i hge
      exact ⟨by omega, Rat.not_lt.1 hge, hu⟩

/-- It brings in most, and is the least that does. -/
theorem least_best {w : List Int} (hw : validW w = true) {p : Nat} (hp : p < w.length) (h0 : 0 ≤ ironAt w p) (hl : ∀ u, u < p → ironAt w u < 0) :
    hullW w p = (revW w p : Rat) ∧ (∀ u, revW w u ≤ revW w p) ∧ ∀ u, u < p → revW w u < revW w p := by
  have hb : hullW w p = (revW w p : Rat) := by
    refine hull_bend hw hp ?_
    by_cases c : p = 0
    · exact .inl c
    · have := hl (p - 1) (by omega)
      exact .inr (by grind)
  have step : ∀ u, hullW w u = (if u < w.length then (wt w u : Rat) * ironAt w u else 0) + hullW w (u + 1) := by
    intro u
    unfold hullW
    generalize w.length = n
    induction n with
    | zero => simp [sumR]; grind
    | succ n ih =>
      rw [sumR, sumR, ih]
      rcases Nat.lt_trichotomy u n with h | h | h
      · rw [if_pos h, if_pos (by omega), if_pos (by omega), if_pos (by omega)]; grind
      · subst h
        rw [if_neg (by omega), if_pos (Nat.le_refl _), if_pos (by omega), if_neg (by omega), sumR_late _ _ (by omega)]; grind
      · rw [if_neg (by omega), if_neg (by omega), if_neg (by omega), if_neg (by omega)]; grind
  have up : ∀ d, hullW w (p + d) ≤ hullW w p := by
    intro d
    induction d with
    | zero => exact Rat.le_refl
    | succ d ih =>
      refine Rat.le_trans ?_ ih
      rw [step (p + d), Nat.add_assoc]
      split
      · rename_i hh
        have := iron_mono hw (show p ≤ p + d by omega) hh
        have h2 := Rat.mul_nonneg (Rat.intCast_nonneg.2 (validW_nn hw (p + d))) (Rat.le_trans h0 this)
        grind
      · grind
  have down : ∀ d, d ≤ p → hullW w (p - d) ≤ hullW w p ∧ (1 ≤ d → hullW w (p - d) < hullW w p) := by
    intro d
    induction d with
    | zero => exact fun _ => ⟨Rat.le_refl, fun h => by omega⟩
    | succ d ih =>
      intro hd
      have h1 := (ih (by omega)).1
      rw [step (p - (d + 1)), if_pos (by omega), show p - (d + 1) + 1 = p - d by omega]
      have h2 := hl (p - (d + 1)) (by omega)
      have h3 : (0 : Rat) < (wt w (p - (d + 1)) : Rat) := Rat.intCast_pos.2 (by have := validW_lo hw (show p - (d + 1) < w.length by omega); omega)
      have h4 := (Rat.mul_neg_iff_of_pos_left h3).2 h2
      exact ⟨by grind, fun _ => by grind⟩
  refine ⟨hb, fun u => ?_, fun u hu => ?_⟩
  · rw [← Rat.intCast_le_intCast]
    refine Rat.le_trans (hull_ge hw u) ?_
    rw [← hb]
    rcases Nat.lt_or_ge u p with h | h
    · have := (down (p - u) (by omega)).1
      rwa [show p - (p - u) = u by omega] at this
    · have := up (u - p)
      rwa [show p + (u - p) = u by omega] at this
  · rw [← Rat.intCast_lt_intCast]
    have := (down (p - u) (by omega)).2 (by omega)
    rw [show p - (p - u) = u by omega] at this
    have h2 := hull_ge hw u
    rw [← hb]
    grind

/-- Weights are regular where their virtual values rise. -/
def regW (w : List Int) : Prop := ∀ v, v + 1 < w.length → virtQ w v ≤ virtQ w (v + 1)
theorem reg_mono {w : List Int} (hr : regW w) {u v : Nat} (huv : u ≤ v) (hv : v < w.length) : virtQ w u ≤ virtQ w v := by
  induction v with
  | zero => obtain rfl : u = 0 := by omega
            exact Rat.le_refl
  | succ v ih =>
    rcases Nat.eq_or_lt_of_le huv with rfl | h1
    · exact Rat.le_refl
    · exact Rat.le_trans (ih (by omega) (by omega)) (hr v hv)

/-- Slopes are means of virtual values. -/
theorem slope_mean {w : List Int} (hw : validW w = true) {h c : Nat} (hl : h ≤ w.length) (q : Rat) (hc : ∀ x, c ≤ x → x < h → virtQ w x ≤ q) : ∀ d, c + d = h →
    (revW w c : Rat) - (revW w h : Rat) ≤ ((tailW w c : Rat) - (tailW w h : Rat)) * q ∧ ((revW w c : Rat) - (revW w h : Rat) = ((tailW w c : Rat) - (tailW w h : Rat)) * q → ∀ x, c ≤ x → x < h → virtQ w x = q) := by
  intro d
  induction d generalizing c with
  | zero => intro h1; obtain rfl : c = h := by omega
            exact ⟨by grind, fun _ x _ _ => by omega⟩
  | succ d ih =>
    intro h1
    obtain ⟨i1, i2⟩ := ih (c := c + 1) (fun x h1 h2 => hc x (by omega) h2) (by omega)
    have e := virtQ_mul hw (show c < w.length by omega)
    rw [Rat.intCast_sub] at e
    have st : (tailW w c : Rat) = (wt w c : Rat) + (tailW w (c + 1) : Rat) := by rw [tailW_step w c, Rat.intCast_add]
    have h3 : (0 : Rat) < (wt w c : Rat) := Rat.intCast_pos.2 (by have := validW_lo hw (show c < w.length by omega); omega)
    have k := hc c (Nat.le_refl _) (by omega)
    have m := Rat.mul_le_mul_of_nonneg_left k (Rat.le_of_lt h3)
    refine ⟨by clear ih i2 hc; rw [st]; grind, fun he x hx1 hx2 => ?_⟩
    have e3 : (wt w c : Rat) * virtQ w c = (wt w c : Rat) * q := by clear ih i2 hc; rw [st] at he; grind
    rcases Nat.eq_or_lt_of_le hx1 with rfl | hx1
    · refine Rat.le_antisymm k (Rat.le_of_mul_le_mul_left (c := (wt w c : Rat)) ?_ h3)
      rw [e3]; exact Rat.le_refl
    · exact i2 (by clear ih i2 hc; rw [st] at he; grind) x hx1 hx2

/-- Regular weights are their own irons. -/
theorem ironL_reg {w : List Int} (hw : validW w = true) (hr : regW w) : ∀ (f h : Nat), h ≤ f → h ≤ w.length → ∀ v, v < h → (ironL w f h).getD v 0 = virtQ w v
  | 0, h, h1, _, v, hv => by omega
  | f + 1, h, h1, hl, v, hv => by
    obtain ⟨a1, a2, a3, _⟩ := steep_is w (show 1 ≤ h by omega)
    have hlen := ironL_len w f (steep w h).1 (by omega)
    have k1 := a3 (h - 1) (by omega)
    have e1 := slopeQ_one (w := w) (h - 1)
    rw [show h - 1 + 1 = h by omega] at e1
    rw [e1] at k1
    have e2 := slope_eq hw a1 hl
    rw [← a2] at e2
    have g := mul_gap hw a1 hl
    obtain ⟨m1, m2⟩ := slope_mean hw hl (c := (steep w h).1) (virtQ w (h - 1)) (fun x _ hx => reg_mono hr (by omega) (by omega)) (h - (steep w h).1) (by omega)
    have e4 : (steep w h).2 = virtQ w (h - 1) := by
      refine Rat.le_antisymm (Rat.le_of_mul_le_mul_left (c := (tailW w (steep w h).1 : Rat) - (tailW w h : Rat)) ?_ g) k1
      rw [e2]; exact m1
    rw [ironL_at (by omega)]
    simp only [List.getD, List.getElem?_append, List.getElem?_replicate, hlen]
    by_cases c : v < (steep w h).1
    · rw [if_pos c]
      exact ironL_reg hw hr f _ (by omega) (by omega) v c
    · rw [if_neg c, if_pos (by omega)]
      simp only [Option.getD_some]
      rw [e4]
      exact (m2 (by rw [← e2, e4]) v (by omega) hv).symm
theorem iron_reg {w : List Int} (hw : validW w = true) (hr : regW w) {v : Nat} (hv : v < w.length) : ironAt w v = virtQ w v := ironL_reg hw hr _ _ (Nat.le_refl _) (Nat.le_refl _) v hv
end Go.Proofs.Ytnojlapjkdihmaa
