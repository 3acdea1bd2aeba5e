/-
  Chapter 2, plain: who has the thing, and the least value with which it is had; fractions over one denominator.
-/
import Derived.Test.YtnojlapjkdihmaaCs
import Derived.Test.YtnojlapjkdihmaaCr
import Derived.Test.YtnojlapjkdihmaaG02
namespace Go.Proofs.Ytnojlapjkdihmaa

theorem getD_some {xs : List Int} {j : Nat} {y : Int} (h : xs[j]? = some y) : xs.getD j 0 = y := by rw [List.getD_eq_getElem?_getD, h]; rfl
theorem some_getD {xs : List Int} {j : Nat} (h : j < xs.length) : xs[j]? = some (xs.getD j 0) := by rw [List.getD_eq_getElem?_getD, List.getElem?_eq_getElem h]; rfl

/-- With b in the place of the own value the bidder a has the thing. -/
theorem win_set {vs : List Int} {r b : Int} {a : Nat} (ha : a < vs.length) : atOf (vs.set a b) r = (a : Int) ↔ WinAt vs r a b := by
  have hl : (vs.set a b).length = vs.length := by rw [List.length_set]
  have hg := gr_lt (vs.set a b) (vs.set a b).length (by omega)
  have hmax := gr_max (vs.set a b) (vs.set a b).length
  have hfst := gr_first (vs.set a b) (vs.set a b).length
  have hb : (vs.set a b).getD a 0 = b := getD_some (by rw [List.getElem?_set_self ha])
  have ho : ∀ j, j ≠ a → (vs.set a b).getD j 0 = vs.getD j 0 := fun j hj => by rw [List.getD_eq_getElem?_getD, List.getD_eq_getElem?_getD, List.getElem?_set_ne (Ne.symm hj)]
  constructor
  · intro h
    unfold atOf at h
    split at h
    · omega
    · rename_i hn
      have e : gr (vs.set a b) (vs.set a b).length = a := by omega
      rw [e, hb] at hn
      rw [e] at hmax hfst
      refine ⟨by omega, fun j y hj hy => ?_, fun j y hj hy => ?_⟩
      · have := hfst j hj
        rw [hb, ho j (by omega), getD_some hy] at this
        exact this
      · have hjl := (List.getElem?_eq_some_iff.1 hy).1
        have := hmax j (by omega)
        rw [hb, ho j hj, getD_some hy] at this
        exact this
  · rintro ⟨h1, h2, h3⟩
    have e : gr (vs.set a b) (vs.set a b).length = a := by
      generalize hgg : gr (vs.set a b) (vs.set a b).length = g at *
      rcases Nat.lt_trichotomy g a with h | h | h
      · have k1 := hmax a (by omega)
        rw [hb, ho g (by omega)] at k1
        have k2 := h2 g _ h (some_getD (by omega))
        omega
      · exact h
      · have k1 := hfst a h
        rw [hb, ho g (by omega)] at k1
        have k2 := h3 g _ (by omega) (some_getD (by omega))
        omega
    unfold atOf
    rw [e, hb, if_neg (by omega)]

theorem set_same' {vs : List Int} {a : Nat} {x : Int} (hx : vs[a]? = some x) : vs.set a x = vs := by
  obtain ⟨ha, rfl⟩ := List.getElem?_eq_some_iff.1 hx
  exact List.set_getElem_self ha

/-- Someone has the thing, or no one. -/
theorem at_cases {vs : List Int} {r : Int} (h1 : 1 ≤ vs.length) (hr : 0 ≤ r) :
    (∃ (a : Nat) (x : Int), atOf vs r = (a : Int) ∧ vs[a]? = some x ∧ (∀ b : Int, atOf (vs.set a b) r = (a : Int) ↔ edgeR vs r ≤ b) ∧ edgeR vs r ≤ x ∧ ∀ g, ofWin g vs r = g x) ∨
    (atOf vs r = -1 ∧ edgeR vs r = 0 ∧ ∀ g, ofWin g vs r = 0) := by
  have hg := gr_lt vs vs.length h1
  have hw : ∀ (a : Nat) (x : Int), vs[a]? = some x → (atOf vs r = (a : Int) ↔ WinAt vs r a x) := fun a x hx => by
    have := win_set (b := x) (r := r) (List.getElem?_eq_some_iff.1 hx).1
    rwa [set_same' hx] at this
  by_cases h : vs.getD (gr vs vs.length) 0 < r
  · refine .inr ⟨atOf_none h, ?_⟩
    have hno : ∀ a x, vs[a]? = some x → ¬ WinAt vs r a x := fun a x hx hwin => by
      have := (hw a x hx).2 hwin
      rw [atOf_none h] at this
      omega
    exact ⟨(edge_no (fun _ => 0) vs r hr hno).1, fun g => (edge_no g vs r hr hno).2⟩
  · have hx := some_getD hg
    have ha := atOf_some h
    have hwin := (hw _ _ hx).1 ha
    refine .inl ⟨gr vs vs.length, _, ha, hx, fun b => (win_set hg).trans ((edge_yes (fun _ => 0) vs r _ _ hr hx hwin).1 b), ((edge_yes (fun _ => 0) vs r _ _ hr hx hwin).1 _).1 hwin, fun g => (edge_yes g vs r _ _ hr hx hwin).2⟩

theorem findF_thr {p : Nat → Bool} {t : Nat} (h : ∀ b, p b = decide (t ≤ b)) : ∀ n k, k ≤ t → t < k + n → findF p n k = some t
  | 0, k, h1, h2 => by omega
  | n + 1, k, h1, h2 => by
    rcases Nat.eq_or_lt_of_le h1 with rfl | h3
    · exact findF_yes (by rw [h]; simp)
    · rw [findF_no (by rw [h]; simp; omega)]
      exact findF_thr h n (k + 1) (by omega) (by omega)

theorem least_edge {vs : List Int} {r : Int} {a : Nat} (h : ∀ b : Int, atOf (vs.set a b) r = (a : Int) ↔ edgeR vs r ≤ b) (h0 : 0 ≤ edgeR vs r) (h1 : edgeR vs r ≤ 30) : leastF vs a r = some (edgeR vs r).toNat := by
  unfold leastF
  refine findF_thr (fun b => ?_) 31 0 (by omega) (by omega)
  unfold winB
  rw [Bool.eq_iff_iff, decide_eq_true_iff, decide_eq_true_iff, h]
  omega

/-- The product of weights is small. -/
theorem ways_bd {w : List Int} (hw : validW w = true) : ∀ (vs : List Int), InV w vs → vs.length ≤ 3 → 1 ≤ waysF w vs ∧ waysF w vs ≤ 216 := by
  have one : ∀ v : Int, 0 ≤ v ∧ v < (w.length : Int) → 1 ≤ wt w v.toNat ∧ wt w v.toNat ≤ 6 := fun v hv => ⟨validW_lo hw (by omega), validW_hi hw _⟩
  have step : ∀ (a b M : Int), 1 ≤ a → a ≤ 6 → 1 ≤ b → b ≤ M → 0 ≤ M → 1 ≤ a * b ∧ a * b ≤ 6 * M := fun a b M h1 h2 h3 h4 h5 => ⟨by have := Int.mul_le_mul h1 h3 (by omega) (by omega); omega, Int.mul_le_mul h2 h4 (by omega) (by omega)⟩
  intro vs hv hl
  match vs, hl with
  | [], _ => simp [waysF]
  | [x], _ =>
    have h1 := one x (hv x (by simp))
    simp only [waysF]; omega
  | [x, y], _ =>
    have h1 := one x (hv x (by simp))
    have h2 := one y (hv y (by simp))
    have := step _ _ 6 h1.1 h1.2 h2.1 h2.2 (by omega)
    simp only [waysF, Int.mul_one]; omega
  | [x, y, z], _ =>
    have h1 := one x (hv x (by simp))
    have h2 := one y (hv y (by simp))
    have h3 := one z (hv z (by simp))
    have k1 := step _ _ 6 h2.1 h2.2 h3.1 h3.2 (by omega)
    have := step _ _ 36 h1.1 h1.2 k1.1 (by omega) (by omega)
    simp only [waysF, Int.mul_one]; omega
  | _ :: _ :: _ :: _ :: _, hl => simp at hl

theorem fq_scale {z d k : Int} (hd : 1 ≤ d) (hk : 1 ≤ k) : fq (z * k) (d * k) = fq z d := by
  unfold fq
  have h1 : (d : Rat) ≠ 0 := by have : (0 : Rat) < (d : Rat) := Rat.intCast_pos.2 (by omega); grind
  have h2 : (k : Rat) ≠ 0 := by have : (0 : Rat) < (k : Rat) := Rat.intCast_pos.2 (by omega); grind
  have h3 : ((d * k : Int) : Rat) ≠ 0 := by
    rw [Rat.intCast_mul]
    intro h
    rcases Rat.mul_eq_zero.1 h with h | h
    · exact h1 h
    · exact h2 h
  refine div_eq h3 ?_
  rw [Rat.intCast_mul, Rat.intCast_mul, ← Rat.mul_assoc, Rat.div_mul_cancel h1]

/-- A fraction over D, of a number up to B. -/
def Sc (D B : Int) (q : Rat) : Prop := ∃ z : Int, q = fq z D ∧ -B ≤ z ∧ z ≤ B
theorem Sc.zero {D : Int} : Sc D 0 0 := ⟨0, by unfold fq; rw [Rat.div_def]; simp, by omega, by omega⟩
theorem Sc.mono {D B B' : Int} {q : Rat} (h : Sc D B q) (hb : B ≤ B') : Sc D B' q := by
  obtain ⟨z, h1, h2, h3⟩ := h
  exact ⟨z, h1, by omega, by omega⟩
theorem Sc.add {D B B' : Int} {p q : Rat} (h : Sc D B p) (h' : Sc D B' q) : Sc D (B + B') (p + q) := by
  obtain ⟨z, h1, h2, h3⟩ := h
  obtain ⟨y, k1, k2, k3⟩ := h'
  refine ⟨z + y, ?_, by omega, by omega⟩
  rw [h1, k1]
  unfold fq
  rw [Rat.intCast_add, Rat.div_def, Rat.div_def, Rat.div_def, Rat.add_mul]
theorem Sc.mul {D B k K : Int} {q : Rat} (h : Sc D B q) (h0 : 0 ≤ k) (hk : k ≤ K) (hB : 0 ≤ B) : Sc D (K * B) ((k : Rat) * q) := by
  obtain ⟨z, h1, h2, h3⟩ := h
  have e : k * B ≤ K * B := Int.mul_le_mul_of_nonneg_right hk hB
  have e1 := Int.mul_le_mul_of_nonneg_left h3 h0
  have e2 := Int.mul_le_mul_of_nonneg_left h2 h0
  rw [Int.mul_neg] at e2
  refine ⟨k * z, ?_, by omega, by omega⟩
  rw [h1]
  unfold fq
  rw [Rat.intCast_mul, Rat.div_def, Rat.div_def, Rat.mul_assoc]
theorem Sc.bd {D B n d : Int} {q : Rat} (h : Sc D B q) (hD : 1 ≤ D) (hf : FrIs q n d) : -B ≤ n ∧ n ≤ B ∧ 1 ≤ d ∧ d ≤ D := by
  obtain ⟨z, h1, h2, h3⟩ := h
  rw [h1] at hf
  have := fq_le hD hf
  omega

theorem virt_sc {w : List Int} (hw : validW w = true) {v : Nat} (hv : v < w.length) : Sc 60 2160 (virtQ w v) := by
  have h1 := validW_lo hw hv
  have h2 := validW_hi hw v
  have h6 := validW_len hw
  have t0 := tailW_nn hw (v + 1)
  have t1 := tailW_36 hw (v + 1)
  have m0 : 0 ≤ (v : Int) * wt w v := Int.mul_nonneg (by omega) (by omega)
  have m1 := Int.mul_le_mul (show (v : Int) ≤ 5 by omega) h2 (by omega) (by omega)
  have e : virtQ w v = fq (v * wt w v - tailW w (v + 1)) (wt w v) := rfl
  have u0 : -36 ≤ (v : Int) * wt w v - tailW w (v + 1) ∧ (v : Int) * wt w v - tailW w (v + 1) ≤ 36 := by omega
  rw [e]
  generalize (v : Int) * wt w v - tailW w (v + 1) = u at *
  generalize wt w v = x at *
  have hx : x = 1 ∨ x = 2 ∨ x = 3 ∨ x = 4 ∨ x = 5 ∨ x = 6 := by omega
  rcases hx with rfl | rfl | rfl | rfl | rfl | rfl
  · exact ⟨u * 60, by rw [← fq_scale (k := 60) (by decide) (by decide)]; rfl, by omega, by omega⟩
  · exact ⟨u * 30, by rw [← fq_scale (k := 30) (by decide) (by decide)]; rfl, by omega, by omega⟩
  · exact ⟨u * 20, by rw [← fq_scale (k := 20) (by decide) (by decide)]; rfl, by omega, by omega⟩
  · exact ⟨u * 15, by rw [← fq_scale (k := 15) (by decide) (by decide)]; rfl, by omega, by omega⟩
  · exact ⟨u * 12, by rw [← fq_scale (k := 12) (by decide) (by decide)]; rfl, by omega, by omega⟩
  · exact ⟨u * 10, by rw [← fq_scale (k := 10) (by decide) (by decide)]; rfl, by omega, by omega⟩

theorem six_pow (k : Nat) (h : 1 ≤ k) : 6 * (k : Int) ≤ 6 ^ k := by
  induction k with
  | zero => omega
  | succ k ih =>
    rcases Nat.eq_zero_or_pos k with rfl | h1
    · decide
    · have := ih h1
      rw [Int.pow_succ]; omega
theorem rev_bd {w : List Int} (hw : validW w = true) {v : Nat} (hv : v ≤ 6) : 0 ≤ revW w v ∧ revW w v ≤ 216 := by
  have t0 := tailW_nn hw v
  have t1 := tailW_36 hw v
  unfold revW
  have m1 := Int.mul_le_mul (show (v : Int) ≤ 6 by omega) t1 (by omega) (by omega)
  exact ⟨Int.mul_nonneg (by omega) t0, by omega⟩

theorem iron_scD {w : List Int} (hw : validW w = true) : ∀ (f h : Nat), h ≤ f → h ≤ w.length → 1 ≤ ironD w f h ∧ ironD w f h ≤ 6 ^ h ∧ ∀ v, v < h → Sc (ironD w f h) (216 * ironD w f h) ((ironL w f h).getD v 0)
  | 0, h, h1, _ => by
    obtain rfl : h = 0 := by omega
    exact ⟨by simp [ironD], by simp [ironD], fun v hv => by omega⟩
  | f + 1, h, h1, hl => by
    rcases Nat.eq_zero_or_pos h with rfl | hp
    · exact ⟨by simp [ironD], by simp [ironD], fun v hv => by omega⟩
    · obtain ⟨a1, a2, _, _⟩ := steep_is w hp
      have hlen := ironL_len w f (steep w h).1 (by omega)
      obtain ⟨i1, i2, i3⟩ := iron_scD hw f _ (show (steep w h).1 ≤ f by omega) (by omega)
      have g0 := tailW_lt hw a1 hl
      have g1 := tailW_gap hw (Nat.le_of_lt a1)
      have g2 := six_pow (h - (steep w h).1) (by omega)
      have e : ironD w (f + 1) h = (tailW w (steep w h).1 - tailW w h) * ironD w f (steep w h).1 := by rw [ironD, if_neg (by omega)]
      have e6 : (6 : Int) ^ h = 6 ^ (h - (steep w h).1) * 6 ^ (steep w h).1 := by rw [← Int.pow_add]; congr 1; omega
      have h6 := validW_len hw
      obtain ⟨b0, b1⟩ := rev_bd hw (show (steep w h).1 ≤ 6 by omega)
      obtain ⟨b2, b3⟩ := rev_bd hw (show h ≤ 6 by omega)
      have a2' : (steep w h).2 = fq (revW w (steep w h).1 - revW w h) (tailW w (steep w h).1 - tailW w h) := a2
      rw [e, e6]
      rw [ironL_at hp]
      generalize (steep w h).2 = s at *
      generalize (steep w h).1 = a at *
      generalize ironD w f a = D at *
      generalize hL : tailW w a - tailW w h = L at *
      generalize hR : revW w a - revW w h = R at *
      have hL1 : 1 ≤ L := by omega
      refine ⟨?_, ?_, fun v hv => ?_⟩
      · have := Int.mul_le_mul hL1 i1 (by omega) (by omega); omega
      · exact Int.mul_le_mul (by omega) i2 (by omega) (by omega)
      · simp only [List.getD, List.getElem?_append, List.getElem?_replicate, hlen]
        by_cases c : v < a
        · rw [if_pos c]
          obtain ⟨z, z1, z2, z3⟩ := i3 v c
          simp only [List.getD] at z1
          rw [z1]
          have m1 := Int.mul_le_mul_of_nonneg_left z3 (show 0 ≤ L by omega)
          have m2 := Int.mul_le_mul_of_nonneg_left z2 (show 0 ≤ L by omega)
          rw [Int.mul_neg] at m2
          have m3 : L * (216 * D) = 216 * (L * D) := by rw [← Int.mul_assoc, Int.mul_comm L 216, Int.mul_assoc]
          refine ⟨z * L, by rw [Int.mul_comm L D, fq_scale (by omega) hL1], ?_, ?_⟩ <;> (rw [Int.mul_comm z L]; omega)
        · rw [if_neg c, if_pos (by omega)]
          show Sc _ _ s
          rw [a2']
          have m1 := Int.mul_le_mul_of_nonneg_right (show R ≤ 216 by omega) (show 0 ≤ D by omega)
          have m2 := Int.mul_le_mul_of_nonneg_right (show -216 ≤ R by omega) (show 0 ≤ D by omega)
          have m3 := Int.mul_le_mul_of_nonneg_right hL1 (show 0 ≤ D by omega)
          refine ⟨R * D, by rw [fq_scale hL1 i1], ?_, ?_⟩ <;> omega

/-- The ironed values lie over one denominator. -/
theorem iron_sc {w : List Int} (hw : validW w = true) : ∃ D : Int, 1 ≤ D ∧ D ≤ 46656 ∧ ∀ v, v < w.length → Sc D (216 * D) (ironAt w v) := by
  obtain ⟨h1, h2, h3⟩ := iron_scD hw w.length w.length (Nat.le_refl _) (Nat.le_refl _)
  refine ⟨ironD w w.length w.length, h1, Int.le_trans h2 ?_, h3⟩
  have h6 := validW_len hw
  have : w.length = 0 ∨ w.length = 1 ∨ w.length = 2 ∨ w.length = 3 ∨ w.length = 4 ∨ w.length = 5 ∨ w.length = 6 := by omega
  rcases this with h | h | h | h | h | h | h <;> rw [h] <;> decide
end Go.Proofs.Ytnojlapjkdihmaa
