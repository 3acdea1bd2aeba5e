/-
  Chapter 2, plain arithmetic: sums over all values of some bidders; what is brought in is virtual.
-/
import Derived.Test.YtnojlapjkdihmaaPlE
import Derived.Test.YtnojlapjkdihmaaCq
namespace Go.Proofs.Ytnojlapjkdihmaa

/-- The greatest one, -1 of none. -/
def maxL : List Int → Int
  | [] => -1
  | v :: vs => max v (maxL vs)
theorem maxL_le {vs : List Int} {b : Int} (hb : -1 ≤ b) : maxL vs ≤ b ↔ ∀ (j : Nat) y, vs[j]? = some y → y ≤ b := by
  induction vs with
  | nil => simp [maxL, hb]
  | cons v vs ih =>
    rw [maxL, Int.max_le, ih]
    constructor
    · rintro ⟨h1, h2⟩ j y hy
      cases j with
      | zero => simp at hy; omega
      | succ j => simp at hy; exact h2 j y hy
    · intro h
      exact ⟨h 0 v rfl, fun j y hy => h (j + 1) y (by simpa using hy)⟩
theorem maxL_ge (vs : List Int) : -1 ≤ maxL vs := by
  induction vs with
  | nil => simp [maxL]
  | cons v vs ih => rw [maxL]; omega

/-- With b the bidder a has the thing. -/
def WinAt (vs : List Int) (r : Int) (a : Nat) (b : Int) : Prop := r ≤ b ∧ (∀ j y, j < a → vs[j]? = some y → y < b) ∧ (∀ (j : Nat) y, j ≠ a → vs[j]? = some y → y ≤ b)
theorem winAt_zero {x : Int} {vs : List Int} {r b : Int} (hr : 0 ≤ r) : WinAt (x :: vs) r 0 b ↔ max r (maxL vs) ≤ b := by
  constructor
  · rintro ⟨h1, _, h3⟩
    have : maxL vs ≤ b := (maxL_le (by omega)).2 fun j y hy => h3 (j + 1) y (by omega) (by simpa using hy)
    omega
  · intro h
    have h2 := (maxL_le (vs := vs) (b := b) (by omega)).1 (by omega)
    refine ⟨by omega, fun j y hj => by omega, fun j y hj hy => ?_⟩
    cases j with
    | zero => omega
    | succ j => exact h2 j y (by simpa using hy)
theorem winAt_succ {x : Int} {vs : List Int} {r b : Int} {a : Nat} : WinAt (x :: vs) r (a + 1) b ↔ WinAt vs (max r (x + 1)) a b := by
  constructor
  · rintro ⟨h1, h2, h3⟩
    have h4 := h2 0 x (by omega) rfl
    exact ⟨by omega, fun j y hj hy => h2 (j + 1) y (by omega) (by simpa using hy), fun j y hj hy => h3 (j + 1) y (by omega) (by simpa using hy)⟩
  · rintro ⟨h1, h2, h3⟩
    refine ⟨by omega, fun j y hj hy => ?_, fun j y hj hy => ?_⟩
    · cases j with
      | zero => simp at hy; omega
      | succ j => exact h2 j y (by omega) (by simpa using hy)
    · cases j with
      | zero => simp at hy; omega
      | succ j => exact h3 j y (by omega) (by simpa using hy)

/-- The least value with which the one who has the thing still has it, 0 if no one has it. -/
def edgeR : List Int → Int → Int
  | [], _ => 0
  | x :: vs, r => if max r (maxL vs) ≤ x then max r (maxL vs) else edgeR vs (max r (x + 1))
/-- Of the value of the one who has the thing, 0 if no one has it. -/
def ofWin (g : Int → Rat) : List Int → Int → Rat
  | [], _ => 0
  | x :: vs, r => if max r (maxL vs) ≤ x then g x else ofWin g vs (max r (x + 1))

theorem win_le_max {vs : List Int} {x : Int} {a : Nat} (hx : vs[a]? = some x) : x ≤ maxL vs := (maxL_le (by have := maxL_ge vs; omega)).1 (Int.le_refl _) a x hx

theorem edge_yes (g : Int → Rat) : ∀ (vs : List Int) (r : Int) (a : Nat) (x : Int), 0 ≤ r → vs[a]? = some x → WinAt vs r a x → (∀ b, WinAt vs r a b ↔ edgeR vs r ≤ b) ∧ ofWin g vs r = g x
  | [], r, a, x, _, hx, _ => by simp at hx
  | y :: vs, r, 0, x, hr, hx, hw => by
    simp at hx
    subst hx
    have h := (winAt_zero hr).1 hw
    rw [edgeR, ofWin, if_pos h, if_pos h]
    exact ⟨fun b => winAt_zero hr, rfl⟩
  | y :: vs, r, a + 1, x, hr, hx, hw => by
    simp at hx
    have h := winAt_succ.1 hw
    have h1 := h.1
    have h2 := win_le_max hx
    obtain ⟨i1, i2⟩ := edge_yes g vs (max r (y + 1)) a x (by omega) hx h
    rw [edgeR, ofWin, if_neg (by omega), if_neg (by omega)]
    exact ⟨fun b => winAt_succ.trans (i1 b), i2⟩
theorem edge_no (g : Int → Rat) : ∀ (vs : List Int) (r : Int), 0 ≤ r → (∀ a x, vs[a]? = some x → ¬ WinAt vs r a x) → edgeR vs r = 0 ∧ ofWin g vs r = 0
  | [], r, _, _ => ⟨rfl, rfl⟩
  | y :: vs, r, hr, h => by
    have h0 : ¬ max r (maxL vs) ≤ y := fun h' => h 0 y rfl ((winAt_zero hr).2 h')
    rw [edgeR, ofWin, if_neg h0, if_neg h0]
    exact edge_no g vs _ (by omega) fun a x hx hw => h (a + 1) x (by simpa using hx) (winAt_succ.2 hw)
theorem edge_high (g : Int → Rat) {vs : List Int} {r : Int} (hr : 0 ≤ r) (h : maxL vs < r) : edgeR vs r = 0 ∧ ofWin g vs r = 0 :=
  edge_no g vs r hr fun _ x hx hw => by have := win_le_max hx; have := hw.1; omega

theorem edge_nn : ∀ (vs : List Int) (r : Int), 0 ≤ r → 0 ≤ edgeR vs r
  | [], r, _ => by simp [edgeR]
  | y :: vs, r, hr => by
    rw [edgeR]
    split
    · omega
    · exact edge_nn vs _ (by omega)
theorem edge_le : ∀ (vs : List Int) (r : Int), 0 ≤ r → edgeR vs r ≤ max r (maxL vs)
  | [], r, _ => by simp [edgeR]; omega
  | y :: vs, r, hr => by
    rw [edgeR, maxL]
    split
    · omega
    · have := edge_le vs (max r (y + 1)) (by omega); omega
theorem edge_mono : ∀ (vs : List Int) (r r' : Int), 0 ≤ r → r ≤ r' → r' ≤ maxL vs → edgeR vs r ≤ edgeR vs r'
  | [], r, r', _, _, h => by simp [maxL] at h; omega
  | y :: vs, r, r', hr, hr', h => by
    rw [maxL] at h
    rw [edgeR, edgeR]
    by_cases c : max r' (maxL vs) ≤ y
    · rw [if_pos (by omega), if_pos c]; omega
    · rw [if_neg (by omega), if_neg c]
      exact edge_mono vs _ _ (by omega) (by omega) (by omega)
/-- One bidder more, ahead: no less. -/
theorem edge_more (x : Int) (vs : List Int) (r : Int) (hr : 0 ≤ r) : edgeR vs r ≤ edgeR (x :: vs) r := by
  rw [edgeR]
  split
  · exact edge_le vs r hr
  · rename_i h
    by_cases c : maxL vs < r
    · rw [(edge_high (fun _ => 0) hr c).1]; exact edge_nn _ _ (by omega)
    · exact edge_mono vs _ _ hr (by omega) (by omega)
/-- The first one has it, or one of the rest. -/
theorem edge_split (x : Int) (vs : List Int) (r : Int) (hr : 0 ≤ r) : edgeR (x :: vs) r = (if max r (maxL vs) ≤ x then max r (maxL vs) else 0) + edgeR vs (max r (x + 1)) := by
  rw [edgeR]
  split
  · rw [(edge_high (fun _ => 0) (by omega) (show maxL vs < max r (x + 1) by omega)).1]; omega
  · omega
theorem ofWin_split (g : Int → Rat) (x : Int) (vs : List Int) (r : Int) (hr : 0 ≤ r) : ofWin g (x :: vs) r = (if max r (maxL vs) ≤ x then g x else 0) + ofWin g vs (max r (x + 1)) := by
  rw [ofWin]
  split
  · rw [(edge_high g (by omega) (show maxL vs < max r (x + 1) by omega)).2]; grind
  · grind

/-- The sum of numbers. -/
def sumQ : List Rat → Rat
  | [] => 0
  | x :: xs => x + sumQ xs
theorem sumQ_app (xs ys : List Rat) : sumQ (xs ++ ys) = sumQ xs + sumQ ys := by
  induction xs with
  | nil => rw [List.nil_append, sumQ]; grind
  | cons x xs ih => rw [List.cons_append, sumQ, sumQ, ih]; grind
theorem sumQ_mul (c : Rat) (xs : List Rat) : sumQ (xs.map (c * ·)) = c * sumQ xs := by
  induction xs with
  | nil => simp [sumQ]
  | cons x xs ih => rw [List.map_cons, sumQ, sumQ, ih]; grind
theorem sumQ_range {α : Type} (k : Nat) (g : Nat → List α) (f : α → Rat) : sumQ (((List.range k).flatMap g).map f) = sumR k (fun x => sumQ ((g x).map f)) := by
  induction k with
  | zero => rfl
  | succ k ih => rw [List.range_succ, List.flatMap_append, List.map_append, sumQ_app, ih, sumR]; simp

/-- All values of n bidders, one ahead of the others. -/
def allV (t : Nat) : Nat → List (List Int)
  | 0 => [[]]
  | n + 1 => (List.range (t + 1)).flatMap fun (x : Nat) => (allV t n).map fun r => (x : Int) :: r
theorem allV_is : ((List.range 6).all fun t => [1, 2, 3].all fun n => decide (allF (t : Int) (List.replicate n 0) = allV t n)) = true := by decide +kernel
theorem allF_allV {t n : Nat} (h1 : 1 ≤ n) (h3 : n ≤ 3) (ht : t ≤ 5) : allF (t : Int) (List.replicate n 0) = allV t n := by
  have h := allV_is
  rw [List.all_eq_true] at h
  have h2 := h t (List.mem_range.2 (by omega))
  rw [List.all_eq_true] at h2
  have h4 := h2 n (by simp; omega)
  exact of_decide_eq_true h4
theorem allV_len : ((List.range 6).all fun t => [1, 2, 3].all fun n => decide ((allV t n).length ≤ 216)) = true := by decide +kernel
theorem allV_216 {t n : Nat} (h1 : 1 ≤ n) (h3 : n ≤ 3) (ht : t ≤ 5) : (allV t n).length ≤ 216 := by
  have h := allV_len
  rw [List.all_eq_true] at h
  have h2 := h t (List.mem_range.2 (by omega))
  rw [List.all_eq_true] at h2
  exact of_decide_eq_true (h2 n (by simp; omega))

/-- The product of the weights of values. -/
def waysF (w : List Int) : List Int → Int
  | [] => 1
  | v :: vs => wt w v.toNat * waysF w vs
theorem waysF_snoc (w : List Int) (vs : List Int) (v : Int) : waysF w (vs ++ [v]) = waysF w vs * wt w v.toNat := by
  induction vs with
  | nil => simp [waysF]
  | cons x vs ih => rw [List.cons_append, waysF, waysF, ih, Int.mul_assoc]
theorem waysF_nn {w : List Int} (h : validW w = true) (vs : List Int) : 0 ≤ waysF w vs := by
  induction vs with
  | nil => simp [waysF]
  | cons x vs ih => rw [waysF]; exact Int.mul_nonneg (validW_nn h _) ih

/-- The sum over all values of n bidders, with the product of their weights. -/
def sumP (w : List Int) (n : Nat) (f : List Int → Rat) : Rat := match n with
  | 0 => f []
  | n + 1 => sumR w.length fun x => (wt w x : Rat) * sumP w n fun vs => f ((x : Int) :: vs)
theorem sumP_is (w : List Int) (h1 : 1 ≤ w.length) : ∀ (n : Nat) (f : List Int → Rat), sumQ ((allV (w.length - 1) n).map fun vs => (waysF w vs : Rat) * f vs) = sumP w n f
  | 0, f => by
    have : ((1 : Int) : Rat) = 1 := rfl
    simp [allV, sumQ, sumP, waysF, this]; grind
  | n + 1, f => by
    rw [allV, sumQ_range, show w.length - 1 + 1 = w.length by omega, sumP]
    refine sumR_congr fun x _ => ?_
    rw [List.map_map, ← sumP_is w h1 n, ← sumQ_mul, List.map_map]
    congr 1
    refine List.map_congr_left fun vs _ => ?_
    simp only [Function.comp, waysF, Int.toNat_natCast, Rat.intCast_mul]
    grind
theorem sumP_add (w : List Int) : ∀ (n : Nat) (f g : List Int → Rat), sumP w n (fun vs => f vs + g vs) = sumP w n f + sumP w n g
  | 0, f, g => rfl
  | n + 1, f, g => by
    rw [sumP, sumP, sumP, ← sumR_add]
    refine sumR_congr fun x _ => ?_
    rw [sumP_add w n]; grind
theorem sumP_mul (w : List Int) (c : Rat) : ∀ (n : Nat) (f : List Int → Rat), sumP w n (fun vs => c * f vs) = c * sumP w n f
  | 0, f => rfl
  | n + 1, f => by
    rw [sumP, sumP, ← sumR_mul]
    refine sumR_congr fun x _ => ?_
    rw [sumP_mul w c n]; grind
theorem sumP_zero (w : List Int) : ∀ (n : Nat), sumP w n (fun _ => 0) = 0
  | 0 => rfl
  | n + 1 => by
    rw [sumP, sumR_congr (g := fun _ => 0) (fun x _ => by rw [sumP_zero w n]; grind), sumR_zero]
/-- Values that there are. -/
def InV (w : List Int) (vs : List Int) : Prop := ∀ v ∈ vs, 0 ≤ v ∧ v < (w.length : Int)
theorem InV.nil (w : List Int) : InV w [] := fun _ h => by cases h
theorem InV.cons {w vs : List Int} {x : Nat} (hx : x < w.length) (h : InV w vs) : InV w ((x : Int) :: vs) := by
  intro v hv
  rcases List.mem_cons.1 hv with rfl | hv
  · omega
  · exact h v hv
theorem sumP_le {w : List Int} (hw : validW w = true) : ∀ (n : Nat) {f g : List Int → Rat}, (∀ vs, InV w vs → vs.length = n → f vs ≤ g vs) → sumP w n f ≤ sumP w n g
  | 0, f, g, h => h [] (InV.nil w) rfl
  | n + 1, f, g, h => by
    rw [sumP, sumP]
    refine sumR_le fun x hx => Rat.mul_le_mul_of_nonneg_left (sumP_le hw n fun vs hv hl => h _ (hv.cons hx) (by simp [hl])) (Rat.intCast_nonneg.2 (validW_nn hw x))
theorem sumP_congr {w : List Int} (hw : validW w = true) (n : Nat) {f g : List Int → Rat} (h : ∀ vs, InV w vs → vs.length = n → f vs = g vs) : sumP w n f = sumP w n g :=
  Rat.le_antisymm (sumP_le hw n fun vs h1 h2 => by rw [h vs h1 h2]; exact Rat.le_refl) (sumP_le hw n fun vs h1 h2 => by rw [h vs h1 h2]; exact Rat.le_refl)
/-- The first one's sum goes inside. -/
theorem sumP_swap (w : List Int) (c : Nat → Rat) : ∀ (n k : Nat) (f : Nat → List Int → Rat), sumR k (fun x => c x * sumP w n (f x)) = sumP w n (fun vs => sumR k fun x => c x * f x vs)
  | n, 0, f => by
    show (0 : Rat) = sumP w n (fun _ => 0)
    rw [sumP_zero]
  | n, k + 1, f => by
    rw [sumR, sumP_swap w c n k f, ← sumP_mul, ← sumP_add]
    rfl

/-- What is brought in is virtual. -/
theorem edge_virt {w : List Int} (hw : validW w = true) : ∀ (n : Nat) (r : Int), 0 ≤ r → sumP w n (fun vs => (edgeR vs r : Rat)) = sumP w n (fun vs => ofWin (fun v => virtQ w v.toNat) vs r)
  | 0, r, _ => rfl
  | n + 1, r, hr => by
    have e1 : sumP w (n + 1) (fun vs => (edgeR vs r : Rat)) =
        sumR w.length (fun x => (wt w x : Rat) * sumP w n (fun vs => if max r (maxL vs) ≤ (x : Int) then ((max r (maxL vs) : Int) : Rat) else 0)) + sumR w.length (fun x => (wt w x : Rat) * sumP w n (fun vs => (edgeR vs (max r ((x : Int) + 1)) : Rat))) := by
      rw [sumP, ← sumR_add]
      refine sumR_congr fun x _ => ?_
      rw [← Rat.mul_add, ← sumP_add]
      congr 2
      funext vs
      rw [edge_split _ _ _ hr, Rat.intCast_add]
      split <;> rfl
    have e2 : sumP w (n + 1) (fun vs => ofWin (fun v => virtQ w v.toNat) vs r) =
        sumR w.length (fun x => (wt w x : Rat) * sumP w n (fun vs => if max r (maxL vs) ≤ (x : Int) then virtQ w x else 0)) + sumR w.length (fun x => (wt w x : Rat) * sumP w n (fun vs => ofWin (fun v => virtQ w v.toNat) vs (max r ((x : Int) + 1)))) := by
      rw [sumP, ← sumR_add]
      refine sumR_congr fun x _ => ?_
      rw [← Rat.mul_add, ← sumP_add]
      congr 2
      funext vs
      rw [ofWin_split _ _ _ _ hr]
      rfl
    rw [e1, e2]
    congr 1
    · rw [sumP_swap, sumP_swap]
      congr 1
      funext vs
      obtain ⟨t, ht⟩ : ∃ t : Nat, max r (maxL vs) = (t : Int) := ⟨(max r (maxL vs)).toNat, by omega⟩
      rw [ht]
      have a := wt_tele w t (t : Rat)
      have b := virt_tele hw t
      have c1 : sumR w.length (fun x => (wt w x : Rat) * if (t : Int) ≤ (x : Int) then (((t : Int)) : Rat) else 0) = sumR w.length (fun x => if t ≤ x then (wt w x : Rat) * (t : Rat) else 0) := by
        refine sumR_congr fun x _ => ?_
        by_cases c : t ≤ x
        · rw [if_pos (by omega), if_pos c]; rfl
        · rw [if_neg (by omega), if_neg c]; grind
      have c2 : sumR w.length (fun x => (wt w x : Rat) * if (t : Int) ≤ (x : Int) then virtQ w x else 0) = sumR w.length (fun x => if t ≤ x then (wt w x : Rat) * virtQ w x else 0) := by
        refine sumR_congr fun x _ => ?_
        by_cases c : t ≤ x
        · rw [if_pos (by omega), if_pos c]
        · rw [if_neg (by omega), if_neg c]; grind
      rw [c1, c2, a, b]
      unfold revW
      rw [Rat.intCast_mul]
      have : ((t : Int) : Rat) = (t : Rat) := rfl
      rw [this]; grind
    · refine sumR_congr fun x _ => ?_
      rw [edge_virt hw n _ (by omega)]

/-- Ironed values bring in no less. -/
theorem virt_iron {w : List Int} (hw : validW w = true) : ∀ (n : Nat) (r : Int), 0 ≤ r → sumP w n (fun vs => ofWin (fun v => virtQ w v.toNat) vs r) ≤ sumP w n (fun vs => ofWin (fun v => ironAt w v.toNat) vs r)
  | 0, r, _ => Rat.le_refl
  | n + 1, r, hr => by
    have e : ∀ g : Int → Rat, sumP w (n + 1) (fun vs => ofWin g vs r) =
        sumR w.length (fun x => (wt w x : Rat) * sumP w n (fun vs => if max r (maxL vs) ≤ (x : Int) then g x else 0)) + sumR w.length (fun x => (wt w x : Rat) * sumP w n (fun vs => ofWin g vs (max r ((x : Int) + 1)))) := by
      intro g
      rw [sumP, ← sumR_add]
      refine sumR_congr fun x _ => ?_
      rw [← Rat.mul_add, ← sumP_add]
      congr 2
      funext vs
      rw [ofWin_split _ _ _ _ hr]
    rw [e, e]
    have p1 : sumR w.length (fun x => (wt w x : Rat) * sumP w n (fun vs => ofWin (fun v => virtQ w v.toNat) vs (max r ((x : Int) + 1)))) ≤ sumR w.length (fun x => (wt w x : Rat) * sumP w n (fun vs => ofWin (fun v => ironAt w v.toNat) vs (max r ((x : Int) + 1)))) :=
      sumR_le fun x _ => Rat.mul_le_mul_of_nonneg_left (virt_iron hw n _ (by omega)) (Rat.intCast_nonneg.2 (validW_nn hw x))
    have p2 : sumR w.length (fun x => (wt w x : Rat) * sumP w n (fun vs => if max r (maxL vs) ≤ (x : Int) then (fun v : Int => virtQ w v.toNat) x else 0)) ≤ sumR w.length (fun x => (wt w x : Rat) * sumP w n (fun vs => if max r (maxL vs) ≤ (x : Int) then (fun v : Int => ironAt w v.toNat) x else 0)) := by
      rw [sumP_swap, sumP_swap]
      refine sumP_le hw n fun vs _ _ => ?_
      obtain ⟨t, ht⟩ : ∃ t : Nat, max r (maxL vs) = (t : Int) := ⟨(max r (maxL vs)).toNat, by omega⟩
      rw [ht]
      have b := virt_tele hw t
      have c := hull_ge hw t
      have c2 : ∀ g : Nat → Rat, sumR w.length (fun x => (wt w x : Rat) * if (t : Int) ≤ (x : Int) then (fun v : Int => g v.toNat) x else 0) = sumR w.length (fun x => if t ≤ x then (wt w x : Rat) * g x else 0) := by
        intro g
        refine sumR_congr fun x _ => ?_
        by_cases c : t ≤ x
        · rw [if_pos (by omega), if_pos c]; simp
        · rw [if_neg (by omega), if_neg c]; grind
      rw [c2, c2, b]
      exact c
    grind

/-- The greatest one of f, or 0. -/
def topR (f : Int → Rat) : List Int → Rat
  | [] => 0
  | v :: vs => max (f v) (topR f vs)
theorem topR_nn (f : Int → Rat) : ∀ vs, 0 ≤ topR f vs
  | [] => Rat.le_refl
  | v :: vs => by have := topR_nn f vs; rw [topR]; grind
theorem topR_ge (f : Int → Rat) : ∀ (vs : List Int) (r : Int), ofWin f vs r ≤ topR f vs
  | [], r => Rat.le_refl
  | v :: vs, r => by
    rw [ofWin, topR]
    split
    · grind
    · have := topR_ge f vs (max r (v + 1)); grind
end Go.Proofs.Ytnojlapjkdihmaa
