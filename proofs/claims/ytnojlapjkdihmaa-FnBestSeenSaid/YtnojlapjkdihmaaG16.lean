/-
  Chapter 1 in plain arithmetic: by which kinds truth is best.
-/
import Derived.Test.YtnojlapjkdihmaaG15
import Derived.Test.YtnojlapjkdihmaaG10
import Derived.Test.YtnojlapjkdihmaaG11
import Derived.Test.YtnojlapjkdihmaaG01
namespace Go.Proofs.Ytnojlapjkdihmaa

theorem runF_fit {top n : Nat} : ∀ (m : Nat) (xs : List Int), Fit top n xs → ∀ ys ∈ runF top m xs, Fit top n ys
  | 0, xs, _, ys, h => by simp [runF] at h
  | m + 1, xs, hf, ys, h => by
    rw [runF] at h
    rcases List.mem_cons.1 h with rfl | h
    · exact hf
    · cases hn : nextF xs top with
      | none => rw [hn] at h; simp at h
      | some zs =>
        rw [hn] at h
        exact runF_fit m zs (hf.next hn).1 ys h
theorem allF_fit {top n : Nat} {xs ys : List Int} (hf : Fit top n xs) (h : ys ∈ allF top xs) : Fit top n ys := runF_fit _ xs hf ys h

theorem set_own {xs : List Int} {i : Nat} {x : Int} (hx : xs[i]? = some x) : xs.set i x = xs := set_self hx

theorem second_true (n top : Nat) : isTrueF 2 n top = true := by
  unfold isTrueF
  rw [List.all_eq_true]
  intro ys hy
  have hf := allF_fit (Fit.zero top n) hy
  unfold restF
  rw [List.all_eq_true]
  intro i hi
  have hi : i < ys.length := List.mem_range.1 hi
  obtain ⟨x, hx⟩ := at_some hi
  unfold restAt
  rw [List.all_eq_true, getD_of hx]
  intro b _
  rw [decide_eq_true_eq]
  have := truth_best (xs := ys) (i := i) (v := x) (r := 0) (b := b) hi (hf.2 x (List.mem_of_getElem? hx)).1
  rw [set_own hx] at this
  exact this

theorem firstT : ∀ n top : Nat, 1 ≤ n → n ≤ 3 → top ≤ 5 → isTrueF 1 n top = decide (top = 0) := by
  intro n top h1 h2 h3
  have hn : n = 1 ∨ n = 2 ∨ n = 3 := by omega
  have ht : top = 0 ∨ top = 1 ∨ top = 2 ∨ top = 3 ∨ top = 4 ∨ top = 5 := by omega
  rcases hn with rfl | rfl | rfl <;> rcases ht with rfl | rfl | rfl | rfl | rfl | rfl <;> decide +kernel
theorem allT : ∀ n top : Nat, 1 ≤ n → n ≤ 3 → top ≤ 5 → isTrueF 4 n top = decide (top = 0) := by
  intro n top h1 h2 h3
  have hn : n = 1 ∨ n = 2 ∨ n = 3 := by omega
  have ht : top = 0 ∨ top = 1 ∨ top = 2 ∨ top = 3 ∨ top = 4 ∨ top = 5 := by omega
  rcases hn with rfl | rfl | rfl <;> rcases ht with rfl | rfl | rfl | rfl | rfl | rfl <;> decide +kernel
theorem thirdT : ∀ top : Nat, top ≤ 5 → isTrueF 3 3 top = decide (top = 0) := by
  intro top h3
  have ht : top = 0 ∨ top = 1 ∨ top = 2 ∨ top = 3 ∨ top = 4 ∨ top = 5 := by omega
  rcases ht with rfl | rfl | rfl | rfl | rfl | rfl <;> decide +kernel

end Go.Proofs.Ytnojlapjkdihmaa

/-
  Chapter 2, plain arithmetic: sums over all values of some bidders; what is brought in is virtual.
-/
namespace Go.Proofs.Ytnojlapjkdihmaa

/-- The greatest one, -1 of none. -/
def maxL : List Int → Int
  | [] => -1
  | v :: vs => max v (maxL vs)
theorem maxL_le {vs : List Int} {b : Int} (hb : -1 ≤ b) : maxL vs ≤ b ↔ ∀ (j : Nat) y, vs[j]? = some y → y ≤ b := by
  induction vs with
  | nil => simp [maxL, hb]
  | cons v vs ih =>
    rw [maxL, Int.max_le, ih]
    constructor
    · rintro ⟨h1, h2⟩ j y hy
      cases j with
      | zero => simp at hy; omega
      | succ j => simp at hy; exact h2 j y hy
    · intro h
      exact ⟨h 0 v rfl, fun j y hy => h (j + 1) y (by simpa using hy)⟩
theorem maxL_ge (vs : List Int) : -1 ≤ maxL vs := by
  induction vs with
  | nil => simp [maxL]
  | cons v vs ih => rw [maxL]; omega

/-- With b the bidder a has the thing. -/
def WinAt (vs : List Int) (r : Int) (a : Nat) (b : Int) : Prop := r ≤ b ∧ (∀ j y, j < a → vs[j]? = some y → y < b) ∧ (∀ (j : Nat) y, j ≠ a → vs[j]? = some y → y ≤ b)
theorem winAt_zero {x : Int} {vs : List Int} {r b : Int} (hr : 0 ≤ r) : WinAt (x :: vs) r 0 b ↔ max r (maxL vs) ≤ b := by
  constructor
  · rintro ⟨h1, _, h3⟩
    have : maxL vs ≤ b := (maxL_le (by omega)).2 fun j y hy => h3 (j + 1) y (by omega) (by simpa using hy)
    omega
  · intro h
    have h2 := (maxL_le (vs := vs) (b := b) (by omega)).1 (by omega)
    refine ⟨by omega, fun j y hj => by omega, fun j y hj hy => ?_⟩
    cases j with
    | zero => omega
    | succ j => exact h2 j y (by simpa using hy)
theorem winAt_succ {x : Int} {vs : List Int} {r b : Int} {a : Nat} : WinAt (x :: vs) r (a + 1) b ↔ WinAt vs (max r (x + 1)) a b := by
  constructor
  · rintro ⟨h1, h2, h3⟩
    have h4 := h2 0 x (by omega) rfl
    exact ⟨by omega, fun j y hj hy => h2 (j + 1) y (by omega) (by simpa using hy), fun j y hj hy => h3 (j + 1) y (by omega) (by simpa using hy)⟩
  · rintro ⟨h1, h2, h3⟩
    refine ⟨by omega, fun j y hj hy => ?_, fun j y hj hy => ?_⟩
    · cases j with
      | zero => simp at hy; omega
      | succ j => exact h2 j y (by omega) (by simpa using hy)
    · cases j with
      | zero => simp at hy; omega
      | succ j => exact h3 j y (by omega) (by simpa using hy)

/-- The least value with which the one who has the thing still has it, 0 if no one has it. -/
def edgeR : List Int → Int → Int
  | [], _ => 0
  | x :: vs, r => if max r (maxL vs) ≤ x then max r (maxL vs) else edgeR vs (max r (x + 1))
/-- Of the value of the one who has the thing, 0 if no one has it. -/
def ofWin (g : Int → Rat) : List Int → Int → Rat
  | [], _ => 0
  | x :: vs, r => if max r (maxL vs) ≤ x then g x else ofWin g vs (max r (x + 1))

theorem win_le_max {vs : List Int} {x : Int} {a : Nat} (hx : vs[a]? = some x) : x ≤ maxL vs := (maxL_le (by have := maxL_ge vs; omega)).1 (Int.le_refl _) a x hx

theorem edge_yes (g : Int → Rat) : ∀ (vs : List Int) (r : Int) (a : Nat) (x : Int), 0 ≤ r → vs[a]? = some x → WinAt vs r a x → (∀ b, WinAt vs r a b ↔ edgeR vs r ≤ b) ∧ ofWin g vs r = g x
  | [], r, a, x, _, hx, _ => by simp at hx
  | y :: vs, r, 0, x, hr, hx, hw => by
    simp at hx
    subst hx
    have h := (winAt_zero hr).1 hw
    rw [edgeR, ofWin, if_pos h, if_pos h]
    exact ⟨fun b => winAt_zero hr, rfl⟩
  | y :: vs, r, a + 1, x, hr, hx, hw => by
    simp at hx
    have h := winAt_succ.1 hw
    have h1 := h.1
    have h2 := win_le_max hx
    obtain ⟨i1, i2⟩ := edge_yes g vs (max r (y + 1)) a x (by omega) hx h
    rw [edgeR, ofWin, if_neg (by omega), if_neg (by omega)]
    exact ⟨fun b => winAt_succ.trans (i1 b), i2⟩
theorem edge_no (g : Int → Rat) : ∀ (vs : List Int) (r : Int), 0 ≤ r → (∀ a x, vs[a]? = some x → ¬ WinAt vs r a x) → edgeR vs r = 0 ∧ ofWin g vs r = 0
  | [], r, _, _ => ⟨rfl, rfl⟩
  | y :: vs, r, hr, h => by
    have h0 : ¬ max r (maxL vs) ≤ y := fun h' => h 0 y rfl ((winAt_zero hr).2 h')
    rw [edgeR, ofWin, if_neg h0, if_neg h0]
    exact edge_no g vs _ (by omega) fun a x hx hw => h (a + 1) x (by simpa using hx) (winAt_succ.2 hw)
theorem edge_high (g : Int → Rat) {vs : List Int} {r : Int} (hr : 0 ≤ r) (h : maxL vs < r) : edgeR vs r = 0 ∧ ofWin g vs r = 0 :=
  edge_no g vs r hr fun _ x hx hw => by have := win_le_max hx; have := hw.1; omega

theorem edge_nn : ∀ (vs : List Int) (r : Int), 0 ≤ r → 0 ≤ edgeR vs r
  | [], r, _ => by simp [edgeR]
  | y :: vs, r, hr => by
    rw [edgeR]
    split
    · omega
    · exact edge_nn vs _ (by omega)
theorem edge_le : ∀ (vs : List Int) (r : Int), 0 ≤ r → edgeR vs r ≤ max r (maxL vs)
  | [], r, _ => by simp [edgeR]; omega
  | y :: vs, r, hr => by
    rw [edgeR, maxL]
    split
    · omega
    · have := edge_le vs (max r (y + 1)) (by omega); omega
theorem edge_mono : ∀ (vs : List Int) (r r' : Int), 0 ≤ r → r ≤ r' → r' ≤ maxL vs → edgeR vs r ≤ edgeR vs r'
  | [], r, r', _, _, h => by simp [maxL] at h; omega
  | y :: vs, r, r', hr, hr', h => by
    rw [maxL] at h
    rw [edgeR, edgeR]
    by_cases c : max r' (maxL vs) ≤ y
    · rw [if_pos (by omega), if_pos c]; omega
    · rw [if_neg (by omega), if_neg c]
      exact edge_mono vs _ _ (by omega) (by omega) (by omega)
/-- One bidder more, ahead: no less. -/
theorem edge_more (x : Int) (vs : List Int) (r : Int) (hr : 0 ≤ r) : edgeR vs r ≤ edgeR (x :: vs) r := by
  rw [edgeR]
  split
  · exact edge_le vs r hr
  · rename_i h
    by_cases c : maxL vs < r
    · rw [(edge_high (fun _ => 0) hr c).1]; exact edge_nn _ _ (by omega)
    · exact edge_mono vs _ _ hr (by omega) (by omega)
/-- The first one has it, or one of the rest. -/
theorem edge_split (x : Int) (vs : List Int) (r : Int) (hr : 0 ≤ r) : edgeR (x :: vs) r = (if max r (maxL vs) ≤ x then max r (maxL vs) else 0) + edgeR vs (max r (x + 1)) := by
  rw [edgeR]
  split
  · rw [(edge_high (fun _ => 0) (by omega) (show maxL vs < max r (x + 1) by omega)).1]; omega
  · omega
theorem ofWin_split (g : Int → Rat) (x : Int) (vs : List Int) (r : Int) (hr : 0 ≤ r) : ofWin g (x :: vs) r = (if max r (maxL vs) ≤ x then g x else 0) + ofWin g vs (max r (x + 1)) := by
  rw [ofWin]
  split
  · rw [(edge_high g (by omega) (show maxL vs < max r (x + 1) by omega)).2]; grind
  · grind

/-- The sum of numbers. -/
def sumQ : List Rat → Rat
  | [] => 0
  | x :: xs => x + sumQ xs
theorem sumQ_app (xs ys : List Rat) : sumQ (xs ++ ys) = sumQ xs + sumQ ys := by
  induction xs with
  | nil => rw [List.nil_append, sumQ]; grind
  | cons x xs ih => rw [List.cons_append, sumQ, sumQ, ih]; grind
theorem sumQ_mul (c : Rat) (xs : List Rat) : sumQ (xs.map (c * ·)) = c * sumQ xs := by
  induction xs with
  | nil => simp [sumQ]
  | cons x xs ih => rw [List.map_cons, sumQ, sumQ, ih]; grind
theorem sumQ_range {α : Type} (k : Nat) (g : Nat → List α) (f : α → Rat) : sumQ (((List.range k).flatMap g).map f) = sumR k (fun x => sumQ ((g x).map f)) := by
  induction k with
  | zero => rfl
  | succ k ih => rw [List.range_succ, List.flatMap_append, List.map_append, sumQ_app, ih, sumR]; simp

/-- All values of n bidders, one ahead of the others. -/
def allV (t : Nat) : Nat → List (List Int)
  | 0 => [[]]
  | n + 1 => (List.range (t + 1)).flatMap fun (x : Nat) => (allV t n).map fun r => (x : Int) :: r
theorem allV_is : ((List.range 6).all fun t => [1, 2, 3].all fun n => decide (allF (t : Int) (List.replicate n 0) = allV t n)) = true := by decide +kernel
theorem allF_allV {t n : Nat} (h1 : 1 ≤ n) (h3 : n ≤ 3) (ht : t ≤ 5) : allF (t : Int) (List.replicate n 0) = allV t n := by
  have h := allV_is
  rw [List.all_eq_true] at h
  have h2 := h t (List.mem_range.2 (by omega))
  rw [List.all_eq_true] at h2
  have h4 := h2 n (by simp; omega)
  exact of_decide_eq_true h4
theorem allV_len : ((List.range 6).all fun t => [1, 2, 3].all fun n => decide ((allV t n).length ≤ 216)) = true := by decide +kernel
theorem allV_216 {t n : Nat} (h1 : 1 ≤ n) (h3 : n ≤ 3) (ht : t ≤ 5) : (allV t n).length ≤ 216 := by
  have h := allV_len
  rw [List.all_eq_true] at h
  have h2 := h t (List.mem_range.2 (by omega))
  rw [List.all_eq_true] at h2
  exact of_decide_eq_true (h2 n (by simp; omega))

/-- The product of the weights of values. -/
def waysF (w : List Int) : List Int → Int
  | [] => 1
  | v :: vs => wt w v.toNat * waysF w vs
theorem waysF_snoc (w : List Int) (vs : List Int) (v : Int) : waysF w (vs ++ [v]) = waysF w vs * wt w v.toNat := by
  induction vs with
  | nil => simp [waysF]
  | cons x vs ih => rw [List.cons_append, waysF, waysF, ih, Int.mul_assoc]
theorem waysF_nn {w : List Int} (h : validW w = true) (vs : List Int) : 0 ≤ waysF w vs := by
  induction vs with
  | nil => simp [waysF]
  | cons x vs ih => rw [waysF]; exact Int.mul_nonneg (validW_nn h _) ih

/-- The sum over all values of n bidders, with the product of their weights. -/
def sumP (w : List Int) (n : Nat) (f : List Int → Rat) : Rat := match n with
  | 0 => f []
  | n + 1 => sumR w.length fun x => (wt w x : Rat) * sumP w n fun vs => f ((x : Int) :: vs)
theorem sumP_is (w : List Int) (h1 : 1 ≤ w.length) : ∀ (n : Nat) (f : List Int → Rat), sumQ ((allV (w.length - 1) n).map fun vs => (waysF w vs : Rat) * f vs) = sumP w n f
  | 0, f => by
    have : ((1 : Int) : Rat) = 1 := rfl
    simp [allV, sumQ, sumP, waysF, this]; grind
  | n + 1, f => by
    rw [allV, sumQ_range, show w.length - 1 + 1 = w.length by omega, sumP]
    refine sumR_congr fun x _ => ?_
    rw [List.map_map, ← sumP_is w h1 n, ← sumQ_mul, List.map_map]
    congr 1
    refine List.map_congr_left fun vs _ => ?_
    simp only [Function.comp, waysF, Int.toNat_natCast, Rat.intCast_mul]
    grind
theorem sumP_add (w : List Int) : ∀ (n : Nat) (f g : List Int → Rat), sumP w n (fun vs => f vs + g vs) = sumP w n f + sumP w n g
  | 0, f, g => rfl
  | n + 1, f, g => by
    rw [sumP, sumP, sumP, ← sumR_add]
    refine sumR_congr fun x _ => ?_
    rw [sumP_add w n]; grind
theorem sumP_mul (w : List Int) (c : Rat) : ∀ (n : Nat) (f : List Int → Rat), sumP w n (fun vs => c * f vs) = c * sumP w n f
  | 0, f => rfl
  | n + 1, f => by
    rw [sumP, sumP, ← sumR_mul]
    refine sumR_congr fun x _ => ?_
    rw [sumP_mul w c n]; grind
theorem sumP_zero (w : List Int) : ∀ (n : Nat), sumP w n (fun _ => 0) = 0
  | 0 => rfl
  | n + 1 => by
    rw [sumP, sumR_congr (g := fun _ => 0) (fun x _ => by rw [sumP_zero w n]; grind), sumR_zero]
/-- Values that there are. -/
def InV (w : List Int) (vs : List Int) : Prop := ∀ v ∈ vs, 0 ≤ v ∧ v < (w.length : Int)
theorem InV.nil (w : List Int) : InV w [] := fun _ h => by cases h
theorem InV.cons {w vs : List Int} {x : Nat} (hx : x < w.length) (h : InV w vs) : InV w ((x : Int) :: vs) := by
  intro v hv
  rcases List.mem_cons.1 hv with rfl | hv
  · omega
  · exact h v hv
theorem sumP_le {w : List Int} (hw : validW w = true) : ∀ (n : Nat) {f g : List Int → Rat}, (∀ vs, InV w vs → vs.length = n → f vs ≤ g vs) → sumP w n f ≤ sumP w n g
  | 0, f, g, h => h [] (InV.nil w) rfl
  | n + 1, f, g, h => by
    rw [sumP, sumP]
    refine sumR_le fun x hx => Rat.mul_le_mul_of_nonneg_left (sumP_le hw n fun vs hv hl => h _ (hv.cons hx) (by simp [hl])) (Rat.intCast_nonneg.2 (validW_nn hw x))
theorem sumP_congr {w : List Int} (hw : validW w = true) (n : Nat) {f g : List Int → Rat} (h : ∀ vs, InV w vs → vs.length = n → f vs = g vs) : sumP w n f = sumP w n g :=
  Rat.le_antisymm (sumP_le hw n fun vs h1 h2 => by rw [h vs h1 h2]; exact Rat.le_refl) (sumP_le hw n fun vs h1 h2 => by rw [h vs h1 h2]; exact Rat.le_refl)
/-- The first one's sum goes inside. -/
theorem sumP_swap (w : List Int) (c : Nat → Rat) : ∀ (n k : Nat) (f : Nat → List Int → Rat), sumR k (fun x => c x * sumP w n (f x)) = sumP w n (fun vs => sumR k fun x => c x * f x vs)
  | n, 0, f => by
    show (0 : Rat) = sumP w n (fun _ => 0)
    rw [sumP_zero]
  | n, k + 1, f => by
    rw [sumR, sumP_swap w c n k f, ← sumP_mul, ← sumP_add]
    rfl

/-- What is brought in is virtual. -/
theorem edge_virt {w : List Int} (hw : validW w = true) : ∀ (n : Nat) (r : Int), 0 ≤ r → sumP w n (fun vs => (edgeR vs r : Rat)) = sumP w n (fun vs => ofWin (fun v => virtQ w v.toNat) vs r)
  | 0, r, _ => rfl
  | n + 1, r, hr => by
    have e1 : sumP w (n + 1) (fun vs => (edgeR vs r : Rat)) =
        sumR w.length (fun x => (wt w x : Rat) * sumP w n (fun vs => if max r (maxL vs) ≤ (x : Int) then ((max r (maxL vs) : Int) : Rat) else 0)) + sumR w.length (fun x => (wt w x : Rat) * sumP w n (fun vs => (edgeR vs (max r ((x : Int) + 1)) : Rat))) := by
      rw [sumP, ← sumR_add]
      refine sumR_congr fun x _ => ?_
      rw [← Rat.mul_add, ← sumP_add]
      congr 2
      funext vs
      rw [edge_split _ _ _ hr, Rat.intCast_add]
      split <;> rfl
    have e2 : sumP w (n + 1) (fun vs => ofWin (fun v => virtQ w v.toNat) vs r) =
        sumR w.length (fun x => (wt w x : Rat) * sumP w n (fun vs => if max r (maxL vs) ≤ (x : Int) then virtQ w x else 0)) + sumR w.length (fun x => (wt w x : Rat) * sumP w n (fun vs => ofWin (fun v => virtQ w v.toNat) vs (max r ((x : Int) + 1)))) := by
      rw [sumP, ← sumR_add]
      refine sumR_congr fun x _ => ?_
      rw [← Rat.mul_add, ← sumP_add]
      congr 2
      funext vs
      rw [ofWin_split _ _ _ _ hr]
      rfl
    rw [e1, e2]
    congr 1
    · rw [sumP_swap, sumP_swap]
      congr 1
      funext vs
      obtain ⟨t, ht⟩ : ∃ t : Nat, max r (maxL vs) = (t : Int) := ⟨(max r (maxL vs)).toNat, by omega⟩
      rw [ht]
      have a := wt_tele w t (t : Rat)
      have b := virt_tele hw t
      have c1 : sumR w.length (fun x => (wt w x : Rat) * if (t : Int) ≤ (x : Int) then (((t : Int)) : Rat) else 0) = sumR w.length (fun x => if t ≤ x then (wt w x : Rat) * (t : Rat) else 0) := by
        refine sumR_congr fun x _ => ?_
        by_cases c : t ≤ x
        · rw [if_pos (by omega), if_pos c]; rfl
        · rw [if_neg (by omega), if_neg c]; grind
      have c2 : sumR w.length (fun x => (wt w x : Rat) * if (t : Int) ≤ (x : Int) then virtQ w x else 0) = sumR w.length (fun x => if t ≤ x then (wt w x : Rat) * virtQ w x else 0) := by
        refine sumR_congr fun x _ => ?_
        by_cases c : t ≤ x
        · rw [if_pos (by omega), if_pos c]
        · rw [if_neg (by omega), if_neg c]; grind
      rw [c1, c2, a, b]
      unfold revW
      rw [Rat.intCast_mul]
      have : ((t : Int) : Rat) = (t : Rat) := rfl
      rw [this]; grind
    · refine sumR_congr fun x _ => ?_
      rw [edge_virt hw n _ (by omega)]

/-- Ironed values bring in no less. -/
theorem virt_iron {w : List Int} (hw : validW w = true) : ∀ (n : Nat) (r : Int), 0 ≤ r → sumP w n (fun vs => ofWin (fun v => virtQ w v.toNat) vs r) ≤ sumP w n (fun vs => ofWin (fun v => ironAt w v.toNat) vs r)
  | 0, r, _ => Rat.le_refl
  | n + 1, r, hr => by
    have e : ∀ g : Int → Rat, sumP w (n + 1) (fun vs => ofWin g vs r) =
        sumR w.length (fun x => (wt w x : Rat) * sumP w n (fun vs => if max r (maxL vs) ≤ (x : Int) then g x else 0)) + sumR w.length (fun x => (wt w x : Rat) * sumP w n (fun vs => ofWin g vs (max r ((x : Int) + 1)))) := by
      intro g
      rw [sumP, ← sumR_add]
      refine sumR_congr fun x _ => ?_
      rw [← Rat.mul_add, ← sumP_add]
      congr 2
      funext vs
      rw [ofWin_split _ _ _ _ hr]
    rw [e, e]
    have p1 : sumR w.length (fun x => (wt w x : Rat) * sumP w n (fun vs => ofWin (fun v => virtQ w v.toNat) vs (max r ((x : Int) + 1)))) ≤ sumR w.length (fun x => (wt w x : Rat) * sumP w n (fun vs => ofWin (fun v => ironAt w v.toNat) vs (max r ((x : Int) + 1)))) :=
      sumR_le fun x _ => Rat.mul_le_mul_of_nonneg_left (virt_iron hw n _ (by omega)) (Rat.intCast_nonneg.2 (validW_nn hw x))
    have p2 : sumR w.length (fun x => (wt w x : Rat) * sumP w n (fun vs => if max r (maxL vs) ≤ (x : Int) then (fun v : Int => virtQ w v.toNat) x else 0)) ≤ sumR w.length (fun x => (wt w x : Rat) * sumP w n (fun vs => if max r (maxL vs) ≤ (x : Int) then (fun v : Int => ironAt w v.toNat) x else 0)) := by
      rw [sumP_swap, sumP_swap]
      refine sumP_le hw n fun vs _ _ => ?_
      obtain ⟨t, ht⟩ : ∃ t : Nat, max r (maxL vs) = (t : Int) := ⟨(max r (maxL vs)).toNat, by omega⟩
      rw [ht]
      have b := virt_tele hw t
      have c := hull_ge hw t
      have c2 : ∀ g : Nat → Rat, sumR w.length (fun x => (wt w x : Rat) * if (t : Int) ≤ (x : Int) then (fun v : Int => g v.toNat) x else 0) = sumR w.length (fun x => if t ≤ x then (wt w x : Rat) * g x else 0) := by
        intro g
        refine sumR_congr fun x _ => ?_
        by_cases c : t ≤ x
        · rw [if_pos (by omega), if_pos c]; simp
        · rw [if_neg (by omega), if_neg c]; grind
      rw [c2, c2, b]
      exact c
    grind

/-- The greatest one of f, or 0. -/
def topR (f : Int → Rat) : List Int → Rat
  | [] => 0
  | v :: vs => max (f v) (topR f vs)
theorem topR_nn (f : Int → Rat) : ∀ vs, 0 ≤ topR f vs
  | [] => Rat.le_refl
  | v :: vs => by have := topR_nn f vs; rw [topR]; grind
theorem topR_ge (f : Int → Rat) : ∀ (vs : List Int) (r : Int), ofWin f vs r ≤ topR f vs
  | [], r => Rat.le_refl
  | v :: vs, r => by
    rw [ofWin, topR]
    split
    · grind
    · have := topR_ge f vs (max r (v + 1)); grind
end Go.Proofs.Ytnojlapjkdihmaa

/-
  Chapter 2, plain: who has the thing, and the least value with which it is had; fractions over one denominator.
-/
namespace Go.Proofs.Ytnojlapjkdihmaa

theorem getD_some {xs : List Int} {j : Nat} {y : Int} (h : xs[j]? = some y) : xs.getD j 0 = y := by rw [List.getD_eq_getElem?_getD, h]; rfl
theorem some_getD {xs : List Int} {j : Nat} (h : j < xs.length) : xs[j]? = some (xs.getD j 0) := by rw [List.getD_eq_getElem?_getD, List.getElem?_eq_getElem h]; rfl

/-- With b in the place of the own value the bidder a has the thing. -/
theorem win_set {vs : List Int} {r b : Int} {a : Nat} (ha : a < vs.length) : atOf (vs.set a b) r = (a : Int) ↔ WinAt vs r a b := by
  have hl : (vs.set a b).length = vs.length := by rw [List.length_set]
  have hg := gr_lt (vs.set a b) (vs.set a b).length (by omega)
  have hmax := gr_max (vs.set a b) (vs.set a b).length
  have hfst := gr_first (vs.set a b) (vs.set a b).length
  have hb : (vs.set a b).getD a 0 = b := getD_some (by rw [List.getElem?_set_self ha])
  have ho : ∀ j, j ≠ a → (vs.set a b).getD j 0 = vs.getD j 0 := fun j hj => by rw [List.getD_eq_getElem?_getD, List.getD_eq_getElem?_getD, List.getElem?_set_ne (Ne.symm hj)]
  constructor
  · intro h
    unfold atOf at h
    split at h
    · omega
    · rename_i hn
      have e : gr (vs.set a b) (vs.set a b).length = a := by omega
      rw [e, hb] at hn
      rw [e] at hmax hfst
      refine ⟨by omega, fun j y hj hy => ?_, fun j y hj hy => ?_⟩
      · have := hfst j hj
        rw [hb, ho j (by omega), getD_some hy] at this
        exact this
      · have hjl := (List.getElem?_eq_some_iff.1 hy).1
        have := hmax j (by omega)
        rw [hb, ho j hj, getD_some hy] at this
        exact this
  · rintro ⟨h1, h2, h3⟩
    have e : gr (vs.set a b) (vs.set a b).length = a := by
      generalize hgg : gr (vs.set a b) (vs.set a b).length = g at *
      rcases Nat.lt_trichotomy g a with h | h | h
      · have k1 := hmax a (by omega)
        rw [hb, ho g (by omega)] at k1
        have k2 := h2 g _ h (some_getD (by omega))
        omega
      · exact h
      · have k1 := hfst a h
        rw [hb, ho g (by omega)] at k1
        have k2 := h3 g _ (by omega) (some_getD (by omega))
        omega
    unfold atOf
    rw [e, hb, if_neg (by omega)]

theorem set_same' {vs : List Int} {a : Nat} {x : Int} (hx : vs[a]? = some x) : vs.set a x = vs := by
  obtain ⟨ha, rfl⟩ := List.getElem?_eq_some_iff.1 hx
  exact List.set_getElem_self ha

/-- Someone has the thing, or no one. -/
theorem at_cases {vs : List Int} {r : Int} (h1 : 1 ≤ vs.length) (hr : 0 ≤ r) :
    (∃ (a : Nat) (x : Int), atOf vs r = (a : Int) ∧ vs[a]? = some x ∧ (∀ b : Int, atOf (vs.set a b) r = (a : Int) ↔ edgeR vs r ≤ b) ∧ edgeR vs r ≤ x ∧ ∀ g, ofWin g vs r = g x) ∨
    (atOf vs r = -1 ∧ edgeR vs r = 0 ∧ ∀ g, ofWin g vs r = 0) := by
  have hg := gr_lt vs vs.length h1
  have hw : ∀ (a : Nat) (x : Int), vs[a]? = some x → (atOf vs r = (a : Int) ↔ WinAt vs r a x) := fun a x hx => by
    have := win_set (b := x) (r := r) (List.getElem?_eq_some_iff.1 hx).1
    rwa [set_same' hx] at this
  by_cases h : vs.getD (gr vs vs.length) 0 < r
  · refine .inr ⟨atOf_none h, ?_⟩
    have hno : ∀ a x, vs[a]? = some x → ¬ WinAt vs r a x := fun a x hx hwin => by
      have := (hw a x hx).2 hwin
      rw [atOf_none h] at this
      omega
    exact ⟨(edge_no (fun _ => 0) vs r hr hno).1, fun g => (edge_no g vs r hr hno).2⟩
  · have hx := some_getD hg
    have ha := atOf_some h
    have hwin := (hw _ _ hx).1 ha
    refine .inl ⟨gr vs vs.length, _, ha, hx, fun b => (win_set hg).trans ((edge_yes (fun _ => 0) vs r _ _ hr hx hwin).1 b), ((edge_yes (fun _ => 0) vs r _ _ hr hx hwin).1 _).1 hwin, fun g => (edge_yes g vs r _ _ hr hx hwin).2⟩

theorem findF_thr {p : Nat → Bool} {t : Nat} (h : ∀ b, p b = decide (t ≤ b)) : ∀ n k, k ≤ t → t < k + n → findF p n k = some t
  | 0, k, h1, h2 => by omega
  | n + 1, k, h1, h2 => by
    rcases Nat.eq_or_lt_of_le h1 with rfl | h3
    · exact findF_yes (by rw [h]; simp)
    · rw [findF_no (by rw [h]; simp; omega)]
      exact findF_thr h n (k + 1) (by omega) (by omega)

theorem least_edge {vs : List Int} {r : Int} {a : Nat} (h : ∀ b : Int, atOf (vs.set a b) r = (a : Int) ↔ edgeR vs r ≤ b) (h0 : 0 ≤ edgeR vs r) (h1 : edgeR vs r ≤ 30) : leastF vs a r = some (edgeR vs r).toNat := by
  unfold leastF
  refine findF_thr (fun b => ?_) 31 0 (by omega) (by omega)
  unfold winB
  rw [Bool.eq_iff_iff, decide_eq_true_iff, decide_eq_true_iff, h]
  omega

/-- The product of weights is small. -/
theorem ways_bd {w : List Int} (hw : validW w = true) : ∀ (vs : List Int), InV w vs → vs.length ≤ 3 → 1 ≤ waysF w vs ∧ waysF w vs ≤ 216 := by
  have one : ∀ v : Int, 0 ≤ v ∧ v < (w.length : Int) → 1 ≤ wt w v.toNat ∧ wt w v.toNat ≤ 6 := fun v hv => ⟨validW_lo hw (by omega), validW_hi hw _⟩
  have step : ∀ (a b M : Int), 1 ≤ a → a ≤ 6 → 1 ≤ b → b ≤ M → 0 ≤ M → 1 ≤ a * b ∧ a * b ≤ 6 * M := fun a b M h1 h2 h3 h4 h5 => ⟨by have := Int.mul_le_mul h1 h3 (by omega) (by omega); omega, Int.mul_le_mul h2 h4 (by omega) (by omega)⟩
  intro vs hv hl
  match vs, hl with
  | [], _ => simp [waysF]
  | [x], _ =>
    have h1 := one x (hv x (by simp))
    simp only [waysF]; omega
  | [x, y], _ =>
    have h1 := one x (hv x (by simp))
    have h2 := one y (hv y (by simp))
    have := step _ _ 6 h1.1 h1.2 h2.1 h2.2 (by omega)
    simp only [waysF, Int.mul_one]; omega
  | [x, y, z], _ =>
    have h1 := one x (hv x (by simp))
    have h2 := one y (hv y (by simp))
    have h3 := one z (hv z (by simp))
    have k1 := step _ _ 6 h2.1 h2.2 h3.1 h3.2 (by omega)
    have := step _ _ 36 h1.1 h1.2 k1.1 (by omega) (by omega)
    simp only [waysF, Int.mul_one]; omega
  | _ :: _ :: _ :: _ :: _, hl => simp at hl

theorem fq_scale {z d k : Int} (hd : 1 ≤ d) (hk : 1 ≤ k) : fq (z * k) (d * k) = fq z d := by
  unfold fq
  have h1 : (d : Rat) ≠ 0 := by have : (0 : Rat) < (d : Rat) := Rat.intCast_pos.2 (by omega); grind
  have h2 : (k : Rat) ≠ 0 := by have : (0 : Rat) < (k : Rat) := Rat.intCast_pos.2 (by omega); grind
  have h3 : ((d * k : Int) : Rat) ≠ 0 := by
    rw [Rat.intCast_mul]
    intro h
    rcases Rat.mul_eq_zero.1 h with h | h
    · exact h1 h
    · exact h2 h
  refine div_eq h3 ?_
  rw [Rat.intCast_mul, Rat.intCast_mul, ← Rat.mul_assoc, Rat.div_mul_cancel h1]

/-- A fraction over D, of a number up to B. -/
def Sc (D B : Int) (q : Rat) : Prop := ∃ z : Int, q = fq z D ∧ -B ≤ z ∧ z ≤ B
theorem Sc.zero {D : Int} : Sc D 0 0 := ⟨0, by unfold fq; rw [Rat.div_def]; simp, by omega, by omega⟩
theorem Sc.mono {D B B' : Int} {q : Rat} (h : Sc D B q) (hb : B ≤ B') : Sc D B' q := by
  obtain ⟨z, h1, h2, h3⟩ := h
  exact ⟨z, h1, by omega, by omega⟩
theorem Sc.add {D B B' : Int} {p q : Rat} (h : Sc D B p) (h' : Sc D B' q) : Sc D (B + B') (p + q) := by
  obtain ⟨z, h1, h2, h3⟩ := h
  obtain ⟨y, k1, k2, k3⟩ := h'
  refine ⟨z + y, ?_, by omega, by omega⟩
  rw [h1, k1]
  unfold fq
  rw [Rat.intCast_add, Rat.div_def, Rat.div_def, Rat.div_def, Rat.add_mul]
theorem Sc.mul {D B k K : Int} {q : Rat} (h : Sc D B q) (h0 : 0 ≤ k) (hk : k ≤ K) (hB : 0 ≤ B) : Sc D (K * B) ((k : Rat) * q) := by
  obtain ⟨z, h1, h2, h3⟩ := h
  have e : k * B ≤ K * B := Int.mul_le_mul_of_nonneg_right hk hB
  have e1 := Int.mul_le_mul_of_nonneg_left h3 h0
  have e2 := Int.mul_le_mul_of_nonneg_left h2 h0
  rw [Int.mul_neg] at e2
  refine ⟨k * z, ?_, by omega, by omega⟩
  rw [h1]
  unfold fq
  rw [Rat.intCast_mul, Rat.div_def, Rat.div_def, Rat.mul_assoc]
theorem Sc.bd {D B n d : Int} {q : Rat} (h : Sc D B q) (hD : 1 ≤ D) (hf : FrIs q n d) : -B ≤ n ∧ n ≤ B ∧ 1 ≤ d ∧ d ≤ D := by
  obtain ⟨z, h1, h2, h3⟩ := h
  rw [h1] at hf
  have := fq_le hD hf
  omega

theorem virt_sc {w : List Int} (hw : validW w = true) {v : Nat} (hv : v < w.length) : Sc 60 2160 (virtQ w v) := by
  have h1 := validW_lo hw hv
  have h2 := validW_hi hw v
  have h6 := validW_len hw
  have t0 := tailW_nn hw (v + 1)
  have t1 := tailW_36 hw (v + 1)
  have m0 : 0 ≤ (v : Int) * wt w v := Int.mul_nonneg (by omega) (by omega)
  have m1 := Int.mul_le_mul (show (v : Int) ≤ 5 by omega) h2 (by omega) (by omega)
  have e : virtQ w v = fq (v * wt w v - tailW w (v + 1)) (wt w v) := rfl
  have u0 : -36 ≤ (v : Int) * wt w v - tailW w (v + 1) ∧ (v : Int) * wt w v - tailW w (v + 1) ≤ 36 := by omega
  rw [e]
  generalize (v : Int) * wt w v - tailW w (v + 1) = u at *
  generalize wt w v = x at *
  have hx : x = 1 ∨ x = 2 ∨ x = 3 ∨ x = 4 ∨ x = 5 ∨ x = 6 := by omega
  rcases hx with rfl | rfl | rfl | rfl | rfl | rfl
  · exact ⟨u * 60, by rw [← fq_scale (k := 60) (by decide) (by decide)]; rfl, by omega, by omega⟩
  · exact ⟨u * 30, by rw [← fq_scale (k := 30) (by decide) (by decide)]; rfl, by omega, by omega⟩
  · exact ⟨u * 20, by rw [← fq_scale (k := 20) (by decide) (by decide)]; rfl, by omega, by omega⟩
  · exact ⟨u * 15, by rw [← fq_scale (k := 15) (by decide) (by decide)]; rfl, by omega, by omega⟩
  · exact ⟨u * 12, by rw [← fq_scale (k := 12) (by decide) (by decide)]; rfl, by omega, by omega⟩
  · exact ⟨u * 10, by rw [← fq_scale (k := 10) (by decide) (by decide)]; rfl, by omega, by omega⟩

theorem six_pow (k : Nat) (h : 1 ≤ k) : 6 * (k : Int) ≤ 6 ^ k := by
  induction k with
  | zero => omega
  | succ k ih =>
    rcases Nat.eq_zero_or_pos k with rfl | h1
    · decide
    · have := ih h1
      rw [Int.pow_succ]; omega
theorem rev_bd {w : List Int} (hw : validW w = true) {v : Nat} (hv : v ≤ 6) : 0 ≤ revW w v ∧ revW w v ≤ 216 := by
  have t0 := tailW_nn hw v
  have t1 := tailW_36 hw v
  unfold revW
  have m1 := Int.mul_le_mul (show (v : Int) ≤ 6 by omega) t1 (by omega) (by omega)
  exact ⟨Int.mul_nonneg (by omega) t0, by omega⟩

theorem iron_scD {w : List Int} (hw : validW w = true) : ∀ (f h : Nat), h ≤ f → h ≤ w.length → 1 ≤ ironD w f h ∧ ironD w f h ≤ 6 ^ h ∧ ∀ v, v < h → Sc (ironD w f h) (216 * ironD w f h) ((ironL w f h).getD v 0)
  | 0, h, h1, _ => by
    obtain rfl : h = 0 := by omega
    exact ⟨by simp [ironD], by simp [ironD], fun v hv => by omega⟩
  | f + 1, h, h1, hl => by
    rcases Nat.eq_zero_or_pos h with rfl | hp
    · exact ⟨by simp [ironD], by simp [ironD], fun v hv => by omega⟩
    · obtain ⟨a1, a2, _, _⟩ := steep_is w hp
      have hlen := ironL_len w f (steep w h).1 (by omega)
      obtain ⟨i1, i2, i3⟩ := iron_scD hw f _ (show (steep w h).1 ≤ f by omega) (by omega)
      have g0 := tailW_lt hw a1 hl
      have g1 := tailW_gap hw (Nat.le_of_lt a1)
      have g2 := six_pow (h - (steep w h).1) (by omega)
      have e : ironD w (f + 1) h = (tailW w (steep w h).1 - tailW w h) * ironD w f (steep w h).1 := by rw [ironD, if_neg (by omega)]
      have e6 : (6 : Int) ^ h = 6 ^ (h - (steep w h).1) * 6 ^ (steep w h).1 := by rw [← Int.pow_add]; congr 1; omega
      have h6 := validW_len hw
      obtain ⟨b0, b1⟩ := rev_bd hw (show (steep w h).1 ≤ 6 by omega)
      obtain ⟨b2, b3⟩ := rev_bd hw (show h ≤ 6 by omega)
      have a2' : (steep w h).2 = fq (revW w (steep w h).1 - revW w h) (tailW w (steep w h).1 - tailW w h) := a2
      rw [e, e6]
      rw [ironL_at hp]
      generalize (steep w h).2 = s at *
      generalize (steep w h).1 = a at *
      generalize ironD w f a = D at *
      generalize hL : tailW w a - tailW w h = L at *
      generalize hR : revW w a - revW w h = R at *
      have hL1 : 1 ≤ L := by omega
      refine ⟨?_, ?_, fun v hv => ?_⟩
      · have := Int.mul_le_mul hL1 i1 (by omega) (by omega); omega
      · exact Int.mul_le_mul (by omega) i2 (by omega) (by omega)
      · simp only [List.getD, List.getElem?_append, List.getElem?_replicate, hlen]
        by_cases c : v < a
        · rw [if_pos c]
          obtain ⟨z, z1, z2, z3⟩ := i3 v c
          simp only [List.getD] at z1
          rw [z1]
          have m1 := Int.mul_le_mul_of_nonneg_left z3 (show 0 ≤ L by omega)
          have m2 := Int.mul_le_mul_of_nonneg_left z2 (show 0 ≤ L by omega)
          rw [Int.mul_neg] at m2
          have m3 : L * (216 * D) = 216 * (L * D) := by rw [← Int.mul_assoc, Int.mul_comm L 216, Int.mul_assoc]
          refine ⟨z * L, by rw [Int.mul_comm L D, fq_scale (by omega) hL1], ?_, ?_⟩ <;> (rw [Int.mul_comm z L]; omega)
        · rw [if_neg c, if_pos (by omega)]
          show Sc _ _ s
          rw [a2']
          have m1 := Int.mul_le_mul_of_nonneg_right (show R ≤ 216 by omega) (show 0 ≤ D by omega)
          have m2 := Int.mul_le_mul_of_nonneg_right (show -216 ≤ R by omega) (show 0 ≤ D by omega)
          have m3 := Int.mul_le_mul_of_nonneg_right hL1 (show 0 ≤ D by omega)
          refine ⟨R * D, by rw [fq_scale hL1 i1], ?_, ?_⟩ <;> omega

/-- The ironed values lie over one denominator. -/
theorem iron_sc {w : List Int} (hw : validW w = true) : ∃ D : Int, 1 ≤ D ∧ D ≤ 46656 ∧ ∀ v, v < w.length → Sc D (216 * D) (ironAt w v) := by
  obtain ⟨h1, h2, h3⟩ := iron_scD hw w.length w.length (Nat.le_refl _) (Nat.le_refl _)
  refine ⟨ironD w w.length w.length, h1, Int.le_trans h2 ?_, h3⟩
  have h6 := validW_len hw
  have : w.length = 0 ∨ w.length = 1 ∨ w.length = 2 ∨ w.length = 3 ∨ w.length = 4 ∨ w.length = 5 ∨ w.length = 6 := by omega
  rcases this with h | h | h | h | h | h | h <;> rw [h] <;> decide
end Go.Proofs.Ytnojlapjkdihmaa
