/-
  Chapter 2, plain arithmetic: sums over all values of some bidders; what is brought in is virtual.
-/
import Derived.Test.YtoipjhdnmiomeaaGD
import Derived.Test.YtoipjhdnmiomeaaGE
import Derived.Test.YtoipjhdnmiomeaaGA
import Derived.Test.YtoipjhdnmiomeaaGG
import Derived.Test.YtoipjhdnmiomeaaGB
import Derived.Test.YtoipjhdnmiomeaaGF
import Derived.Deep.AppendLies
namespace Go.Proofs.Ytoipjhdnmiomeaa

/-- The greatest one, -1 of none. -/
def maxL : List Int → Int
  | [] => -1
  | v :: vs => max v (maxL vs)
theorem maxL_le {vs : List Int} {b : Int} (hb : -1 ≤ b) : maxL vs ≤ b ↔ ∀ (j : Nat) y, vs[j]? = some y → y ≤ b := by
  induction vs with
  | nil => simp [maxL, hb]
  | cons v vs ih =>
    rw [maxL, Int.max_le, ih]
    constructor
    · rintro ⟨h1, h2⟩ j y hy
      cases j with
      | zero => simp at hy; omega
      | succ j => simp at hy; exact h2 j y hy
    · intro h
      exact ⟨h 0 v rfl, fun j y hy => h (j + 1) y (by simpa using hy)⟩
theorem maxL_ge (vs : List Int) : -1 ≤ maxL vs := by
  induction vs with
  | nil => simp [maxL]
  | cons v vs ih => rw [maxL]; omega

/-- With b the bidder a has the thing. -/
def WinAt (vs : List Int) (r : Int) (a : Nat) (b : Int) : Prop := r ≤ b ∧ (∀ j y, j < a → vs[j]? = some y → y < b) ∧ (∀ (j : Nat) y, j ≠ a → vs[j]? = some y → y ≤ b)
theorem winAt_zero {x : Int} {vs : List Int} {r b : Int} (hr : 0 ≤ r) : WinAt (x :: vs) r 0 b ↔ max r (maxL vs) ≤ b := by
  constructor
  · rintro ⟨h1, _, h3⟩
    have : maxL vs ≤ b := (maxL_le (by omega)).2 fun j y hy => h3 (j + 1) y (by omega) (by simpa using hy)
    omega
  · intro h
    have h2 := (maxL_le (vs := vs) (b := b) (by omega)).1 (by omega)
    refine ⟨by omega, fun j y hj => by omega, fun j y hj hy => ?_⟩
    cases j with
    | zero => omega
    | succ j => exact h2 j y (by simpa using hy)
theorem winAt_succ {x : Int} {vs : List Int} {r b : Int} {a : Nat} : WinAt (x :: vs) r (a + 1) b ↔ WinAt vs (max r (x + 1)) a b := by
  constructor
  · rintro ⟨h1, h2, h3⟩
    have h4 := h2 0 x (by omega) rfl
    exact ⟨by omega, fun j y hj hy => h2 (j + 1) y (by omega) (by simpa using hy), fun j y hj hy => h3 (j + 1) y (by omega) (by simpa using hy)⟩
  · rintro ⟨h1, h2, h3⟩
    refine ⟨by omega, fun j y hj hy => ?_, fun j y hj hy => ?_⟩
    · cases j with
      | zero => simp at hy; omega
      | succ j => exact h2 j y (by omega) (by simpa using hy)
    · cases j with
      | zero => simp at hy; omega
      | succ j => exact h3 j y (by omega) (by simpa using hy)

/-- The least value with which the one who has the thing still has it, 0 if no one has it. -/
def edgeR : List Int → Int → Int
  | [], _ => 0
  | x :: vs, r => if max r (maxL vs) ≤ x then max r (maxL vs) else edgeR vs (max r (x + 1))
/-- Of the value of the one who has the thing, 0 if no one has it. -/
def ofWin (g : Int → Rat) : List Int → Int → Rat
  | [], _ => 0
  | x :: vs, r => if max r (maxL vs) ≤ x then g x else ofWin g vs (max r (x + 1))

theorem win_le_max {vs : List Int} {x : Int} {a : Nat} (hx : vs[a]? = some x) : x ≤ maxL vs := (maxL_le (by have := maxL_ge vs; omega)).1 (Int.le_refl _) a x hx

theorem edge_yes (g : Int → Rat) : ∀ (vs : List Int) (r : Int) (a : Nat) (x : Int), 0 ≤ r → vs[a]? = some x → WinAt vs r a x → (∀ b, WinAt vs r a b ↔ edgeR vs r ≤ b) ∧ ofWin g vs r = g x
  | [], r, a, x, _, hx, _ => by simp at hx
  | y :: vs, r, 0, x, hr, hx, hw => by
    simp at hx
    subst hx
    have h := (winAt_zero hr).1 hw
    rw [edgeR, ofWin, if_pos h, if_pos h]
    exact ⟨fun b => winAt_zero hr, rfl⟩
  | y :: vs, r, a + 1, x, hr, hx, hw => by
    simp at hx
    have h := winAt_succ.1 hw
    have h1 := h.1
    have h2 := win_le_max hx
    obtain ⟨i1, i2⟩ := edge_yes g vs (max r (y + 1)) a x (by omega) hx h
    rw [edgeR, ofWin, if_neg (by omega), if_neg (by omega)]
    exact ⟨fun b => winAt_succ.trans (i1 b), i2⟩
theorem edge_no (g : Int → Rat) : ∀ (vs : List Int) (r : Int), 0 ≤ r → (∀ a x, vs[a]? = some x → ¬ WinAt vs r a x) → edgeR vs r = 0 ∧ ofWin g vs r = 0
  | [], r, _, _ => ⟨rfl, rfl⟩
  | y :: vs, r, hr, h => by
    have h0 : ¬ max r (maxL vs) ≤ y := fun h' => h 0 y rfl ((winAt_zero hr).2 h')
    rw [edgeR, ofWin, if_neg h0, if_neg h0]
    exact edge_no g vs _ (by omega) fun a x hx hw => h (a + 1) x (by simpa using hx) (winAt_succ.2 hw)
theorem edge_high (g : Int → Rat) {vs : List Int} {r : Int} (hr : 0 ≤ r) (h : maxL vs < r) : edgeR vs r = 0 ∧ ofWin g vs r = 0 :=
  edge_no g vs r hr fun _ x hx hw => by have := win_le_max hx; have := hw.1; omega

theorem edge_nn : ∀ (vs : List Int) (r : Int), 0 ≤ r → 0 ≤ edgeR vs r
  | [], r, _ => by simp [edgeR]
  | y :: vs, r, hr => by
    rw [edgeR]
    split
    · omega
    · exact edge_nn vs _ (by omega)
theorem edge_le : ∀ (vs : List Int) (r : Int), 0 ≤ r → edgeR vs r ≤ max r (maxL vs)
  | [], r, _ => by simp [edgeR]; omega
  | y :: vs, r, hr => by
    rw [edgeR, maxL]
    split
    · omega
    · have := edge_le vs (max r (y + 1)) (by omega); omega
theorem edge_mono : ∀ (vs : List Int) (r r' : Int), 0 ≤ r → r ≤ r' → r' ≤ maxL vs → edgeR vs r ≤ edgeR vs r'
  | [], r, r', _, _, h => by simp [maxL] at h; omega
  | y :: vs, r, r', hr, hr', h => by
    rw [maxL] at h
    rw [edgeR, edgeR]
    by_cases c : max r' (maxL vs) ≤ y
    · rw [if_pos (by omega), if_pos c]; omega
    · rw [if_neg (by omega), if_neg c]
      exact edge_mono vs _ _ (by omega) (by omega) (by omega)
/-- One bidder more, ahead: no less. -/
theorem edge_more (x : Int) (vs : List Int) (r : Int) (hr : 0 ≤ r) : edgeR vs r ≤ edgeR (x :: vs) r := by
  rw [edgeR]
  split
  · exact edge_le vs r hr
  · rename_i h
    by_cases c : maxL vs < r
    · rw [(edge_high (fun _ => 0) hr c).1]; exact edge_nn _ _ (by omega)
    · exact edge_mono vs _ _ hr (by omega) (by omega)
/-- The first one has it, or one of the rest. -/
theorem edge_split (x : Int) (vs : List Int) (r : Int) (hr : 0 ≤ r) : edgeR (x :: vs) r = (if max r (maxL vs) ≤ x then max r (maxL vs) else 0) + edgeR vs (max r (x + 1)) := by
  rw [edgeR]
  split
  · rw [(edge_high (fun _ => 0) (by omega) (show maxL vs < max r (x + 1) by omega)).1]; omega
  · omega
theorem ofWin_split (g : Int → Rat) (x : Int) (vs : List Int) (r : Int) (hr : 0 ≤ r) : ofWin g (x :: vs) r = (if max r (maxL vs) ≤ x then g x else 0) + ofWin g vs (max r (x + 1)) := by
  rw [ofWin]
  split
  · rw [(edge_high g (by omega) (show maxL vs < max r (x + 1) by omega)).2]; grind
  · grind

/-- The sum of numbers. -/
def sumQ : List Rat → Rat
  | [] => 0
  | x :: xs => x + sumQ xs
theorem sumQ_app (xs ys : List Rat) : sumQ (xs ++ ys) = sumQ xs + sumQ ys := by
  induction xs with
  | nil => rw [List.nil_append, sumQ]; grind
  | cons x xs ih => rw [List.cons_append, sumQ, sumQ, ih]; grind
theorem sumQ_mul (c : Rat) (xs : List Rat) : sumQ (xs.map (c * ·)) = c * sumQ xs := by
  induction xs with
  | nil => simp [sumQ]
  | cons x xs ih => rw [List.map_cons, sumQ, sumQ, ih]; grind
theorem sumQ_range {α : Type} (k : Nat) (g : Nat → List α) (f : α → Rat) : sumQ (((List.range k).flatMap g).map f) = sumTo k (fun x => sumQ ((g x).map f)) := by
  induction k with
  | zero => rfl
  | succ k ih => rw [List.range_succ, List.flatMap_append, List.map_append, sumQ_app, ih, sumTo]; simp

/-- All values of n bidders, one ahead of the others. -/
def allV (t : Nat) : Nat → List (List Int)
  | 0 => [[]]
  | n + 1 => (List.range (t + 1)).flatMap fun (x : Nat) => (allV t n).map fun r => (x : Int) :: r
theorem allV_is : ((List.range 6).all fun t => [1, 2, 3].all fun n => decide (allF (t : Int) (List.replicate n 0) = allV t n)) = true := by decide +kernel
theorem allF_allV {t n : Nat} (h1 : 1 ≤ n) (h3 : n ≤ 3) (ht : t ≤ 5) : allF (t : Int) (List.replicate n 0) = allV t n := by
  have h := allV_is
  rw [List.all_eq_true] at h
  have h2 := h t (List.mem_range.2 (by omega))
  rw [List.all_eq_true] at h2
  have h4 := h2 n (by simp; omega)
  exact of_decide_eq_true h4
theorem allV_len : ((List.range 6).all fun t => [1, 2, 3].all fun n => decide ((allV t n).length ≤ 216)) = true := by decide +kernel
theorem allV_216 {t n : Nat} (h1 : 1 ≤ n) (h3 : n ≤ 3) (ht : t ≤ 5) : (allV t n).length ≤ 216 := by
  have h := allV_len
  rw [List.all_eq_true] at h
  have h2 := h t (List.mem_range.2 (by omega))
  rw [List.all_eq_true] at h2
  exact of_decide_eq_true (h2 n (by simp; omega))

/-- The product of the weights of values. -/
def waysF (w : List Int) : List Int → Int
  | [] => 1
  | v :: vs => wt w v.toNat * waysF w vs
theorem waysF_snoc (w : List Int) (vs : List Int) (v : Int) : waysF w (vs ++ [v]) = waysF w vs * wt w v.toNat := by
  induction vs with
  | nil => simp [waysF]
  | cons x vs ih => rw [List.cons_append, waysF, waysF, ih, Int.mul_assoc]
theorem waysF_nn {w : List Int} (h : validW w = true) (vs : List Int) : 0 ≤ waysF w vs := by
  induction vs with
  | nil => simp [waysF]
  | cons x vs ih => rw [waysF]; exact Int.mul_nonneg (validW_nn h _) ih

/-- The sum over all values of n bidders, with the product of their weights. -/
def sumP (w : List Int) (n : Nat) (f : List Int → Rat) : Rat := match n with
  | 0 => f []
  | n + 1 => sumTo w.length fun x => (wt w x : Rat) * sumP w n fun vs => f ((x : Int) :: vs)
theorem sumP_is (w : List Int) (h1 : 1 ≤ w.length) : ∀ (n : Nat) (f : List Int → Rat), sumQ ((allV (w.length - 1) n).map fun vs => (waysF w vs : Rat) * f vs) = sumP w n f
  | 0, f => by
    have : ((1 : Int) : Rat) = 1 := rfl
    simp [allV, sumQ, sumP, waysF, this]; grind
  | n + 1, f => by
    rw [allV, sumQ_range, show w.length - 1 + 1 = w.length by omega, sumP]
    refine sumTo_congr fun x _ => ?_
    rw [List.map_map, ← sumP_is w h1 n, ← sumQ_mul, List.map_map]
    congr 1
    refine List.map_congr_left fun vs _ => ?_
    simp only [Function.comp, waysF, Int.toNat_natCast, Rat.intCast_mul]
    grind
theorem sumP_add (w : List Int) : ∀ (n : Nat) (f g : List Int → Rat), sumP w n (fun vs => f vs + g vs) = sumP w n f + sumP w n g
  | 0, f, g => rfl
  | n + 1, f, g => by
    rw [sumP, sumP, sumP, ← sumTo_add]
    refine sumTo_congr fun x _ => ?_
    rw [sumP_add w n]; grind
theorem sumP_mul (w : List Int) (c : Rat) : ∀ (n : Nat) (f : List Int → Rat), sumP w n (fun vs => c * f vs) = c * sumP w n f
  | 0, f => rfl
  | n + 1, f => by
    rw [sumP, sumP, ← sumTo_mul]
    refine sumTo_congr fun x _ => ?_
    rw [sumP_mul w c n]; grind
theorem sumP_zero (w : List Int) : ∀ (n : Nat), sumP w n (fun _ => 0) = 0
  | 0 => rfl
  | n + 1 => by
    rw [sumP, sumTo_congr (g := fun _ => 0) (fun x _ => by rw [sumP_zero w n]; grind), sumTo_zero]
/-- Values that there are. -/
def InV (w : List Int) (vs : List Int) : Prop := ∀ v ∈ vs, 0 ≤ v ∧ v < (w.length : Int)
theorem InV.nil (w : List Int) : InV w [] := fun _ h => by cases h
theorem InV.cons {w vs : List Int} {x : Nat} (hx : x < w.length) (h : InV w vs) : InV w ((x : Int) :: vs) := by
  intro v hv
  rcases List.mem_cons.1 hv with rfl | hv
  · omega
  · exact h v hv
theorem sumP_le {w : List Int} (hw : validW w = true) : ∀ (n : Nat) {f g : List Int → Rat}, (∀ vs, InV w vs → vs.length = n → f vs ≤ g vs) → sumP w n f ≤ sumP w n g
  | 0, f, g, h => h [] (InV.nil w) rfl
  | n + 1, f, g, h => by
    rw [sumP, sumP]
    refine sumTo_le fun x hx => Rat.mul_le_mul_of_nonneg_left (sumP_le hw n fun vs hv hl => h _ (hv.cons hx) (by simp [hl])) (Rat.intCast_nonneg.2 (validW_nn hw x))
theorem sumP_congr {w : List Int} (hw : validW w = true) (n : Nat) {f g : List Int → Rat} (h : ∀ vs, InV w vs → vs.length = n → f vs = g vs) : sumP w n f = sumP w n g :=
  Rat.le_antisymm (sumP_le hw n fun vs h1 h2 => by rw [h vs h1 h2]; exact Rat.le_refl) (sumP_le hw n fun vs h1 h2 => by rw [h vs h1 h2]; exact Rat.le_refl)
/-- The first one's sum goes inside. -/
theorem sumP_swap (w : List Int) (c : Nat → Rat) : ∀ (n k : Nat) (f : Nat → List Int → Rat), sumTo k (fun x => c x * sumP w n (f x)) = sumP w n (fun vs => sumTo k fun x => c x * f x vs)
  | n, 0, f => by
    show (0 : Rat) = sumP w n (fun _ => 0)
    rw [sumP_zero]
  | n, k + 1, f => by
    rw [sumTo, sumP_swap w c n k f, ← sumP_mul, ← sumP_add]
    rfl

/-- What is brought in is virtual. -/
theorem edge_virt {w : List Int} (hw : validW w = true) : ∀ (n : Nat) (r : Int), 0 ≤ r → sumP w n (fun vs => (edgeR vs r : Rat)) = sumP w n (fun vs => ofWin (fun v => virtQ w v.toNat) vs r)
  | 0, r, _ => rfl
  | n + 1, r, hr => by
    have e1 : sumP w (n + 1) (fun vs => (edgeR vs r : Rat)) =
        sumTo w.length (fun x => (wt w x : Rat) * sumP w n (fun vs => if max r (maxL vs) ≤ (x : Int) then ((max r (maxL vs) : Int) : Rat) else 0)) + sumTo w.length (fun x => (wt w x : Rat) * sumP w n (fun vs => (edgeR vs (max r ((x : Int) + 1)) : Rat))) := by
      rw [sumP, ← sumTo_add]
      refine sumTo_congr fun x _ => ?_
      rw [← Rat.mul_add, ← sumP_add]
      congr 2
      funext vs
      rw [edge_split _ _ _ hr, Rat.intCast_add]
      split <;> rfl
    have e2 : sumP w (n + 1) (fun vs => ofWin (fun v => virtQ w v.toNat) vs r) =
        sumTo w.length (fun x => (wt w x : Rat) * sumP w n (fun vs => if max r (maxL vs) ≤ (x : Int) then virtQ w x else 0)) + sumTo w.length (fun x => (wt w x : Rat) * sumP w n (fun vs => ofWin (fun v => virtQ w v.toNat) vs (max r ((x : Int) + 1)))) := by
      rw [sumP, ← sumTo_add]
      refine sumTo_congr fun x _ => ?_
      rw [← Rat.mul_add, ← sumP_add]
      congr 2
      funext vs
      rw [ofWin_split _ _ _ _ hr]
      rfl
    rw [e1, e2]
    congr 1
    · rw [sumP_swap, sumP_swap]
      congr 1
      funext vs
      obtain ⟨t, ht⟩ : ∃ t : Nat, max r (maxL vs) = (t : Int) := ⟨(max r (maxL vs)).toNat, by omega⟩
      rw [ht]
      have a := wt_tele w t (t : Rat)
      have b := virt_tele hw t
      have c1 : sumTo w.length (fun x => (wt w x : Rat) * if (t : Int) ≤ (x : Int) then (((t : Int)) : Rat) else 0) = sumTo w.length (fun x => if t ≤ x then (wt w x : Rat) * (t : Rat) else 0) := by
        refine sumTo_congr fun x _ => ?_
        by_cases c : t ≤ x
        · rw [if_pos (by omega), if_pos c]; rfl
        · rw [if_neg (by omega), if_neg c]; grind
      have c2 : sumTo w.length (fun x => (wt w x : Rat) * if (t : Int) ≤ (x : Int) then virtQ w x else 0) = sumTo w.length (fun x => if t ≤ x then (wt w x : Rat) * virtQ w x else 0) := by
        refine sumTo_congr fun x _ => ?_
        by_cases c : t ≤ x
        · rw [if_pos (by omega), if_pos c]
        · rw [if_neg (by omega), if_neg c]; grind
      rw [c1, c2, a, b]
      unfold revW
      rw [Rat.intCast_mul]
      have : ((t : Int) : Rat) = (t : Rat) := rfl
      rw [this]; grind
    · refine sumTo_congr fun x _ => ?_
      rw [edge_virt hw n _ (by omega)]

/-- Ironed values bring in no less. -/
theorem virt_iron {w : List Int} (hw : validW w = true) : ∀ (n : Nat) (r : Int), 0 ≤ r → sumP w n (fun vs => ofWin (fun v => virtQ w v.toNat) vs r) ≤ sumP w n (fun vs => ofWin (fun v => ironAt w v.toNat) vs r)
  | 0, r, _ => Rat.le_refl
  | n + 1, r, hr => by
    have e : ∀ g : Int → Rat, sumP w (n + 1) (fun vs => ofWin g vs r) =
        sumTo w.length (fun x => (wt w x : Rat) * sumP w n (fun vs => if max r (maxL vs) ≤ (x : Int) then g x else 0)) + sumTo w.length (fun x => (wt w x : Rat) * sumP w n (fun vs => ofWin g vs (max r ((x : Int) + 1)))) := by
      intro g
      rw [sumP, ← sumTo_add]
      refine sumTo_congr fun x _ => ?_
      rw [← Rat.mul_add, ← sumP_add]
      congr 2
      funext vs
      rw [ofWin_split _ _ _ _ hr]
    rw [e, e]
    have p1 : sumTo w.length (fun x => (wt w x : Rat) * sumP w n (fun vs => ofWin (fun v => virtQ w v.toNat) vs (max r ((x : Int) + 1)))) ≤ sumTo w.length (fun x => (wt w x : Rat) * sumP w n (fun vs => ofWin (fun v => ironAt w v.toNat) vs (max r ((x : Int) + 1)))) :=
      sumTo_le fun x _ => Rat.mul_le_mul_of_nonneg_left (virt_iron hw n _ (by omega)) (Rat.intCast_nonneg.2 (validW_nn hw x))
    have p2 : sumTo w.length (fun x => (wt w x : Rat) * sumP w n (fun vs => if max r (maxL vs) ≤ (x : Int) then (fun v : Int => virtQ w v.toNat) x else 0)) ≤ sumTo w.length (fun x => (wt w x : Rat) * sumP w n (fun vs => if max r (maxL vs) ≤ (x : Int) then (fun v : Int => ironAt w v.toNat) x else 0)) := by
      rw [sumP_swap, sumP_swap]
      refine sumP_le hw n fun vs _ _ => ?_
      obtain ⟨t, ht⟩ : ∃ t : Nat, max r (maxL vs) = (t : Int) := ⟨(max r (maxL vs)).toNat, by omega⟩
      rw [ht]
      have b := virt_tele hw t
      have c := hull_ge hw t
      have c2 : ∀ g : Nat → Rat, sumTo w.length (fun x => (wt w x : Rat) * if (t : Int) ≤ (x : Int) then (fun v : Int => g v.toNat) x else 0) = sumTo w.length (fun x => if t ≤ x then (wt w x : Rat) * g x else 0) := by
        intro g
        refine sumTo_congr fun x _ => ?_
        by_cases c : t ≤ x
        · rw [if_pos (by omega), if_pos c]; simp
        · rw [if_neg (by omega), if_neg c]; grind
      rw [c2, c2, b]
      exact c
    grind

/-- The greatest one of f, or 0. -/
def topR (f : Int → Rat) : List Int → Rat
  | [] => 0
  | v :: vs => max (f v) (topR f vs)
theorem topR_nn (f : Int → Rat) : ∀ vs, 0 ≤ topR f vs
  | [] => Rat.le_refl
  | v :: vs => by have := topR_nn f vs; rw [topR]; grind
theorem topR_ge (f : Int → Rat) : ∀ (vs : List Int) (r : Int), ofWin f vs r ≤ topR f vs
  | [], r => Rat.le_refl
  | v :: vs, r => by
    rw [ofWin, topR]
    split
    · grind
    · have := topR_ge f vs (max r (v + 1)); grind
end Go.Proofs.Ytoipjhdnmiomeaa

/-
  Chapter 2, plain: who has the thing, and the least value with which it is had; fractions over one denominator.
-/
namespace Go.Proofs.Ytoipjhdnmiomeaa

theorem getD_some {xs : List Int} {j : Nat} {y : Int} (h : xs[j]? = some y) : xs.getD j 0 = y := by rw [List.getD_eq_getElem?_getD, h]; rfl
theorem some_getD {xs : List Int} {j : Nat} (h : j < xs.length) : xs[j]? = some (xs.getD j 0) := by rw [List.getD_eq_getElem?_getD, List.getElem?_eq_getElem h]; rfl

/-- With b in the place of the own value the bidder a has the thing. -/
theorem win_set {vs : List Int} {r b : Int} {a : Nat} (ha : a < vs.length) : atOf (vs.set a b) r = (a : Int) ↔ WinAt vs r a b := by
  have hl : (vs.set a b).length = vs.length := by rw [List.length_set]
  have hg := gr_lt (vs.set a b) (vs.set a b).length (by omega)
  have hmax := gr_max (vs.set a b) (vs.set a b).length
  have hfst := gr_first (vs.set a b) (vs.set a b).length
  have hb : (vs.set a b).getD a 0 = b := getD_some (by rw [List.getElem?_set_self ha])
  have ho : ∀ j, j ≠ a → (vs.set a b).getD j 0 = vs.getD j 0 := fun j hj => by rw [List.getD_eq_getElem?_getD, List.getD_eq_getElem?_getD, List.getElem?_set_ne (Ne.symm hj)]
  constructor
  · intro h
    unfold atOf at h
    split at h
    · omega
    · rename_i hn
      have e : gr (vs.set a b) (vs.set a b).length = a := by omega
      rw [e, hb] at hn
      rw [e] at hmax hfst
      refine ⟨by omega, fun j y hj hy => ?_, fun j y hj hy => ?_⟩
      · have := hfst j hj
        rw [hb, ho j (by omega), getD_some hy] at this
        exact this
      · have hjl := (List.getElem?_eq_some_iff.1 hy).1
        have := hmax j (by omega)
        rw [hb, ho j hj, getD_some hy] at this
        exact this
  · rintro ⟨h1, h2, h3⟩
    have e : gr (vs.set a b) (vs.set a b).length = a := by
      generalize hgg : gr (vs.set a b) (vs.set a b).length = g at *
      rcases Nat.lt_trichotomy g a with h | h | h
      · have k1 := hmax a (by omega)
        rw [hb, ho g (by omega)] at k1
        have k2 := h2 g _ h (some_getD (by omega))
        omega
      · exact h
      · have k1 := hfst a h
        rw [hb, ho g (by omega)] at k1
        have k2 := h3 g _ (by omega) (some_getD (by omega))
        omega
    unfold atOf
    rw [e, hb, if_neg (by omega)]

theorem set_same' {vs : List Int} {a : Nat} {x : Int} (hx : vs[a]? = some x) : vs.set a x = vs := by
  obtain ⟨ha, rfl⟩ := List.getElem?_eq_some_iff.1 hx
  exact List.set_getElem_self ha

/-- Someone has the thing, or no one. -/
theorem at_cases {vs : List Int} {r : Int} (h1 : 1 ≤ vs.length) (hr : 0 ≤ r) :
    (∃ (a : Nat) (x : Int), atOf vs r = (a : Int) ∧ vs[a]? = some x ∧ (∀ b : Int, atOf (vs.set a b) r = (a : Int) ↔ edgeR vs r ≤ b) ∧ edgeR vs r ≤ x ∧ ∀ g, ofWin g vs r = g x) ∨
    (atOf vs r = -1 ∧ edgeR vs r = 0 ∧ ∀ g, ofWin g vs r = 0) := by
  have hg := gr_lt vs vs.length h1
  have hw : ∀ (a : Nat) (x : Int), vs[a]? = some x → (atOf vs r = (a : Int) ↔ WinAt vs r a x) := fun a x hx => by
    have := win_set (b := x) (r := r) (List.getElem?_eq_some_iff.1 hx).1
    rwa [set_same' hx] at this
  by_cases h : vs.getD (gr vs vs.length) 0 < r
  · refine .inr ⟨atOf_none h, ?_⟩
    have hno : ∀ a x, vs[a]? = some x → ¬ WinAt vs r a x := fun a x hx hwin => by
      have := (hw a x hx).2 hwin
      rw [atOf_none h] at this
      omega
    exact ⟨(edge_no (fun _ => 0) vs r hr hno).1, fun g => (edge_no g vs r hr hno).2⟩
  · have hx := some_getD hg
    have ha := atOf_some h
    have hwin := (hw _ _ hx).1 ha
    refine .inl ⟨gr vs vs.length, _, ha, hx, fun b => (win_set hg).trans ((edge_yes (fun _ => 0) vs r _ _ hr hx hwin).1 b), ((edge_yes (fun _ => 0) vs r _ _ hr hx hwin).1 _).1 hwin, fun g => (edge_yes g vs r _ _ hr hx hwin).2⟩

theorem findF_thr {p : Nat → Bool} {t : Nat} (h : ∀ b, p b = decide (t ≤ b)) : ∀ n k, k ≤ t → t < k + n → findF p n k = some t
  | 0, k, h1, h2 => by omega
  | n + 1, k, h1, h2 => by
    rcases Nat.eq_or_lt_of_le h1 with rfl | h3
    · exact findF_yes (by rw [h]; simp)
    · rw [findF_no (by rw [h]; simp; omega)]
      exact findF_thr h n (k + 1) (by omega) (by omega)

theorem least_edge {vs : List Int} {r : Int} {a : Nat} (h : ∀ b : Int, atOf (vs.set a b) r = (a : Int) ↔ edgeR vs r ≤ b) (h0 : 0 ≤ edgeR vs r) (h1 : edgeR vs r ≤ 30) : leastF vs a r = some (edgeR vs r).toNat := by
  unfold leastF
  refine findF_thr (fun b => ?_) 31 0 (by omega) (by omega)
  unfold winB
  rw [Bool.eq_iff_iff, decide_eq_true_iff, decide_eq_true_iff, h]
  omega

/-- The product of weights is small. -/
theorem ways_bd {w : List Int} (hw : validW w = true) : ∀ (vs : List Int), InV w vs → vs.length ≤ 3 → 1 ≤ waysF w vs ∧ waysF w vs ≤ 216 := by
  have one : ∀ v : Int, 0 ≤ v ∧ v < (w.length : Int) → 1 ≤ wt w v.toNat ∧ wt w v.toNat ≤ 6 := fun v hv => ⟨validW_lo hw (by omega), validW_hi hw _⟩
  have step : ∀ (a b M : Int), 1 ≤ a → a ≤ 6 → 1 ≤ b → b ≤ M → 0 ≤ M → 1 ≤ a * b ∧ a * b ≤ 6 * M := fun a b M h1 h2 h3 h4 h5 => ⟨by have := Int.mul_le_mul h1 h3 (by omega) (by omega); omega, Int.mul_le_mul h2 h4 (by omega) (by omega)⟩
  intro vs hv hl
  match vs, hl with
  | [], _ => simp [waysF]
  | [x], _ =>
    have h1 := one x (hv x (by simp))
    simp only [waysF]; omega
  | [x, y], _ =>
    have h1 := one x (hv x (by simp))
    have h2 := one y (hv y (by simp))
    have := step _ _ 6 h1.1 h1.2 h2.1 h2.2 (by omega)
    simp only [waysF, Int.mul_one]; omega
  | [x, y, z], _ =>
    have h1 := one x (hv x (by simp))
    have h2 := one y (hv y (by simp))
    have h3 := one z (hv z (by simp))
    have k1 := step _ _ 6 h2.1 h2.2 h3.1 h3.2 (by omega)
    have := step _ _ 36 h1.1 h1.2 k1.1 (by omega) (by omega)
    simp only [waysF, Int.mul_one]; omega
  | _ :: _ :: _ :: _ :: _, hl => simp at hl

theorem fq_scale {z d k : Int} (hd : 1 ≤ d) (hk : 1 ≤ k) : fq (z * k) (d * k) = fq z d := by
  unfold fq
  have h1 : (d : Rat) ≠ 0 := by have : (0 : Rat) < (d : Rat) := Rat.intCast_pos.2 (by omega); grind
  have h2 : (k : Rat) ≠ 0 := by have : (0 : Rat) < (k : Rat) := Rat.intCast_pos.2 (by omega); grind
  have h3 : ((d * k : Int) : Rat) ≠ 0 := by
    rw [Rat.intCast_mul]
    intro h
    rcases Rat.mul_eq_zero.1 h with h | h
    · exact h1 h
    · exact h2 h
  refine div_eq h3 ?_
  rw [Rat.intCast_mul, Rat.intCast_mul, ← Rat.mul_assoc, Rat.div_mul_cancel h1]

/-- A fraction over D, of a number up to B. -/
def Sc (D B : Int) (q : Rat) : Prop := ∃ z : Int, q = fq z D ∧ -B ≤ z ∧ z ≤ B
theorem Sc.zero {D : Int} : Sc D 0 0 := ⟨0, by unfold fq; rw [Rat.div_def]; simp, by omega, by omega⟩
theorem Sc.mono {D B B' : Int} {q : Rat} (h : Sc D B q) (hb : B ≤ B') : Sc D B' q := by
  obtain ⟨z, h1, h2, h3⟩ := h
  exact ⟨z, h1, by omega, by omega⟩
theorem Sc.add {D B B' : Int} {p q : Rat} (h : Sc D B p) (h' : Sc D B' q) : Sc D (B + B') (p + q) := by
  obtain ⟨z, h1, h2, h3⟩ := h
  obtain ⟨y, k1, k2, k3⟩ := h'
  refine ⟨z + y, ?_, by omega, by omega⟩
  rw [h1, k1]
  unfold fq
  rw [Rat.intCast_add, Rat.div_def, Rat.div_def, Rat.div_def, Rat.add_mul]
theorem Sc.mul {D B k K : Int} {q : Rat} (h : Sc D B q) (h0 : 0 ≤ k) (hk : k ≤ K) (hB : 0 ≤ B) : Sc D (K * B) ((k : Rat) * q) := by
  obtain ⟨z, h1, h2, h3⟩ := h
  have e : k * B ≤ K * B := Int.mul_le_mul_of_nonneg_right hk hB
  have e1 := Int.mul_le_mul_of_nonneg_left h3 h0
  have e2 := Int.mul_le_mul_of_nonneg_left h2 h0
  rw [Int.mul_neg] at e2
  refine ⟨k * z, ?_, by omega, by omega⟩
  rw [h1]
  unfold fq
  rw [Rat.intCast_mul, Rat.div_def, Rat.div_def, Rat.mul_assoc]
theorem Sc.bd {D B n d : Int} {q : Rat} (h : Sc D B q) (hD : 1 ≤ D) (hf : FrIs q n d) : -B ≤ n ∧ n ≤ B ∧ 1 ≤ d ∧ d ≤ D := by
  obtain ⟨z, h1, h2, h3⟩ := h
  rw [h1] at hf
  have := fq_le hD hf
  omega

theorem virt_sc {w : List Int} (hw : validW w = true) {v : Nat} (hv : v < w.length) : Sc 60 2160 (virtQ w v) := by
  have h1 := validW_lo hw hv
  have h2 := validW_hi hw v
  have h6 := validW_len hw
  have t0 := tailW_nn hw (v + 1)
  have t1 := tailW_36 hw (v + 1)
  have m0 : 0 ≤ (v : Int) * wt w v := Int.mul_nonneg (by omega) (by omega)
  have m1 := Int.mul_le_mul (show (v : Int) ≤ 5 by omega) h2 (by omega) (by omega)
  have e : virtQ w v = fq (v * wt w v - tailW w (v + 1)) (wt w v) := rfl
  have u0 : -36 ≤ (v : Int) * wt w v - tailW w (v + 1) ∧ (v : Int) * wt w v - tailW w (v + 1) ≤ 36 := by omega
  rw [e]
  generalize (v : Int) * wt w v - tailW w (v + 1) = u at *
  generalize wt w v = x at *
  have hx : x = 1 ∨ x = 2 ∨ x = 3 ∨ x = 4 ∨ x = 5 ∨ x = 6 := by omega
  rcases hx with rfl | rfl | rfl | rfl | rfl | rfl
  · exact ⟨u * 60, by rw [← fq_scale (k := 60) (by decide) (by decide)]; rfl, by omega, by omega⟩
  · exact ⟨u * 30, by rw [← fq_scale (k := 30) (by decide) (by decide)]; rfl, by omega, by omega⟩
  · exact ⟨u * 20, by rw [← fq_scale (k := 20) (by decide) (by decide)]; rfl, by omega, by omega⟩
  · exact ⟨u * 15, by rw [← fq_scale (k := 15) (by decide) (by decide)]; rfl, by omega, by omega⟩
  · exact ⟨u * 12, by rw [← fq_scale (k := 12) (by decide) (by decide)]; rfl, by omega, by omega⟩
  · exact ⟨u * 10, by rw [← fq_scale (k := 10) (by decide) (by decide)]; rfl, by omega, by omega⟩

theorem six_pow (k : Nat) (h : 1 ≤ k) : 6 * (k : Int) ≤ 6 ^ k := by
  induction k with
  | zero => omega
  | succ k ih =>
    rcases Nat.eq_zero_or_pos k with rfl | h1
    · decide
    · have := ih h1
      rw [Int.pow_succ]; omega
theorem rev_bd {w : List Int} (hw : validW w = true) {v : Nat} (hv : v ≤ 6) : 0 ≤ revW w v ∧ revW w v ≤ 216 := by
  have t0 := tailW_nn hw v
  have t1 := tailW_36 hw v
  unfold revW
  have m1 := Int.mul_le_mul (show (v : Int) ≤ 6 by omega) t1 (by omega) (by omega)
  exact ⟨Int.mul_nonneg (by omega) t0, by omega⟩

theorem iron_scD {w : List Int} (hw : validW w = true) : ∀ (f h : Nat), h ≤ f → h ≤ w.length → 1 ≤ ironD w f h ∧ ironD w f h ≤ 6 ^ h ∧ ∀ v, v < h → Sc (ironD w f h) (216 * ironD w f h) ((ironL w f h).getD v 0)
  | 0, h, h1, _ => by
    obtain rfl : h = 0 := by omega
    exact ⟨by simp [ironD], by simp [ironD], fun v hv => by omega⟩
  | f + 1, h, h1, hl => by
    rcases Nat.eq_zero_or_pos h with rfl | hp
    · exact ⟨by simp [ironD], by simp [ironD], fun v hv => by omega⟩
    · obtain ⟨a1, a2, _, _⟩ := steep_is w hp
      have hlen := ironL_len w f (steep w h).1 (by omega)
      obtain ⟨i1, i2, i3⟩ := iron_scD hw f _ (show (steep w h).1 ≤ f by omega) (by omega)
      have g0 := tailW_lt hw a1 hl
      have g1 := tailW_gap hw (Nat.le_of_lt a1)
      have g2 := six_pow (h - (steep w h).1) (by omega)
      have e : ironD w (f + 1) h = (tailW w (steep w h).1 - tailW w h) * ironD w f (steep w h).1 := by rw [ironD, if_neg (by omega)]
      have e6 : (6 : Int) ^ h = 6 ^ (h - (steep w h).1) * 6 ^ (steep w h).1 := by rw [← Int.pow_add]; congr 1; omega
      have h6 := validW_len hw
      obtain ⟨b0, b1⟩ := rev_bd hw (show (steep w h).1 ≤ 6 by omega)
      obtain ⟨b2, b3⟩ := rev_bd hw (show h ≤ 6 by omega)
      have a2' : (steep w h).2 = fq (revW w (steep w h).1 - revW w h) (tailW w (steep w h).1 - tailW w h) := a2
      rw [e, e6]
      rw [ironL_at hp]
      generalize (steep w h).2 = s at *
      generalize (steep w h).1 = a at *
      generalize ironD w f a = D at *
      generalize hL : tailW w a - tailW w h = L at *
      generalize hR : revW w a - revW w h = R at *
      have hL1 : 1 ≤ L := by omega
      refine ⟨?_, ?_, fun v hv => ?_⟩
      · have := Int.mul_le_mul hL1 i1 (by omega) (by omega); omega
      · exact Int.mul_le_mul (by omega) i2 (by omega) (by omega)
      · simp only [List.getD, List.getElem?_append, List.getElem?_replicate, hlen]
        by_cases c : v < a
        · rw [if_pos c]
          obtain ⟨z, z1, z2, z3⟩ := i3 v c
          simp only [List.getD] at z1
          rw [z1]
          have m1 := Int.mul_le_mul_of_nonneg_left z3 (show 0 ≤ L by omega)
          have m2 := Int.mul_le_mul_of_nonneg_left z2 (show 0 ≤ L by omega)
          rw [Int.mul_neg] at m2
          have m3 : L * (216 * D) = 216 * (L * D) := by rw [← Int.mul_assoc, Int.mul_comm L 216, Int.mul_assoc]
          refine ⟨z * L, by rw [Int.mul_comm L D, fq_scale (by omega) hL1], ?_, ?_⟩ <;> (rw [Int.mul_comm z L]; omega)
        · rw [if_neg c, if_pos (by omega)]
          show Sc _ _ s
          rw [a2']
          have m1 := Int.mul_le_mul_of_nonneg_right (show R ≤ 216 by omega) (show 0 ≤ D by omega)
          have m2 := Int.mul_le_mul_of_nonneg_right (show -216 ≤ R by omega) (show 0 ≤ D by omega)
          have m3 := Int.mul_le_mul_of_nonneg_right hL1 (show 0 ≤ D by omega)
          refine ⟨R * D, by rw [fq_scale hL1 i1], ?_, ?_⟩ <;> omega

/-- The ironed values lie over one denominator. -/
theorem iron_sc {w : List Int} (hw : validW w = true) : ∃ D : Int, 1 ≤ D ∧ D ≤ 46656 ∧ ∀ v, v < w.length → Sc D (216 * D) (ironAt w v) := by
  obtain ⟨h1, h2, h3⟩ := iron_scD hw w.length w.length (Nat.le_refl _) (Nat.le_refl _)
  refine ⟨ironD w w.length w.length, h1, Int.le_trans h2 ?_, h3⟩
  have h6 := validW_len hw
  have : w.length = 0 ∨ w.length = 1 ∨ w.length = 2 ∨ w.length = 3 ∨ w.length = 4 ∨ w.length = 5 ∨ w.length = 6 := by omega
  rcases this with h | h | h | h | h | h | h <;> rw [h] <;> decide
end Go.Proofs.Ytoipjhdnmiomeaa

/-
  Chapter 2, the model: the product of weights, valid crowds, the least value with which the thing is had; sums over all values.
-/
namespace Go.Proofs.Ytoipjhdnmiomeaa
open Go.RowKit

theorem below_dM {a w : World} {B n : Nat} (h : Below B a w) : Below B a (w.drewN n) := ⟨h.os, h.tape, h.output, h.size, h.block⟩

/-- What is still to come. -/
def restOf {α : Type} (t : List Int → α) (top : Nat) : Option (List Int) → List α
  | none => []
  | some ys => (allF top ys).map t
theorem restOf_next {α : Type} {t : List Int → α} {top n : Nat} {ys : List Int} (h : Fit top n ys) : restOf t top (some ys) = t ys :: restOf t top (nextF ys top) := by
  cases hn : nextF ys top with
  | none => simp [restOf, allF_last hn]
  | some zs => simp [restOf, allF_next (by omega) h.2 hn]

theorem Fit.inV {xs : List Int} {n : Nat} {ys : List Int} (h : Fit (xs.length - 1) n ys) (h1 : 1 ≤ xs.length) : InV xs ys := fun v hv => by have := h.2 v hv; omega
theorem InV.at_ {xs ys : List Int} (h : InV xs ys) {k : Nat} {x : Int} (hx : ys[k]? = some x) : ∃ v : Nat, x = (v : Int) ∧ v < xs.length := by
  have := h x (List.mem_of_getElem? hx)
  exact ⟨x.toNat, by omega, by omega⟩
theorem InV.take {xs ys : List Int} (h : InV xs ys) (k : Nat) : InV xs (ys.take k) := fun v hv => h v (List.mem_of_mem_take hv)
theorem ways_step {xs ys : List Int} {k v : Nat} (hx : ys[k]? = some (v : Int)) : waysF xs (ys.take (k + 1)) = waysF xs (ys.take k) * wt xs v := by
  rw [List.take_add_one, hx]
  exact waysF_snoc xs _ _
theorem wt_at {xs : List Int} {v : Nat} (h : v < xs.length) : xs[v]? = some (wt xs v) := by
  unfold wt
  rw [List.getD_eq_getElem?_getD, List.getElem?_eq_getElem h]; rfl

set_option maxHeartbeats 1000000 in
theorem weightOf_any (b off c : Nat) (xs : List Int) (B : Option Addr) (d : Nat) (vs : List Int) (w : World) (h : Rd w (some ⟨b, off, none⟩) c xs) (h2 : Rd w B d vs) (hv : validW xs = true) (hi : InV xs vs) (hl3 : vs.length ≤ 3) :
    Calls Try.prog 70 #[.slice (some ⟨b, off, none⟩) xs.length c, .slice B vs.length d] w fun e w' => e = .returned (.int .i64 (waysF xs vs)) ∧ Below w.heap.size w w' := by
  have HV := Lib.hid hv
  have HI := Lib.hid hi
  clear hv hi
  go_enter Try.func70, Try.ntmps70
  go_wp2
  go_loopw [5, 6] (fun s i wr => ∃ (k : Nat) (S : Int), k ≤ vs.length ∧ i = .int .i64 k ∧ s = .int .i64 S ∧ Below w.heap.size w wr ∧ Hid (S = waysF xs (vs.take k))) (fun _ i _ => vs.length - (intOf i).toNat)
  case atStart => exact ⟨0, 1, Nat.zero_le _, rfl, rfl, Below.refl _ _, Lib.hid rfl⟩
  case round =>
    obtain ⟨k, S, hk, rfl, rfl, hb, HS⟩ := hrel
    by_cases hlt : k < vs.length
    · obtain ⟨b2, off2, x, rfl, hb2, hx, hc2⟩ := (h2.below hb).at_ hlt
      obtain ⟨v, rfl, hvl⟩ := HI.out.at_ hx.out
      have hst := ways_step (xs := xs) hx.out
      obtain ⟨m1, m2⟩ := ways_bd HV.out _ (HI.out.take (k + 1)) (by simp; omega)
      obtain ⟨m3, m4⟩ := ways_bd HV.out _ (HI.out.take k) (by simp; omega)
      have hc := (h.below hb).cell (wt_at hvl)
      have hw1 := validW_lo HV.out hvl
      have hw2 := validW_hi HV.out v
      rw [hst] at m1 m2
      rw [← HS.out] at m1 m2 m3 m4
      have HN := Lib.hid (show S * wt xs v = waysF xs (vs.take (k + 1)) by rw [hst, HS.out])
      generalize wt xs v = y at *
      have hvi : (v : Int) < (xs.length : Int) := by omega
      clear hx hst
      go_wp2
      go_roundw
      case rel => exact ⟨k + 1, _, by omega, by go_num, rfl, hb, HN⟩
      case measure => simp [intOf] <;> omega
    · obtain rfl : k = vs.length := by omega
      have HE := Lib.hid (show S = waysF xs vs by rw [HS.out, List.take_length])
      go_wp2
      go_ret
      exact ⟨by rw [← HE.out]; rfl, hb⟩

/-- A crowd is valid. -/
def crowdB (xs : List Int) (n r : Int) : Bool := vW xs && inR n 1 3 && inR r 0 6

set_option maxHeartbeats 1000000 in
theorem validCrowd_any (A : Option Addr) (c : Nat) (xs : List Int) (n r : Int) (w : World) (h : Rd w A c xs) (hl : xs.length ≤ 1048576) :
    Calls Try.prog 67 #[.slice A xs.length c, .int .i64 n, .int .i64 r] w fun e w' => e = .returned (.bool (crowdB xs n r)) ∧ w = w' := by
  have HV := Lib.hid (validWeights_any A c xs w h (by omega))
  have HN := Lib.hid (inRange_any n 1 3 w)
  have HR := Lib.hid (inRange_any r 0 6 w)
  have HE := Lib.hid (show crowdB xs n r = (vW xs && inR n 1 3 && inR r 0 6) from rfl)
  cases hv : vW xs with
  | false =>
    rw [hv] at HV HE
    clear hv
    go_enter Try.func67, Try.ntmps67
    go_wp2_with (refine HV.out.mono ?_; rintro e w1 ⟨rfl, rfl⟩)
    go_ret
    exact ⟨by rw [HE.out]; rfl, rfl⟩
  | true =>
    rw [hv] at HV HE
    clear hv
    cases hn : inR n 1 3 with
    | false =>
      rw [hn] at HN HE
      clear hn
      go_enter Try.func67, Try.ntmps67
      go_wp2_with fail
      refine HV.out.mono ?_
      rintro e w1 ⟨rfl, rfl⟩
      go_wp2_with fail
      refine HN.out.mono ?_
      rintro e w1 ⟨rfl, rfl⟩
      go_wp2
      go_ret
      exact ⟨by rw [HE.out]; rfl, rfl⟩
    | true =>
      rw [hn] at HN HE
      clear hn
      go_enter Try.func67, Try.ntmps67
      go_wp2_with fail
      refine HV.out.mono ?_
      rintro e w1 ⟨rfl, rfl⟩
      go_wp2_with fail
      refine HN.out.mono ?_
      rintro e w1 ⟨rfl, rfl⟩
      go_wp2_with fail
      refine HR.out.mono ?_
      rintro e w1 ⟨rfl, rfl⟩
      go_wp2
      go_ret
      exact ⟨by rw [HE.out]; rfl, rfl⟩

theorem first_is : KindIs ⟨#[102, 105, 114, 115, 116]⟩ 1 := .inl ⟨rfl, rfl⟩

set_option maxHeartbeats 1000000 in
theorem edgePrice_any (A : Option Addr) (c : Nat) (vs : List Int) (a : Nat) (r E : Int) (w : World) (h : Rd w A c vs) (hl : vs.length ≤ 1048576) (ha : a < vs.length) (hr0 : 0 ≤ r) (hE : E ≤ 30)
    (hw : ∀ b : Int, atOf (vs.set a b) r = (a : Int) ↔ E ≤ b) :
    Calls Try.prog 71 #[.slice A vs.length c, .int .i64 a, .int .i64 r] w fun e w' => e = .returned (.int .i64 E) ∧ Below w.heap.size w w' := by
  have hre : r ≤ E := ((win_set ha).1 ((hw E).2 (by omega))).1
  have HW := Lib.hid hw
  have hl2 : vs.length ≤ 1099511627776 := by omega
  clear hw
  go_enter Try.func71, Try.ntmps71
  go_wp2
  go_loopw [7] (fun i wr => ∃ b : Int, r ≤ b ∧ b ≤ E ∧ i = .int .i64 b ∧ Below w.heap.size w wr) (fun i _ => (E - intOf i).toNat)
  case atStart => exact ⟨r, by omega, hre, rfl, Below.refl _ _⟩
  case round =>
    obtain ⟨b, hb0, hb1, rfl, hb⟩ := hrel
    obtain ⟨ys, hY⟩ : ∃ ys, ys = vs.set a b := ⟨_, rfl⟩
    obtain ⟨q, hQ⟩ : ∃ q, q = atOf ys r := ⟨_, rfl⟩
    have hyl : ys.length = vs.length := by rw [hY, List.length_set]
    have h1 : 1 ≤ ys.length := by omega
    have hyl2 : ys.length ≤ 1048576 := by omega
    have HY := Lib.hid hY
    have HQ := Lib.hid hQ
    have hqa : q = (a : Int) ↔ E ≤ b := by rw [hQ, hY]; exact HW.out b
    clear hyl hY hQ
    go_wp2_with fail
    refine (withBid_is A c vs a b _ HY.out (h.below hb) ha hl2).mono ?_
    rintro e w2 ⟨g, c2, rfl, o2, b2⟩
    go_wp2_with fail
    refine (sale_is _ 1 _ _ ys r _ HQ.out first_is o2.rd h1 hyl2).mono ?_
    rintro e w3 ⟨g3, c3, rfl, o3, b3⟩
    have B3 := below_up (below_up hb b2) b3
    clear o2 o3 b2 b3
    by_cases hbe : b < E
    · have hne : (q == (a : Int)) = false := beq_eq_false_iff_ne.2 (fun e => by have := hqa.1 e; omega)
      clear hqa
      go_wp2
      go_roundw
      case rel => exact ⟨b + 1, by omega, by omega, by go_num, B3⟩
      case measure => simp [intOf] <;> omega
    · obtain rfl : b = E := by omega
      have hne : (q == (a : Int)) = true := beq_iff_eq.2 (hqa.2 (by omega))
      clear hqa hbe
      go_wp2
      go_ret
      exact ⟨rfl, B3⟩
end Go.Proofs.Ytoipjhdnmiomeaa

/-
  Chapter 2, the model: the contract of EdgeRevenue.
-/
namespace Go.Proofs.Ytoipjhdnmiomeaa
open Go.RowKit

/-- What values bring in, with their weights. -/
def edgeT (xs : List Int) (r : Int) (vs : List Int) : Int := waysF xs vs * edgeR vs r
theorem edge_fit {xs vs : List Int} {n : Nat} {r : Int} (hv : vW xs = true) (hf : Fit (xs.length - 1) n vs) (hn1 : 1 ≤ n) (hn : n ≤ 3) (hr : 0 ≤ r) : 0 ≤ edgeR vs r ∧ edgeR vs r ≤ 6 := by
  have h0 := edge_nn vs r hr
  obtain ⟨l1, l2⟩ := vW_le hv
  have hl := hf.1
  rcases at_cases (vs := vs) (by omega) hr with ⟨a, x, _, hx, _, hle, _⟩ | ⟨_, he, _⟩
  · obtain ⟨v, rfl, hvl⟩ := (hf.inV l1).at_ hx
    omega
  · omega
theorem edgeT_bd {xs vs : List Int} {n : Nat} {r : Int} (hv : vW xs = true) (hf : Fit (xs.length - 1) n vs) (hn1 : 1 ≤ n) (hn : n ≤ 3) (hr : 0 ≤ r) : 0 ≤ edgeT xs r vs ∧ edgeT xs r vs ≤ 1296 := by
  obtain ⟨e0, e1⟩ := edge_fit hv hf hn1 hn hr
  obtain ⟨w0, w1⟩ := ways_bd (vW_valid hv) vs (hf.inV (vW_le hv).1) (by have := hf.1; omega)
  unfold edgeT
  exact ⟨Int.mul_nonneg (by omega) e0, by have := Int.mul_le_mul w1 e1 e0 (by omega); omega⟩

def edgeV (xs : List Int) (n : Nat) (r : Int) : Int := (restOf (edgeT xs r) (xs.length - 1) (some (List.replicate n 0))).sum
/-- What EdgeRevenue answers. -/
def edgeO (xs : List Int) (n r : Int) : Int := if crowdB xs n r = true then edgeV xs n.toNat r else -1

/-- What has been summed, of so many. -/
def SumTo (xs : List Int) (r : Int) (n : Nat) (S : Int) (k : Nat) (s : Option (List Int)) : Prop :=
  edgeV xs n r = S + (restOf (edgeT xs r) (xs.length - 1) s).sum ∧ 0 ≤ S ∧ S ≤ 1296 * (k : Int) ∧ k ≤ 1000 ∧ ∀ ys, s = some ys → k + (leftF ys (xs.length - 1 : Nat) + 1) ≤ 1000
theorem left_1000 {n top : Nat} (hn : n ≤ 3) (ht : top ≤ 5) : leftF (List.replicate n 0) top + 1 ≤ 1000 := by
  have hn : n = 0 ∨ n = 1 ∨ n = 2 ∨ n = 3 := by omega
  have ht : top = 0 ∨ top = 1 ∨ top = 2 ∨ top = 3 ∨ top = 4 ∨ top = 5 := by omega
  rcases hn with rfl | rfl | rfl | rfl <;> rcases ht with rfl | rfl | rfl | rfl | rfl | rfl <;> decide +kernel
theorem SumTo.start (xs : List Int) (r : Int) {n : Nat} (hn : n ≤ 3) (hl : xs.length ≤ 6) : SumTo xs r n 0 0 (some (List.replicate n 0)) :=
  ⟨by unfold edgeV; omega, by omega, by omega, by omega, fun ys h => by injection h with h; subst h; have := left_1000 (n := n) (top := xs.length - 1) hn (by omega); omega⟩
theorem SumTo.step {xs : List Int} {r : Int} {n : Nat} {S S' : Int} {k : Nat} {ys : List Int} (h : SumTo xs r n S k (some ys)) (hv : vW xs = true) (hf : Fit (xs.length - 1) n ys) (hn1 : 1 ≤ n) (hn : n ≤ 3) (hr : 0 ≤ r) (hS : S' = S + edgeT xs r ys) :
    SumTo xs r n S' (k + 1) (nextF ys (xs.length - 1 : Nat)) := by
  obtain ⟨h1, h2, h3, h4, h5⟩ := h
  obtain ⟨t0, t1⟩ := edgeT_bd hv hf hn1 hn hr
  have h6 := h5 ys rfl
  rw [restOf_next hf, List.sum_cons] at h1
  refine ⟨by omega, by omega, by omega, by omega, fun zs hz => ?_⟩
  have := (hf.next hz).2
  omega

set_option maxRecDepth 100000 in
set_option maxHeartbeats 2000000 in
theorem SEdgeRevenue_yes (b off c : Nat) (xs : List Int) (n : Nat) (r : Int) (w : World) (h : Rd w (some ⟨b, off, none⟩) c xs) (hv : vW xs = true) (hn1 : 1 ≤ n) (hn : n ≤ 3) (hr0 : 0 ≤ r) (hr1 : r ≤ 6) :
    Calls Try.prog 34 #[.slice (some ⟨b, off, none⟩) xs.length c, .int .i64 n, .int .i64 r] w fun e w' => e = .returned (.int .i64 (edgeV xs n r)) ∧ Below w.heap.size w w' := by
  obtain ⟨l1, l2⟩ := vW_le hv
  have hl : xs.length ≤ 1048576 := by omega
  obtain ⟨top, ht⟩ : ∃ top, top = xs.length - 1 := ⟨_, rfl⟩
  have HC := Lib.hid (show crowdB xs n r = true by
    unfold crowdB
    rw [hv, inR_true.2 ⟨by omega, by omega⟩, inR_true.2 ⟨by omega, by omega⟩]; rfl)
  have HV := Lib.hid hv
  have HT := Lib.hid ht
  have ht5 : top ≤ 5 := by omega
  have htx : (xs.length : Int) - 1 = (top : Int) := by omega
  have htw : IntKind.i64.wrap (top : Int) = (top : Int) := IntWalk.i64_in _ (by omega)
  clear hv ht
  go_enter Try.func34, Try.ntmps34
  go_wp2_with fail
  refine (validCrowd_any _ _ _ _ _ _ h hl).mono ?_
  rw [HC.out]
  rintro e w1 ⟨rfl, rfl⟩
  go_wp2_with (at_make; refine wpList_make_ints rfl _ _ rfl w.heap.size n rfl rfl (by omega) (Nat.le_refl _) ?_; intro w0 ho hb)
  have HN1 := Lib.hid hn1
  have HH := Lib.hid h
  clear hn1 h
  go_loopw [7, 8] (fun s bd wr => ∃ (S : Int) (k : Nat), s = .int .i64 S ∧ Below w.heap.size w wr ∧
      ((∃ g cg ys, bd = .slice (some ⟨g, 0, none⟩) ys.length cg ∧ Own wr w.heap.size (some ⟨g, 0, none⟩) cg ys ∧ Hid (Fit top n ys) ∧ Hid (SumTo xs r n S k (some ys))) ∨
       (bd = .slice none 0 0 ∧ Hid (SumTo xs r n S k none))))
    (fun _ bd wr => roundsLeft top wr bd)
  case atStart =>
    exact ⟨0, 0, rfl, hb, .inl ⟨_, _, List.replicate n 0, by simp, ho, Lib.hid (Fit.zero top n), Lib.hid (SumTo.start xs r hn l2)⟩⟩
  case round =>
    obtain ⟨S, k, rfl, hb, ⟨g, cg, ys, rfl, hO, HF, HE⟩ | ⟨rfl, HE⟩⟩ := hrel
    · have hn1 := HN1.out
      have hyl := HF.out.1
      have hy1 : 1 ≤ ys.length := by omega
      have hy2 : ys.length ≤ 1048576 := by omega
      have hy3 : ys.length ≤ 3 := by omega
      have hpos : (0 : Int) < ys.length := by omega
      have HL := Lib.hid (roundsLeft_own (top := top) hO hy1)
      have hcm := HH.out.below hb
      have HF' : Hid (Fit (xs.length - 1) n ys) := Lib.hid (by rw [← HT.out]; exact HF.out)
      have HIV := Lib.hid (HF'.out.inV l1)
      obtain ⟨w0', w1'⟩ := ways_bd (vW_valid HV.out) ys HIV.out hy3
      obtain ⟨e0, e1⟩ := edge_fit HV.out HF'.out hn1 hn hr0
      have hS := HE.out
      have s0 : 0 ≤ S := hS.2.1
      have s1 : S ≤ 1296000 := by have := hS.2.2.1; have := hS.2.2.2.1; omega
      obtain ⟨q, hq⟩ : ∃ q, q = atOf ys r := ⟨_, rfl⟩
      have HQ := Lib.hid hq
      have HW := Lib.hid (fun w h h2 => weightOf_any b off c xs (some ⟨g, 0, none⟩) cg ys w h h2 (vW_valid HV.out) HIV.out hy3)
      have HX := Lib.hid (fun w (h : Rd w (some ⟨g, 0, none⟩) cg ys) => next_any (some ⟨g, 0, none⟩) cg ys top w h hy2 (by omega) (by omega) HF.out.2)
      -- what comes behind the sum
      have fin : ∀ S', S' = S + edgeT xs r ys → Hid (SumTo xs r n S' (k + 1) (nextF ys (top : Nat))) := fun S' hS' => Lib.hid (by have := hS.step HV.out HF'.out hn1 hn hr0 hS'; rw [← HT.out] at this; exact this)
      have FIN := Lib.hid fin
      clear hyl hS fin hn1
      rcases at_cases (vs := ys) hy1 hr0 with ⟨a, x, ha, hx, hw, hle, _⟩ | ⟨ha, he, _⟩
      · have hq2 : q = (a : Int) := by rw [hq, ha]
        have hal := (List.getElem?_eq_some_iff.1 hx).1
        have HEP := Lib.hid (fun w h => edgePrice_any (some ⟨g, 0, none⟩) cg ys a r (edgeR ys r) w h hy2 hal hr0 (by omega) hw)
        have HT2 := Lib.hid (show S + waysF xs ys * edgeR ys r = S + edgeT xs r ys from rfl)
        have m0 := Int.mul_nonneg (show 0 ≤ waysF xs ys by omega) e0
        have m1 := Int.mul_le_mul w1' e1 e0 (by omega)
        rw [hq2] at HQ
        generalize waysF xs ys = W at *
        generalize edgeR ys r = E at *
        have hge : decide ((0 : Int) ≤ (a : Int)) = true := by simp
        clear hw hx ha hq hq2 hle
        go_wp2_with fail
        refine (sale_is _ 1 _ _ ys r _ HQ.out first_is hO.rd hy1 hy2).mono ?_
        rintro e w2 ⟨g2, c2, rfl, _, b2⟩
        have o2 := hO.below b2
        have B2 := below_up hb b2
        go_wp2_with fail
        refine (HW.out _ (hcm.below b2) o2.rd).mono ?_
        rintro e w3 ⟨rfl, b3⟩
        have o3 := o2.below b3
        have B3 := below_up B2 b3
        go_wp2_with fail
        refine (HEP.out _ o3.rd).mono ?_
        rintro e w4 ⟨rfl, b4⟩
        have o4 := o3.below b4
        have B4 := below_up B3 b4
        have FN := FIN.out _ HT2.out
        go_wp2_with fail
        refine (HX.out _ o4.rd).mono ?_
        rintro e w5 (⟨zs, g5, c5, HN, rfl, o5, b5⟩ | ⟨HN, rfl, b5⟩)
        · obtain ⟨hf5, hl5⟩ := HF.out.next HN
          have HE5 := FN.out
          rw [HN] at HE5
          have HE6 := Lib.hid HE5
          have HL5 := Lib.hid hl5
          have HF5 := Lib.hid hf5
          have B5 := below_up B4 b5
          have o5' := o5.base B4.size
          have hn1 := HN1.out
          clear hf5 hl5 HN HE5 o5
          go_wp2
          go_roundw
          case rel => exact ⟨_, k + 1, rfl, B5, .inl ⟨g5, c5, zs, rfl, o5', HF5, HE6⟩⟩
          case measure =>
            rw [HL.out, roundsLeft_own o5' (by have := HF5.out.1; omega)]
            have := HL5.out
            omega
        · have HE5 := FN.out
          rw [HN] at HE5
          have HE6 := Lib.hid HE5
          have B5 := below_up B4 b5
          clear HN HE5
          go_wp2
          go_roundw
          case rel => exact ⟨_, k + 1, rfl, B5, .inr ⟨rfl, HE6⟩⟩
          case measure => rw [HL.out, roundsLeft_nil]; omega
      · have hq2 : q = -1 := by rw [hq, ha]
        have HT2 := Lib.hid (show S = S + edgeT xs r ys by unfold edgeT; rw [he]; omega)
        rw [hq2] at HQ
        clear ha hq hq2 he
        go_wp2_with fail
        refine (sale_is _ 1 _ _ ys r _ HQ.out first_is hO.rd hy1 hy2).mono ?_
        rintro e w2 ⟨g2, c2, rfl, _, b2⟩
        have o4 := hO.below b2
        have B4 := below_up hb b2
        have FN := FIN.out _ HT2.out
        go_wp2_with fail
        refine (HX.out _ o4.rd).mono ?_
        rintro e w5 (⟨zs, g5, c5, HN, rfl, o5, b5⟩ | ⟨HN, rfl, b5⟩)
        · obtain ⟨hf5, hl5⟩ := HF.out.next HN
          have HE5 := FN.out
          rw [HN] at HE5
          have HE6 := Lib.hid HE5
          have HL5 := Lib.hid hl5
          have HF5 := Lib.hid hf5
          have B5 := below_up B4 b5
          have o5' := o5.base B4.size
          have hn1 := HN1.out
          clear hf5 hl5 HN HE5 o5
          go_wp2
          go_roundw
          case rel => exact ⟨_, k + 1, rfl, B5, .inl ⟨g5, c5, zs, rfl, o5', HF5, HE6⟩⟩
          case measure =>
            rw [HL.out, roundsLeft_own o5' (by have := HF5.out.1; omega)]
            have := HL5.out
            omega
        · have HE5 := FN.out
          rw [HN] at HE5
          have HE6 := Lib.hid HE5
          have B5 := below_up B4 b5
          clear HN HE5
          go_wp2
          go_roundw
          case rel => exact ⟨_, k + 1, rfl, B5, .inr ⟨rfl, HE6⟩⟩
          case measure => rw [HL.out, roundsLeft_nil]; omega
    · have HS := Lib.hid (show S = edgeV xs n r by have := HE.out.1; simp [restOf] at this; omega)
      go_wp2
      go_ret
      exact ⟨by rw [HS.out]; rfl, hb⟩
end Go.Proofs.Ytoipjhdnmiomeaa

/-
  Chapter 2, the program: the term of EdgeRevenue.
-/
namespace Go.Proofs.Ytoipjhdnmiomeaa
open Go.RowKit

theorem fit_vB {xs vs : List Int} {n : Nat} (hv : vW xs = true) (hf : Fit (xs.length - 1) n vs) (hn1 : 1 ≤ n) (hn : n ≤ 3) : vB vs = true := by
  obtain ⟨l1, l2⟩ := vW_le hv
  have hl := hf.1
  unfold vB
  rw [Bool.and_eq_true, inR_true, List.all_eq_true]
  refine ⟨by omega, fun x hx => inR_true.2 ?_⟩
  have := hf.2 x hx
  omega

set_option maxHeartbeats 1000000 in
theorem edgeTerm_any (A : Option Addr) (c : Nat) (vs : List Int) (W r : Int) (br : Nat) (w : World) (h : Rd w A c vs) (hb : vB vs = true) (hr0 : 0 ≤ r) (hr1 : r ≤ 30) (he0 : 0 ≤ edgeR vs r) (he1 : edgeR vs r ≤ 6) (hW0 : 0 ≤ W) (hW1 : W ≤ 1000000)
    (hc : w.cell? ⟨br, 0, none⟩ = some (.int .i64 r)) :
    Calls Try.prog 62 #[.slice A vs.length c, .int .i64 W, .pointer (some ⟨br, 0, none⟩)] w fun e w' => e = .returned (.int .i64 (W * edgeR vs r)) ∧ Below w.heap.size w w' := by
  obtain ⟨l1, l2⟩ := vB_le hb
  have hl2 : vs.length ≤ 1099511627776 := by omega
  obtain ⟨q, hq⟩ : ∃ q, q = atOf vs r := ⟨_, rfl⟩
  have HQ := Lib.hid hq
  rcases at_cases (vs := vs) l1 hr0 with ⟨a, x, ha, hx, hw, hle, _⟩ | ⟨ha, he, _⟩
  · have hq2 : q = (a : Int) := by rw [hq, ha]
    have hal := (List.getElem?_eq_some_iff.1 hx).1
    have hlt : decide ((a : Int) < 0) = false := by simp
    have m0 := Int.mul_nonneg hW0 he0
    have m1 := Int.mul_le_mul hW1 he1 he0 (by omega)
    have HL := Lib.hid (Least_yes A c vs a r w h (wB_yes hb (by omega) (by omega)) (inR_true.2 ⟨hr0, hr1⟩) (by omega) hal)
    rw [least_edge hw he0 (by omega)] at HL
    have hon : optN (some (edgeR vs r).toNat) = edgeR vs r := by show (((edgeR vs r).toNat : Nat) : Int) = _; omega
    rw [hon] at HL
    rw [hq2] at HQ
    generalize edgeR vs r = E at *
    have hc' := hc
    clear hb hx ha hq hq2 hle hw hon
    go_enter Try.func62, Try.ntmps62
    go_wp2_with fail
    refine (winnerOf_n _ _ vs r _ rfl HQ.out h l1 hl2).mono ?_
    rintro e w1 ⟨rfl, rfl⟩
    go_wp2_with fail
    refine HL.out.mono ?_
    rintro e w1 ⟨rfl, b1⟩
    go_wp2
    go_ret
    exact ⟨rfl, b1⟩
  · have hq2 : q = -1 := by rw [hq, ha]
    have HE := Lib.hid (show W * edgeR vs r = 0 by rw [he]; simp)
    rw [hq2] at HQ
    clear hb ha hq hq2 he he0 he1
    go_enter Try.func62, Try.ntmps62
    go_wp2_with fail
    refine (winnerOf_n _ _ vs r _ rfl HQ.out h l1 hl2).mono ?_
    rintro e w1 ⟨rfl, rfl⟩
    go_wp2
    go_ret
    exact ⟨by rw [HE.out]; rfl, Below.refl _ _⟩
end Go.Proofs.Ytoipjhdnmiomeaa

/-
  A region that draws its order inside a round of a loop over an iterator: what serves outside serves inside.
-/
namespace Go.Proofs.Ytoipjhdnmiomeaa
open Go.RowKit

/-- Q, where nothing but the plain end is borne. -/
def Calm (Q : Exit → Act → World → Prop) : Exit → Act → World → Prop
  | .normal, a, w => Q .normal a w
  | _, _, _ => False
theorem calm_out {Q : Exit → Act → World → Prop} : ¬ LetsOut (Calm Q) := fun ⟨_, _, h⟩ => h

/-- No operation defers. -/
def noDefer (ops : Array Oper) : Bool := ops.all fun o => match o.op with
  | .defer _ => false
  | _ => true
theorem noDefer_at {ops : Array Oper} (h : noDefer ops = true) {i : Nat} {o : Oper} (ho : ops[i]? = some o) : ∀ c, o.op ≠ .defer c := by
  intro c hc
  obtain ⟨hi, rfl⟩ := Array.getElem?_eq_some_iff.1 ho
  unfold noDefer at h
  have := (Array.all_eq_true.1 h) i hi
  rw [hc] at this
  cases this

theorem rows_in {P : Program} {n : Nat} {row : String} {args : Array Value} {w : World} {R : Value → World → Prop} (h : Rows P row args w R) (l : Nat) : RowsIn (Fence.wide.inRound l) n P row args w R :=
  fun c cs _ => let ⟨v, w', r, s⟩ := h c cs; ⟨v, w', r, stepsIn_wide.2 s⟩

theorem oper_in {P : Program} {o : Oper} {a : Act} {w : World} {K : Act → World → Prop} {Q : Exit → Act → World → Prop} (l n : Nat) (hd : ∀ c, o.op ≠ .defer c) (h : o.wp P a w K (Calm Q)) :
    o.wpIn (Fence.wide.inRound l) n P a w K Q := by
  unfold Oper.wp at h
  unfold Oper.wpIn
  rw [Fence.inRound_round, Oper.semAt_some l _ _ hd]
  refine ⟨fun f _ => trivial, ?_⟩
  generalize (execOp a.eval o).run P w = r at *
  have hn : (Fence.wide.inRound l).depth.isSome = true → 1 ≤ n := fun hh => by cases hh
  cases r with
  | ok x w' =>
    cases x with
    | enter f args =>
      refine ⟨hn, (CallsIn.inRound l (callsIn_wide.2 h)).mono fun e w'' he => ?_⟩
      cases e with
      | returned v => exact he
      | panicked ch => exact he.elim
      | outgrown => exact absurd he calm_out
    | row r args => exact ⟨hn, rows_in h l⟩
    | round l' f tmps assign body => exact h.elim
    | value v => exact h
    | skip => exact h
    | «defer» d => exact h
    | _ => exact h.elim
  | halt x w' => cases x <;> exact h.elim

theorem any_in {P : Program} {md : Region.Mode} {ops : Array Oper} {Q : Exit → Act → World → Prop} (l n : Nat) (hd : noDefer ops = true) : ∀ (k : Nat) (listed : Array Bool) (a : Act) (w : World),
    wpAny P md ops (Calm Q) k listed a w → wpAnyIn (Fence.wide.inRound l) n P md ops Q k listed a w
  | 0, _, _, _, h => h
  | k + 1, listed, a, w, h => by
    refine ⟨h.1, fun i hi => ?_⟩
    have hw := h.2 i hi
    unfold wpOp at hw
    unfold wpOpIn
    cases ho : ops[i]? with
    | none => rw [ho] at hw; exact any_in l n hd k _ _ _ hw
    | some o =>
      rw [ho] at hw
      simp only at hw ⊢
      split
      · rename_i hwt
      
        rw [if_pos hwt] at hw
        rcases hw with hw | hw
        · exact Oper.wpIn_mono (fun a' w' hh => any_in l n hd k _ a' w' hh) (oper_in l n (noDefer_at hd ho) hw)
        · exact absurd hw.2 calm_out
      · rename_i hwt
        rw [if_neg hwt] at hw
        exact ⟨fun f _ => trivial, any_in l n hd k _ _ _ hw⟩

/-- All but the last operations quiet, the last ones in one order. -/
theorem tailed_any {P : Program} {Q : Exit → Act → World → Prop} {a : Act} {w : World} {l : List Oper} (n : Nat) (hB : Region.lexTailB .any l.toArray n = true)
    (h : wpStill P l.toArray w (fun a' => wpList P l.toArray Q (l.drop n) a' w) (l.take n) a) : wpAny P .any l.toArray Q l.toArray.size (Array.replicate l.toArray.size false) a w := by
  unfold Region.lexTailB at hB
  simp only [Bool.and_eq_true, decide_eq_true_eq] at hB
  obtain ⟨⟨⟨⟨b1, b2⟩, b3⟩, b4⟩, b5⟩ := hB
  have e1 : n < l.length := by simpa using b2
  have e2 : (l.take n).length = n := by rw [List.length_take]; omega
  have e3 : (l.drop n).length = l.toArray.size - n := by simp
  have start : HeadInv .any l.toArray n (Array.replicate l.toArray.size false) :=
    { size := by simp
      closed := fun j _ _ hj => absurd hj (by rw [getD_replicate_false]; decide)
      tail := fun t _ ht => getD_in (by simpa using ht) (getD_replicate_false _ _) }
  have quiet := wpAnyL_lex (md := .any) (g := l.toArray.size - n) b1 b3 b4 b2 (l.take n) 0 _ a (fun j hj => by rw [e2] at hj; simp [hj]) (by omega) start (by rw [e2]; exact b5) h
  have all := wpAny_of_head (Q' := Q) (g := l.toArray.size - n) (fun listed a' hL => by
    have hq := wpAny_of_seq (md := .any) (Q' := Q) (l.drop n) n listed a' w (fun j => by rw [List.getElem?_drop]; simp) (by rw [e3]; exact hL.1) hL.2
    rw [e3] at hq
    exact hq) _ _ _ quiet
  have e4 : (l.take n).length + (l.toArray.size - n) = l.toArray.size := by rw [e2]; simp; omega
  rw [e4] at all
  exact all

/-- Inside a round. -/
theorem region_in {P : Program} {id l0 m : Nat} {Q : Exit → Act → World → Prop} {a : Act} {w : World} {l : List Oper} (n : Nat) (hm : P.follows .mixedOrders = true) (hd : noDefer l.toArray = true) (hB : Region.lexTailB .any l.toArray n = true)
    (h : wpStill P l.toArray w.drew (fun a' => wpList P l.toArray (Calm Q) (l.drop n) a' w.drew) (l.take n) a) : (Code.region id l.toArray true).wpIn (Fence.wide.inRound l0) m P Q a w :=
  wpIn_region_any hm (any_in l0 m hd _ _ _ _ (tailed_any n hB h))
end Go.Proofs.Ytoipjhdnmiomeaa

/-
  Chapter 2, the program: the contract of termsOf at whole numbers.
-/
namespace Go.Proofs.Ytoipjhdnmiomeaa
open Go.RowKit Go.Shelf
attribute [local go_sem] Oper.semAt_some

theorem row_isCells {w : World} {B e size n r : Nat} {v : Value} {vs : List Value} (h : w.ownsRow B e size v n vs) (hv : v.ownBlock = some r) : ∃ o, w.heap[r]? = some o ∧ o.isCells = true := by
  rcases h.2 with ⟨rfl, _⟩ | ⟨g, cap, cur, rfl, _, hh, _⟩
  · simp [Value.ownBlock] at hv
  · obtain rfl : g = r := by simpa [Value.ownBlock] using hv
    exact ⟨_, hh, rfl⟩

/-- How many are still to come is bounded. -/
def CountL (top k : Nat) : Option (List Int) → Prop
  | some ys => k + (leftF ys top + 1) ≤ 1000
  | none => True
theorem CountL.next {top n k : Nat} {ys : List Int} (h : CountL top k (some ys)) (hf : Fit top n ys) : CountL top (k + 1) (nextF ys top) := by
  have h : k + (leftF ys top + 1) ≤ 1000 := h
  cases hn : nextF ys top with
  | none => trivial
  | some zs =>
    have := (hf.next hn).2
    show k + 1 + (leftF zs top + 1) ≤ 1000
    omega

/-- What a loop over all values has collected: the list in its box, its elements beyond R; what lay below the box lies as it lay. -/
structure Coll {α : Type} (bt e size : Nat) (enc : List α → List Value) (t : List Int → α) (total : List α) (W0 : World) (p8 R top : Nat) (v : Value) (zs : List α) (s : Option (List Int)) (W : World) : Prop where
  box : Boxed W p8 bt v
  row : W.ownsRow R e size v zs.length (enc zs)
  at_ : total = zs ++ restOf t top s
  count : CountL top zs.length s
  below : Below p8 W0 W

theorem Coll.kept {α : Type} {bt e size : Nat} {enc : List α → List Value} {t : List Int → α} {total : List α} {W0 A C : World} {p8 R top r : Nat} {v : Value} {zs : List α} {s : Option (List Int)} (h : Coll bt e size enc t total W0 p8 R top v zs s A)
    (hp0 : p8 ≤ W0.heap.size) (hg : A.grownBy C (some r)) (hp : p8 < r) (hr : r < R ∨ ∃ o, A.heap[r]? = some o ∧ o.isCells = false) : Coll bt e size enc t total W0 p8 R top v zs s C := by
  refine ⟨h.box.kept hg (fun e => by cases e; omega), World.ownsRow.kept h.row hg ?_, h.at_, h.count, h.below.grown hg (Nat.le_trans hp0 h.below.size) (fun k e => by cases e; omega)⟩
  by_cases hv : v.ownBlock = none
  · exact .inl hv
  · refine .inr fun e => ?_
    rcases hr with hr | ⟨o, ho, hc⟩
    · have := (World.ownsRow.lt h.row r e).1
      omega
    · obtain ⟨o', ho', hc'⟩ := row_isCells h.row e
      rw [ho] at ho'
      cases ho'
      rw [hc] at hc'
      cases hc'

theorem keeps_below' {W W' : World} (h : Below W.heap.size W W') : KeepsOthers W W' := KeepsOthers.of_grownBy (grown_of_below h none) (by simp)

def ints (zs : List Int) : List Value := zs.map (Value.int .i64)

set_option maxRecDepth 100000 in
set_option maxHeartbeats 4000000 in
theorem termsI_any (b off c : Nat) (xs : List Int) (n br : Nat) (r : Int) (w : World) (h : Rd w (some ⟨b, off, none⟩) c xs) (hv : vW xs = true) (hn1 : 1 ≤ n) (hn : n ≤ 3) (hr0 : 0 ≤ r) (hr1 : r ≤ 6) (hcr : w.cell? ⟨br, 0, none⟩ = some (.int .i64 r)) :
    Calls Try.prog 61 #[.slice (some ⟨b, off, none⟩) xs.length c, .int .i64 n, .func (.func 62) #[] #[.pointer (some ⟨br, 0, none⟩)]] w fun e w' =>
      ∃ A c' zs, e = .returned (.slice A zs.length c') ∧ Own w' w.heap.size A c' zs ∧ zs = restOf (edgeT xs r) (xs.length - 1) (some (List.replicate n 0)) ∧ Below w.heap.size w w' := by
  refine (callsIn_wide (n := 5)).1 ?_
  obtain ⟨l1, l2⟩ := vW_le hv
  obtain ⟨top, ht⟩ : ∃ top, top = xs.length - 1 := ⟨_, rfl⟩
  have HV := Lib.hid hv
  have HT := Lib.hid ht
  have ht5 : top ≤ 5 := by omega
  have htx : (xs.length : Int) - 1 = (top : Int) := by omega
  have htw : IntKind.i64.wrap (top : Int) = (top : Int) := IntWalk.i64_in _ (by omega)
  obtain ⟨i0, hi, hz0, hz1, hz2⟩ := info_parts int_info
  clear hv ht
  have B0 : Below w.heap.size w (((((w.alloc (.cells #[.slice (some ⟨b, off, none⟩) xs.length c] 23)).alloc (.cells #[.func (.func 62) #[] #[.pointer (some ⟨br, 0, none⟩)]] 26)).alloc (.cells #[.slice none 0 0] 23)).alloc (.cells #[.int .i64 n] 3)).alloc (.cells #[.int .i64 top] 3)) :=
    (((((Below.refl _ w).alloc (Nat.le_refl _) _).alloc (by simp) _).alloc (by simp; omega) _).alloc (by simp; omega) _).alloc (by simp; omega) _
  have y4 := ((((Boxed.new w 23 (.slice (some ⟨b, off, none⟩) xs.length c)).alloc (.cells #[.func (.func 62) #[] #[.pointer (some ⟨br, 0, none⟩)]] 26)).alloc (.cells #[.slice none 0 0] 23)).alloc (.cells #[.int .i64 n] 3)).alloc (.cells #[.int .i64 top] 3)
  have y5 := (((Boxed.new (w.alloc (.cells #[.slice (some ⟨b, off, none⟩) xs.length c] 23)) 26 (.func (.func 62) #[] #[.pointer (some ⟨br, 0, none⟩)])).alloc (.cells #[.slice none 0 0] 23)).alloc (.cells #[.int .i64 n] 3)).alloc (.cells #[.int .i64 top] 3)
  have y8 := ((Boxed.new ((w.alloc (.cells #[.slice (some ⟨b, off, none⟩) xs.length c] 23)).alloc (.cells #[.func (.func 62) #[] #[.pointer (some ⟨br, 0, none⟩)]] 26)) 23 (.slice none 0 0)).alloc (.cells #[.int .i64 n] 3)).alloc (.cells #[.int .i64 top] 3)
  have yn := (Boxed.new (((w.alloc (.cells #[.slice (some ⟨b, off, none⟩) xs.length c] 23)).alloc (.cells #[.func (.func 62) #[] #[.pointer (some ⟨br, 0, none⟩)]] 26)).alloc (.cells #[.slice none 0 0] 23)) 3 (.int .i64 n)).alloc (.cells #[.int .i64 top] 3)
  have yt := Boxed.new ((((w.alloc (.cells #[.slice (some ⟨b, off, none⟩) xs.length c] 23)).alloc (.cells #[.func (.func 62) #[] #[.pointer (some ⟨br, 0, none⟩)]] 26)).alloc (.cells #[.slice none 0 0] 23)).alloc (.cells #[.int .i64 n] 3)) 3 (.int .i64 top)
  simp only [World.size_alloc] at y4 y5 y8 yn yt
  have hs0 : (((((w.alloc (.cells #[.slice (some ⟨b, off, none⟩) xs.length c] 23)).alloc (.cells #[.func (.func 62) #[] #[.pointer (some ⟨br, 0, none⟩)]] 26)).alloc (.cells #[.slice none 0 0] 23)).alloc (.cells #[.int .i64 n] 3)).alloc (.cells #[.int .i64 top] 3)).heap.size = w.heap.size + 5 := by simp
  refine callsIn_of_wp_marks Try.func61 rfl trivial ?_ rfl
  simp only [Try.ntmps61, List.size_toArray, List.length_cons, List.length_nil, Nat.reduceAdd, Nat.reduceSub, Array.replicate_succ, Array.replicate_zero, List.push_toArray, List.append_toArray, List.nil_append, List.cons_append]
  gi_wp2_with (first
    | (refine ⟨trivial, ?_⟩; gi_at_call 86; refine (allBids_in _ _ _).mono ?_; rintro e w3 ⟨rfl, rfl⟩))
  obtain ⟨W0, hW0⟩ : ∃ W0, (((((w.alloc (.cells #[.slice (some ⟨b, off, none⟩) xs.length c] 23)).alloc (.cells #[.func (.func 62) #[] #[.pointer (some ⟨br, 0, none⟩)]] 26)).alloc (.cells #[.slice none 0 0] 23)).alloc (.cells #[.int .i64 n] 3)).alloc (.cells #[.int .i64 top] 3)) = W0 := ⟨_, rfl⟩
  rw [hW0] at B0 y4 y5 y8 yn yt hs0 ⊢
  clear hW0
  have hbv : b < w.heap.size := by
    obtain ⟨x, hx⟩ := at_some (xs := xs) (k := 0) (by omega)
    exact World.block_lt_of_cell? w _ (h.cell hx)
  have hbr : br < w.heap.size := World.block_lt_of_cell? w _ hcr
  have HRD := Lib.hid (h.below B0)
  have HCR := Lib.hid ((B0.cell (p := ⟨br, 0, none⟩) hbr).trans hcr)
  clear h hcr
  refine range_known (w := W0) rfl (enters_of Try.func94 (by kernel_rfl) rfl) (allBids1_iter top n (w.heap.size + 1 + 1 + 1) (w.heap.size + 1 + 1 + 1 + 1) W0 hn1 hn ht5 yn.cell yt.cell) (by omega)
    (fun s W => ∃ v zs, Coll 23 3 1 ints (edgeT xs r) (restOf (edgeT xs r) top (some (List.replicate n 0))) W0 (w.heap.size + 1 + 1) (W0.heap.size + 3) top v zs s W) (fun _ => False)
    (fun s => fun A C r hA hg hr => by
      obtain ⟨v, zs, hA⟩ := hA
      exact ⟨v, zs, hA.kept (by omega) hg (by rcases hr with hr | ⟨hr, _⟩ <;> omega) (hr.elim (fun e => .inl (by omega)) (fun e => .inr e.2))⟩)
    (fun _ _ _ h _ _ => h)
    ⟨_, [], y8, World.ownsRow_nil _ _ _ _, rfl, (by show 0 + (leftF _ top + 1) ≤ 1000; simpa using left_1000 hn ht5), Below.refl _ _⟩ ?a1 ?assign ?body ?done ?stop
  case assign =>
    intro l v W K hK
    gi_wp2
    exact hK
  case body =>
    rintro l ys gb cg Wp W ⟨v, zs, hIp⟩ hgp hge _ hf hgb hown
    have hI := hIp.kept (by omega) hgp (by omega) (.inl (by omega))
    have hyl := hf.1
    have hx4 : Boxed W w.heap.size 23 (.slice (some ⟨b, off, none⟩) xs.length c) := (hI.below.block _ (by omega)).trans y4
    have hx5 : Boxed W (w.heap.size + 1) 26 (.func (.func 62) #[] #[.pointer (some ⟨br, 0, none⟩)]) := (hI.below.block _ (by omega)).trans y5
    have c4 := hx4.cell
    have c5 := hx5.cell
    have hrd : Rd W (some ⟨b, off, none⟩) c xs := by
      obtain ⟨b', off', e, hc⟩ := HRD.out.open_ l1
      injection e with e
      injection e with e1 e2
      subst e1 e2
      exact .inr ⟨_, _, rfl, fun k hk => (hI.below.cell (p := ⟨b, off + k, none⟩) (by simp; omega)).trans (by rw [hc k _ (List.getElem?_eq_getElem hk)]; simp [hk])⟩
    have hcr := (hI.below.cell (p := ⟨br, 0, none⟩) (by simp; omega)).trans HCR.out
    have HF' : Hid (Fit (xs.length - 1) n ys) := Lib.hid (by rw [← HT.out]; exact hf)
    have HIV := Lib.hid (HF'.out.inV l1)
    obtain ⟨e0, e1⟩ := edge_fit HV.out HF'.out hn1 hn hr0
    obtain ⟨w0, w1⟩ := ways_bd (vW_valid HV.out) ys HIV.out (by omega)
    have HVB := Lib.hid (fit_vB HV.out HF'.out hn1 hn)
    have HIF := Lib.hid hf
    have HOW := Lib.hid hown
    have HI := Lib.hid hI
    have HRW := Lib.hid hrd
    have hpl : zs.length + 1 ≤ 1000 := by have : zs.length + (leftF ys top + 1) ≤ 1000 := hI.count; omega
    have hb63 : zs.length + 1 ≤ maxLen := by unfold maxLen; omega
    have hbx := hI.box
    have HBX := Lib.hid hbx
    have hp8 : w.heap.size + 1 + 1 < W.heap.size := hbx.lt
    have hgl := hown.lt
    have hy3 : ys.length ≤ 3 := by omega
    clear hx4 hx5 hI hf hown hrd y4 y5 y8 yn yt hIp hgp hge hbx B0 hyl
    gi_wp2
    gi_loopw [9, 20] (fun s i wr => wr = W ∧ ∃ (k : Nat) (S : Int), k ≤ ys.length ∧ i = .int .i64 k ∧ s = .int .i64 S ∧ Hid (S = waysF xs (ys.take k))) (fun _ i _ => ys.length - (intOf i).toNat)
    case atStart => exact ⟨rfl, 0, 1, Nat.zero_le _, rfl, rfl, Lib.hid rfl⟩
    case round =>
      obtain ⟨hWW, k, S, hk, rfl, rfl, HS⟩ := hrel
      subst hWW
      by_cases hlt : k < ys.length
      · obtain ⟨b2, off2, x, hbe, hb2, hx, hc2⟩ := HOW.out.rd.at_ hlt
        obtain ⟨rfl, rfl⟩ : b2 = gb ∧ off2 = 0 := by injection hbe with hbe; injection hbe with e1 e2; exact ⟨e1.symm, e2.symm⟩
        rw [Nat.zero_add] at hc2
        obtain ⟨v', rfl, hvl⟩ := HIV.out.at_ hx.out
        have hst := ways_step (xs := xs) hx.out
        obtain ⟨m1, m2⟩ := ways_bd (vW_valid HV.out) _ (HIV.out.take (k + 1)) (by simp; omega)
        obtain ⟨m3, m4⟩ := ways_bd (vW_valid HV.out) _ (HIV.out.take k) (by simp; omega)
        have hc := HRW.out.cell (wt_at hvl)
        have hw1 := validW_lo (vW_valid HV.out) hvl
        have hw2 := validW_hi (vW_valid HV.out) v'
        rw [hst] at m1 m2
        rw [← HS.out] at m1 m2 m3 m4
        have HN := Lib.hid (show S * wt xs v' = waysF xs (ys.take (k + 1)) by rw [hst, HS.out])
        generalize wt xs v' = y at *
        have hvi : (v' : Int) < (xs.length : Int) := by omega
        clear hx hst hbe
        gi_wp2
        go_roundw
        case rel => exact ⟨trivial, k + 1, _, by omega, by go_num, rfl, HN⟩
        case measure => simp [intOf] <;> omega
      · obtain rfl : k = ys.length := by omega
        have hS : S = waysF xs ys := by rw [HS.out, List.take_length]
        have HA := Lib.hid (fun w2 h2 hc2 => edgeTerm_any (some ⟨gb, 0, none⟩) cg ys S r br w2 h2 HVB.out hr0 (by omega) e0 e1 (by omega) (by omega) hc2)
        have hTT : S * edgeR ys r = edgeT xs r ys := by rw [hS]; rfl
        rw [hTT] at HA
        obtain ⟨T, hT⟩ : ∃ T, T = edgeT xs r ys := ⟨_, rfl⟩
        rw [← hT] at HA
        have HTT := Lib.hid hT
        clear hS hTT hT HS w0 w1
        gi_wp2
        have HRG : Hid (Rd wr (some ⟨gb, 0, none⟩) cg ys) := Lib.hid HOW.out.rd
        have HCR2 := Lib.hid hcr
        have hbc := HBX.out.cell
        refine wpIn_region_any (by kernel_rfl) (any_in _ _ (by kernel_rfl) _ _ _ _ ?_)
        refine wpAny_take (i := 2) (v := _) rfl (by kernel_rfl) (by kernel_rfl) (by kernel_rfl) (fun _ _ _ h => h) (Or.inl ⟨by rfl, fun w => by go_simp; rfl⟩) ?_
        refine wpAny_take (i := 3) (v := _) rfl (by kernel_rfl) (by kernel_rfl) (by kernel_rfl) (fun _ _ _ h => h) (Or.inl ⟨by rfl, fun w => by go_simp; rfl⟩) ?_
        refine wpAny_ready (rs := [0, 1]) (by kernel_rfl) (by simp) ?_
        refine AllReady.cons rfl (fun K hK => ?_) ?_
        · go_simp
          refine hK _ _ ?_
          clear hK K
          refine wpAny_ready (rs := [1]) (by kernel_rfl) (by simp) ?_
          refine AllReady.cons rfl (fun K hK => ?_) ?_
          · go_simp
            refine hK _ _ ?_
            clear hK K
            refine wpAny_ready (rs := [4]) (by kernel_rfl) (by simp) ?_
            refine AllReady.cons rfl (fun K hK => ?_) ?_
            · go_simp
              refine (HA.out _ ?_ ?_).mono ?_
              · exact HRG.out
              · exact HCR2.out
              rintro e w2 ⟨rfl, b2'⟩
              have b2 : Below wr.heap.size wr w2 := (Below.refl _ wr).drew.trans b2'
              have z8 : Boxed w2 (w.heap.size + 1 + 1) 23 v := (b2.block _ hp8).trans HBX.out
              have zc := z8.cell
              have za := (z8.alloc (.cells #[.int .i64 T] 3)).cell
              have Z8 := Lib.hid z8
              have R2 := Lib.hid (own_len HI.out.row b2)
              have RA := Lib.hid (own_len R2.out ((Below.refl _ w2).alloc (Nat.le_refl _) (.cells #[.int .i64 T] 3)))
              have hs2 := b2.size
              clear b2' z8
              refine hK _ _ ?_
              clear hK K
              refine wpAny_ready (rs := [5]) (by kernel_rfl) (by simp) ?_
              refine AllReady.cons rfl (fun K hK => ?_) ?_
              · go_simp
                refine hK _ _ ?_
                clear hK K
                refine wpAny_ready (rs := [6]) (by kernel_rfl) (by simp) ?_
                refine AllReady.cons rfl (fun K hK => ?_) ?_
                · refine step_append_lies _ rfl _ _ 23 rfl (W0.heap.size + 3) 3 i0 (.int .i64 0) 1 8 Try.underlying23 hi hz0 hz1 hz2 rfl (by decide) v zs.length (ints zs) rfl RA.out ⟨w2.heap.size, 0, none⟩ 1 1 [.int .i64 T] rfl rfl (cell_one_new _ _ _) (by simp [Value.oneCell']) (by decide) hb63 (by omega) (by simp; omega) _ rfl ?_
                  intro g5 c5 w5 hown5 hg5 _ _
                  obtain ⟨hv1, hv2, hr2, hk2, hb2⟩ := Boxed.appended Z8.out (by decide) (own_base R2.out (B' := w.heap.size + 1 + 1) (by omega)) (by omega) (Nat.le_refl _) (own_base hown5 (B' := w.heap.size + 1 + 1) (by omega)) hg5
                  have hc1 := hv1.cell
                  have hf1 := hv1.frozen
                  have HV2 := Lib.hid hv2
                  have HK2 := Lib.hid hk2
                  have HB2 := Lib.hid hb2
                  have HG := Lib.hid hg5
                  have HO5 := Lib.hid hown5
                  clear hv1 hv2 hr2 hk2 hb2 hg5 hown5
                  refine hK _ _ ?_
                  clear hK K
                  refine wpAny_ready (rs := [7]) (by kernel_rfl) (by simp) ?_
                  refine AllReady.cons rfl (fun K hK => ?_) ?_
                  · go_simp
                    refine hK _ _ ?_
                    clear hK K
                    refine wpAny_done (by kernel_rfl) ?_ _
                    refine ⟨(keeps_below' b2).trans HK2.out, fun k hk => ?_, _, zs ++ [T], ⟨HV2.out, ?_, ?_, ?_, HI.out.below.trans ((b2.mono (by omega)).trans HB2.out)⟩⟩
                    · have hkW : k < wr.heap.size := by omega
                      rw [Below.heap_setCell _ _ _ k (by simp; omega), HG.out.block k (by simp; omega) (fun e => by have := (World.ownsRow.lt R2.out k e.symm).1; omega), Below.heap_alloc _ _ k (by omega)]
                      exact b2.block k hkW
                    · have := World.ownsRow.kept HO5.out (grow_set w5 (w.heap.size + 1 + 1) 0 (.slice (some ⟨g5, 0, none⟩) (zs.length + 1) c5)) (.inr (fun e => by have := (World.ownsRow.lt HO5.out _ e).1; omega))
                      simpa [ints] using this
                    · rw [HI.out.at_, restOf_next HIF.out, ← HTT.out]; simp
                    · have := HI.out.count.next HIF.out
                      simpa using this
                  exact AllReady.nil
                exact AllReady.nil
              exact AllReady.nil
            exact AllReady.nil
          exact AllReady.nil
        refine AllReady.cons rfl (fun K hK => ?_) ?_
        · go_simp
          refine hK _ _ ?_
          clear hK K
          refine wpAny_ready (rs := [0, 4]) (by kernel_rfl) (by simp) ?_
          refine AllReady.cons rfl (fun K hK => ?_) ?_
          · go_simp
            refine hK _ _ ?_
            clear hK K
            refine wpAny_ready (rs := [4]) (by kernel_rfl) (by simp) ?_
            refine AllReady.cons rfl (fun K hK => ?_) ?_
            · go_simp
              refine (HA.out _ ?_ ?_).mono ?_
              · exact HRG.out
              · exact HCR2.out
              rintro e w2 ⟨rfl, b2'⟩
              have b2 : Below wr.heap.size wr w2 := (Below.refl _ wr).drew.trans b2'
              have z8 : Boxed w2 (w.heap.size + 1 + 1) 23 v := (b2.block _ hp8).trans HBX.out
              have zc := z8.cell
              have za := (z8.alloc (.cells #[.int .i64 T] 3)).cell
              have Z8 := Lib.hid z8
              have R2 := Lib.hid (own_len HI.out.row b2)
              have RA := Lib.hid (own_len R2.out ((Below.refl _ w2).alloc (Nat.le_refl _) (.cells #[.int .i64 T] 3)))
              have hs2 := b2.size
              clear b2' z8
              refine hK _ _ ?_
              clear hK K
              refine wpAny_ready (rs := [5]) (by kernel_rfl) (by simp) ?_
              refine AllReady.cons rfl (fun K hK => ?_) ?_
              · go_simp
                refine hK _ _ ?_
                clear hK K
                refine wpAny_ready (rs := [6]) (by kernel_rfl) (by simp) ?_
                refine AllReady.cons rfl (fun K hK => ?_) ?_
                · refine step_append_lies _ rfl _ _ 23 rfl (W0.heap.size + 3) 3 i0 (.int .i64 0) 1 8 Try.underlying23 hi hz0 hz1 hz2 rfl (by decide) v zs.length (ints zs) rfl RA.out ⟨w2.heap.size, 0, none⟩ 1 1 [.int .i64 T] rfl rfl (cell_one_new _ _ _) (by simp [Value.oneCell']) (by decide) hb63 (by omega) (by simp; omega) _ rfl ?_
                  intro g5 c5 w5 hown5 hg5 _ _
                  obtain ⟨hv1, hv2, hr2, hk2, hb2⟩ := Boxed.appended Z8.out (by decide) (own_base R2.out (B' := w.heap.size + 1 + 1) (by omega)) (by omega) (Nat.le_refl _) (own_base hown5 (B' := w.heap.size + 1 + 1) (by omega)) hg5
                  have hc1 := hv1.cell
                  have hf1 := hv1.frozen
                  have HV2 := Lib.hid hv2
                  have HK2 := Lib.hid hk2
                  have HB2 := Lib.hid hb2
                  have HG := Lib.hid hg5
                  have HO5 := Lib.hid hown5
                  clear hv1 hv2 hr2 hk2 hb2 hg5 hown5
                  refine hK _ _ ?_
                  clear hK K
                  refine wpAny_ready (rs := [7]) (by kernel_rfl) (by simp) ?_
                  refine AllReady.cons rfl (fun K hK => ?_) ?_
                  · go_simp
                    refine hK _ _ ?_
                    clear hK K
                    refine wpAny_done (by kernel_rfl) ?_ _
                    refine ⟨(keeps_below' b2).trans HK2.out, fun k hk => ?_, _, zs ++ [T], ⟨HV2.out, ?_, ?_, ?_, HI.out.below.trans ((b2.mono (by omega)).trans HB2.out)⟩⟩
                    · have hkW : k < wr.heap.size := by omega
                      rw [Below.heap_setCell _ _ _ k (by simp; omega), HG.out.block k (by simp; omega) (fun e => by have := (World.ownsRow.lt R2.out k e.symm).1; omega), Below.heap_alloc _ _ k (by omega)]
                      exact b2.block k hkW
                    · have := World.ownsRow.kept HO5.out (grow_set w5 (w.heap.size + 1 + 1) 0 (.slice (some ⟨g5, 0, none⟩) (zs.length + 1) c5)) (.inr (fun e => by have := (World.ownsRow.lt HO5.out _ e).1; omega))
                      simpa [ints] using this
                    · rw [HI.out.at_, restOf_next HIF.out, ← HTT.out]; simp
                    · have := HI.out.count.next HIF.out
                      simpa using this
                  exact AllReady.nil
                exact AllReady.nil
              exact AllReady.nil
            exact AllReady.nil
          refine AllReady.cons rfl (fun K hK => ?_) ?_
          · go_simp
            refine (HA.out _ ?_ ?_).mono ?_
            · exact HRG.out
            · exact HCR2.out
            rintro e w2 ⟨rfl, b2'⟩
            have b2 : Below wr.heap.size wr w2 := (Below.refl _ wr).drew.trans b2'
            have z8 : Boxed w2 (w.heap.size + 1 + 1) 23 v := (b2.block _ hp8).trans HBX.out
            have zc := z8.cell
            have za := (z8.alloc (.cells #[.int .i64 T] 3)).cell
            have Z8 := Lib.hid z8
            have R2 := Lib.hid (own_len HI.out.row b2)
            have RA := Lib.hid (own_len R2.out ((Below.refl _ w2).alloc (Nat.le_refl _) (.cells #[.int .i64 T] 3)))
            have hs2 := b2.size
            clear b2' z8
            refine hK _ _ ?_
            clear hK K
            refine wpAny_ready (rs := [0, 5]) (by kernel_rfl) (by simp) ?_
            refine AllReady.cons rfl (fun K hK => ?_) ?_
            · go_simp
              refine hK _ _ ?_
              clear hK K
              refine wpAny_ready (rs := [5]) (by kernel_rfl) (by simp) ?_
              refine AllReady.cons rfl (fun K hK => ?_) ?_
              · go_simp
                refine hK _ _ ?_
                clear hK K
                refine wpAny_ready (rs := [6]) (by kernel_rfl) (by simp) ?_
                refine AllReady.cons rfl (fun K hK => ?_) ?_
                · refine step_append_lies _ rfl _ _ 23 rfl (W0.heap.size + 3) 3 i0 (.int .i64 0) 1 8 Try.underlying23 hi hz0 hz1 hz2 rfl (by decide) v zs.length (ints zs) rfl RA.out ⟨w2.heap.size, 0, none⟩ 1 1 [.int .i64 T] rfl rfl (cell_one_new _ _ _) (by simp [Value.oneCell']) (by decide) hb63 (by omega) (by simp; omega) _ rfl ?_
                  intro g5 c5 w5 hown5 hg5 _ _
                  obtain ⟨hv1, hv2, hr2, hk2, hb2⟩ := Boxed.appended Z8.out (by decide) (own_base R2.out (B' := w.heap.size + 1 + 1) (by omega)) (by omega) (Nat.le_refl _) (own_base hown5 (B' := w.heap.size + 1 + 1) (by omega)) hg5
                  have hc1 := hv1.cell
                  have hf1 := hv1.frozen
                  have HV2 := Lib.hid hv2
                  have HK2 := Lib.hid hk2
                  have HB2 := Lib.hid hb2
                  have HG := Lib.hid hg5
                  have HO5 := Lib.hid hown5
                  clear hv1 hv2 hr2 hk2 hb2 hg5 hown5
                  refine hK _ _ ?_
                  clear hK K
                  refine wpAny_ready (rs := [7]) (by kernel_rfl) (by simp) ?_
                  refine AllReady.cons rfl (fun K hK => ?_) ?_
                  · go_simp
                    refine hK _ _ ?_
                    clear hK K
                    refine wpAny_done (by kernel_rfl) ?_ _
                    refine ⟨(keeps_below' b2).trans HK2.out, fun k hk => ?_, _, zs ++ [T], ⟨HV2.out, ?_, ?_, ?_, HI.out.below.trans ((b2.mono (by omega)).trans HB2.out)⟩⟩
                    · have hkW : k < wr.heap.size := by omega
                      rw [Below.heap_setCell _ _ _ k (by simp; omega), HG.out.block k (by simp; omega) (fun e => by have := (World.ownsRow.lt R2.out k e.symm).1; omega), Below.heap_alloc _ _ k (by omega)]
                      exact b2.block k hkW
                    · have := World.ownsRow.kept HO5.out (grow_set w5 (w.heap.size + 1 + 1) 0 (.slice (some ⟨g5, 0, none⟩) (zs.length + 1) c5)) (.inr (fun e => by have := (World.ownsRow.lt HO5.out _ e).1; omega))
                      simpa [ints] using this
                    · rw [HI.out.at_, restOf_next HIF.out, ← HTT.out]; simp
                    · have := HI.out.count.next HIF.out
                      simpa using this
                  exact AllReady.nil
                exact AllReady.nil
              exact AllReady.nil
            refine AllReady.cons rfl (fun K hK => ?_) ?_
            · go_simp
              refine hK _ _ ?_
              clear hK K
              refine wpAny_ready (rs := [0]) (by kernel_rfl) (by simp) ?_
              refine AllReady.cons rfl (fun K hK => ?_) ?_
              · go_simp
                refine hK _ _ ?_
                clear hK K
                refine wpAny_ready (rs := [6]) (by kernel_rfl) (by simp) ?_
                refine AllReady.cons rfl (fun K hK => ?_) ?_
                · refine step_append_lies _ rfl _ _ 23 rfl (W0.heap.size + 3) 3 i0 (.int .i64 0) 1 8 Try.underlying23 hi hz0 hz1 hz2 rfl (by decide) v zs.length (ints zs) rfl RA.out ⟨w2.heap.size, 0, none⟩ 1 1 [.int .i64 T] rfl rfl (cell_one_new _ _ _) (by simp [Value.oneCell']) (by decide) hb63 (by omega) (by simp; omega) _ rfl ?_
                  intro g5 c5 w5 hown5 hg5 _ _
                  obtain ⟨hv1, hv2, hr2, hk2, hb2⟩ := Boxed.appended Z8.out (by decide) (own_base R2.out (B' := w.heap.size + 1 + 1) (by omega)) (by omega) (Nat.le_refl _) (own_base hown5 (B' := w.heap.size + 1 + 1) (by omega)) hg5
                  have hc1 := hv1.cell
                  have hf1 := hv1.frozen
                  have HV2 := Lib.hid hv2
                  have HK2 := Lib.hid hk2
                  have HB2 := Lib.hid hb2
                  have HG := Lib.hid hg5
                  have HO5 := Lib.hid hown5
                  clear hv1 hv2 hr2 hk2 hb2 hg5 hown5
                  refine hK _ _ ?_
                  clear hK K
                  refine wpAny_ready (rs := [7]) (by kernel_rfl) (by simp) ?_
                  refine AllReady.cons rfl (fun K hK => ?_) ?_
                  · go_simp
                    refine hK _ _ ?_
                    clear hK K
                    refine wpAny_done (by kernel_rfl) ?_ _
                    refine ⟨(keeps_below' b2).trans HK2.out, fun k hk => ?_, _, zs ++ [T], ⟨HV2.out, ?_, ?_, ?_, HI.out.below.trans ((b2.mono (by omega)).trans HB2.out)⟩⟩
                    · have hkW : k < wr.heap.size := by omega
                      rw [Below.heap_setCell _ _ _ k (by simp; omega), HG.out.block k (by simp; omega) (fun e => by have := (World.ownsRow.lt R2.out k e.symm).1; omega), Below.heap_alloc _ _ k (by omega)]
                      exact b2.block k hkW
                    · have := World.ownsRow.kept HO5.out (grow_set w5 (w.heap.size + 1 + 1) 0 (.slice (some ⟨g5, 0, none⟩) (zs.length + 1) c5)) (.inr (fun e => by have := (World.ownsRow.lt HO5.out _ e).1; omega))
                      simpa [ints] using this
                    · rw [HI.out.at_, restOf_next HIF.out, ← HTT.out]; simp
                    · have := HI.out.count.next HIF.out
                      simpa using this
                  exact AllReady.nil
                exact AllReady.nil
              exact AllReady.nil
            exact AllReady.nil
          exact AllReady.nil
        exact AllReady.nil
  case done =>
    rintro D W hD ⟨v, zs, hI⟩ hK
    have hc := hI.box.cell
    gi_wp2
    refine ⟨by simp, .inl ⟨_, _, rfl, run_takeDeferred hK, ?_⟩⟩
    have hI2 := hI.kept (by omega) (grownBy_putObj' W D (.deferred none)) (by omega) (.inr ⟨_, hK, rfl⟩)
    have hva : ∃ A c', v = .slice A zs.length c' := by
      rcases hI2.row.2 with ⟨rfl, h0⟩ | ⟨g, cap, cur, rfl, _⟩
      · exact ⟨none, 0, by rw [h0]⟩
      · exact ⟨_, _, rfl⟩
    obtain ⟨A, c', rfl⟩ := hva
    have hat := hI2.at_
    rw [HT.out] at hat
    simp only [restOf, List.append_nil] at hat
    exact ⟨_, results_tmp rfl _ _ _, A, c', zs, rfl, own_base hI2.row (by omega), hat.symm, B0.trans (hI2.below.mono (by omega))⟩
  case stop =>
    rintro D W _ h _
    exact h.elim
end Go.Proofs.Ytoipjhdnmiomeaa

/-
  Chapter 2: at whatever weights, bidders and reserve the program's EdgeRevenue answers as the model's.
-/
namespace Go.Proofs.Ytoipjhdnmiomeaa
open Go.RowKit

theorem crowd_yes {xs : List Int} {n r : Int} (h : crowdB xs n r = true) : vW xs = true ∧ inR n 1 3 = true ∧ inR r 0 6 = true := by
  unfold crowdB at h
  simp only [Bool.and_eq_true] at h
  exact ⟨h.1.1, h.1.2, h.2⟩

set_option maxHeartbeats 1000000 in
theorem SEdgeRevenue_any (A : Option Addr) (c : Nat) (xs : List Int) (n r : Int) (w : World) (h : Rd w A c xs) (hl : xs.length ≤ 1048576) :
    Calls Try.prog 34 #[.slice A xs.length c, .int .i64 n, .int .i64 r] w fun e w' => e = .returned (.int .i64 (edgeO xs n r)) ∧ Below w.heap.size w w' := by
  cases hc : crowdB xs n r with
  | false =>
    have HC := Lib.hid hc
    have HE := Lib.hid (show edgeO xs n r = -1 by unfold edgeO; rw [hc]; rfl)
    clear hc
    go_enter Try.func34, Try.ntmps34
    go_wp2_with fail
    refine (validCrowd_any _ _ _ _ _ _ h hl).mono ?_
    rw [HC.out]
    rintro e w1 ⟨rfl, rfl⟩
    go_wp2
    go_ret
    exact ⟨by rw [HE.out]; rfl, Below.refl _ _⟩
  | true =>
    obtain ⟨hv, hn, hr⟩ := crowd_yes hc
    obtain ⟨n0, n1⟩ := inR_true.1 hn
    obtain ⟨r0, r1⟩ := inR_true.1 hr
    obtain ⟨m, rfl⟩ := Int.eq_ofNat_of_zero_le (show 0 ≤ n by omega)
    obtain ⟨b, off, rfl⟩ := h.open1 (vW_le hv).1
    have e : edgeO xs m r = edgeV xs m r := by unfold edgeO; rw [hc]; rfl
    rw [e]
    exact SEdgeRevenue_yes b off c xs m r w h hv (by omega) (by omega) r0 r1

theorem edge_small {xs : List Int} {n : Nat} {r : Int} (hv : vW xs = true) (hn1 : 1 ≤ n) (hn : n ≤ 3) (hr : 0 ≤ r) : Small2 (restOf (edgeT xs r) (xs.length - 1) (some (List.replicate n 0))) := by
  intro x hx
  obtain ⟨vs, hvs, rfl⟩ := List.mem_map.1 hx
  have := edgeT_bd hv (allF_fit (Fit.zero _ n) hvs) hn1 hn hr
  omega
theorem rest_len {α : Type} (t : List Int → α) (top n : Nat) (h1 : 1 ≤ n) (hn : n ≤ 3) (ht : top ≤ 5) : (restOf t top (some (List.replicate n 0))).length ≤ 216 := by
  unfold restOf
  rw [List.length_map, allF_allV h1 hn ht]
  exact allV_216 h1 hn ht

set_option maxHeartbeats 2000000 in
theorem EdgeRevenue_any (A : Option Addr) (c : Nat) (xs : List Int) (n r : Int) (w : World) (h : Rd w A c xs) (hl : xs.length ≤ 1048576) :
    Calls Try.prog 33 #[.slice A xs.length c, .int .i64 n, .int .i64 r] w fun e w' => e = .returned (.int .i64 (edgeO xs n r)) ∧ Below w.heap.size w w' := by
  have h' := h.below (below_al w (.cells #[.int .i64 r] 3))
  have HV := Lib.hid (ValidWeights_any A c xs _ h' (by omega))
  have HN := fun w => Lib.hid (isFew_any n w)
  have HR := fun w => Lib.hid (isEdge_any r w)
  have hB := below_al w (.cells #[.int .i64 r] 3)
  have kr := (Boxed.new w 3 (.int .i64 r)).cell
  cases hv : vW xs with
  | false =>
    have HE := Lib.hid (show edgeO xs n r = -1 by unfold edgeO crowdB; rw [hv]; rfl)
    rw [hv] at HV
    clear hv
    go_enter Try.func33, Try.ntmps33
    go_wp2_with fail
    refine HV.out.mono ?_
    rintro e w1 ⟨rfl, rfl⟩
    go_wp2
    go_ret
    exact ⟨by rw [HE.out]; rfl, hB⟩
  | true =>
    have HVV := Lib.hid hv
    rw [hv] at HV
    cases hn : inR n 1 3 with
    | false =>
      have HE := Lib.hid (show edgeO xs n r = -1 by unfold edgeO crowdB; rw [hv, hn]; rfl)
      rw [hn] at HN
      clear hv hn
      go_enter Try.func33, Try.ntmps33
      go_wp2_with fail
      refine HV.out.mono ?_
      rintro e w1 ⟨rfl, rfl⟩
      go_wp2_with fail
      refine (HN _).out.mono ?_
      rintro e w1 ⟨rfl, rfl⟩
      go_wp2
      go_ret
      exact ⟨by rw [HE.out]; rfl, hB⟩
    | true =>
      cases hr : inR r 0 6 with
      | false =>
        have HE := Lib.hid (show edgeO xs n r = -1 by unfold edgeO crowdB; rw [hv, hn, hr]; rfl)
        rw [hn] at HN
        rw [hr] at HR
        clear hv hn hr
        go_enter Try.func33, Try.ntmps33
        go_wp2_with fail
        refine HV.out.mono ?_
        rintro e w1 ⟨rfl, rfl⟩
        go_wp2_with fail
        refine (HN _).out.mono ?_
        rintro e w1 ⟨rfl, rfl⟩
        go_wp2_with fail
        refine (HR _).out.mono ?_
        rintro e w1 ⟨rfl, rfl⟩
        go_wp2
        go_ret
        exact ⟨by rw [HE.out]; rfl, hB⟩
      | true =>
        obtain ⟨n0, n1⟩ := inR_true.1 hn
        obtain ⟨r0, r1⟩ := inR_true.1 hr
        obtain ⟨m, rfl⟩ := Int.eq_ofNat_of_zero_le (show 0 ≤ n by omega)
        obtain ⟨b, off, rfl⟩ := h.open1 (vW_le hv).1
        have HE := Lib.hid (show edgeO xs m r = edgeV xs m r by unfold edgeO crowdB; rw [hv, hn, hr]; rfl)
        have HT := Lib.hid (termsI_any b off c xs m w.heap.size r _ h' hv (by omega) (by omega) r0 r1 kr)
        have HSM := Lib.hid (edge_small (r := r) hv (show 1 ≤ m by omega) (by omega) r0)
        have HLN := Lib.hid (rest_len (edgeT xs r) (xs.length - 1) m (by omega) (by omega) (by have := vW_le hv; omega))
        rw [hn] at HN
        rw [hr] at HR
        clear hv hn hr
        go_enter Try.func33, Try.ntmps33
        go_wp2_with fail
        refine HV.out.mono ?_
        rintro e w1 ⟨rfl, rfl⟩
        go_wp2_with fail
        refine (HN _).out.mono ?_
        rintro e w1 ⟨rfl, rfl⟩
        go_wp2_with fail
        refine (HR _).out.mono ?_
        rintro e w1 ⟨rfl, rfl⟩
        go_wp2_with fail
        refine HT.out.mono ?_
        rintro e w1 ⟨A1, c1, zs, rfl, o1, hz, b1⟩
        have hzl : zs.length ≤ 1048576 := by have := HLN.out; rw [← hz] at this; omega
        have hzs : Small2 zs := by rw [hz]; exact HSM.out
        have HZ := Lib.hid (show zs.sum = edgeV xs m r by rw [hz]; rfl)
        clear hz
        go_wp2_with fail
        refine (sumInts_any _ _ zs _ o1.rd hzl hzs).mono ?_
        rintro e w2 ⟨rfl, rfl⟩
        go_wp2
        go_ret
        exact ⟨by rw [HE.out, ← HZ.out]; rfl, below_up hB b1⟩

theorem EdgeRevenue_both (xs : List Int) (n r : Int) (hl : xs.length ≤ 1048576) : ∃ v,
    (∀ A c w, Rd w A c xs → Calls Try.prog 34 #[.slice A xs.length c, .int .i64 n, .int .i64 r] w (AnsIs w (.int .i64 v))) ∧
    (∀ A c w, Rd w A c xs → xs.length ≤ c → Calls Try.prog 33 #[.slice A xs.length c, .int .i64 n, .int .i64 r] w (AnsIs w (.int .i64 v))) :=
  ⟨edgeO xs n r, fun A c w h => SEdgeRevenue_any A c xs n r w h hl, fun A c w h _ => EdgeRevenue_any A c xs n r w h hl⟩
end Go.Proofs.Ytoipjhdnmiomeaa
