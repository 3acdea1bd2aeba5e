/-
  Chapter 3 in plain arithmetic: what units are worth at best, bidder by bidder, and what bounds it.
-/
import Derived.Test.YtnojlapjkdihmaaPl
namespace Go.Proofs.Ytnojlapjkdihmaa

/-- What the first k numbers are together. -/
def pre (r : List Int) (k : Nat) : Int := (r.take k).sum
theorem pre_zero (r : List Int) : pre r 0 = 0 := by simp [pre]
theorem pre_nil (k : Nat) : pre [] k = 0 := by simp [pre]
theorem pre_cons (x : Int) (r : List Int) (k : Nat) : pre (x :: r) (k + 1) = x + pre r k := by simp [pre]
theorem pre_step {r : List Int} {k : Nat} {x : Int} (hx : r[k]? = some x) : pre r (k + 1) = pre r k + x := by
  unfold pre; rw [List.take_add_one, hx]; simp
theorem pre_end {r : List Int} {k : Nat} (h : r.length ≤ k) : pre r k = pre r r.length := by
  unfold pre; rw [List.take_of_length_le h, List.take_length]
theorem pre_min (r : List Int) (k : Nat) : pre r (min k r.length) = pre r k := by
  rcases Nat.le_total k r.length with h | h
  · rw [Nat.min_eq_left h]
  · rw [Nat.min_eq_right h, pre_end h]

/-- A row: at most five numbers of 0..30, none greater than one ahead. -/
def RowOk (r : List Int) : Prop := r.length ≤ 5 ∧ ∀ (k : Nat) (x : Int), r[k]? = some x → 0 ≤ x ∧ x ≤ 30 ∧ ∀ (j : Nat) (y : Int), j < k → r[j]? = some y → x ≤ y

theorem rowOk_of {r : List Int} (hl : r.length ≤ 5) (h : ∀ (k : Nat) (x : Int), r[k]? = some x → 0 ≤ x ∧ x ≤ 30 ∧ ∀ y : Int, 0 < k → r[k - 1]? = some y → x ≤ y) : RowOk r := by
  refine ⟨hl, fun k => ?_⟩
  induction k with
  | zero => exact fun x hx => ⟨(h 0 x hx).1, (h 0 x hx).2.1, fun j y hj => absurd hj (by omega)⟩
  | succ k ih =>
    intro x hx
    obtain ⟨h1, h2, h3⟩ := h (k + 1) x hx
    refine ⟨h1, h2, fun j y hj hy => ?_⟩
    have hk : k < r.length := by have := (List.getElem?_eq_some_iff.1 hx).1; omega
    have hz : r[k]? = some r[k] := List.getElem?_eq_getElem hk
    have h4 : x ≤ r[k] := h3 _ (by omega) hz
    rcases Nat.lt_or_ge j k with hjk | hjk
    · have := (ih _ hz).2.2 j y hjk hy
      omega
    · obtain rfl : j = k := by omega
      rw [hz] at hy
      cases hy
      exact h4
theorem rowOk_nil : RowOk [] := ⟨by simp, fun k x h => by simp at h⟩

theorem pre_nn {r : List Int} (h : RowOk r) (k : Nat) : 0 ≤ pre r k ∧ pre r k ≤ 30 * k := by
  induction k with
  | zero => simp [pre]
  | succ k ih =>
    cases hx : r[k]? with
    | none =>
      have : r.length ≤ k := by simpa using hx
      rw [pre_end (by omega), ← pre_end this]
      omega
    | some x =>
      have := h.2 k x hx
      rw [pre_step hx]
      omega
theorem pre_le150 {r : List Int} (h : RowOk r) (k : Nat) : 0 ≤ pre r k ∧ pre r k ≤ 150 := by
  have h1 := pre_nn h (min k r.length)
  rw [pre_min] at h1
  have h2 := h.1
  have h3 : ((min k r.length : Nat) : Int) ≤ 5 := by omega
  omega

/-- The greatest of f at x, and of what m units less leave and the row gives for them, up to m units. -/
def convTo (f : Nat → Int) (r : List Int) (x : Nat) : Nat → Int
  | 0 => f x
  | m + 1 => max (convTo f r x m) (f (x - (m + 1)) + pre r (m + 1))
def conv (f : Nat → Int) (r : List Int) (x : Nat) : Int := convTo f r x x

/-- What at most x units are worth to the first n bidders, at best. -/
def bst (R : Nat → List Int) : Nat → Nat → Int
  | 0, _ => 0
  | i + 1, x => conv (bst R i) (R i) x

def sumTo (f : Nat → Int) : Nat → Int
  | 0 => 0
  | n + 1 => sumTo f n + f n
theorem sumTo_congr {f g : Nat → Int} {n : Nat} (h : ∀ i, i < n → f i = g i) : sumTo f n = sumTo g n := by
  induction n with
  | zero => rfl
  | succ n ih => rw [sumTo, sumTo, ih (fun i hi => h i (by omega)), h n (by omega)]
theorem sumTo_le {f g : Nat → Int} {n : Nat} (h : ∀ i, i < n → f i ≤ g i) : sumTo f n ≤ sumTo g n := by
  induction n with
  | zero => simp [sumTo]
  | succ n ih => have h1 := ih (fun i hi => h i (by omega)); have h2 := h n (by omega); rw [sumTo, sumTo]; omega
theorem sumTo_nn {f : Nat → Int} {n : Nat} (h : ∀ i, i < n → 0 ≤ f i) : 0 ≤ sumTo f n := by
  induction n with
  | zero => simp [sumTo]
  | succ n ih => have h1 := ih (fun i hi => h i (by omega)); have h2 := h n (by omega); rw [sumTo]; omega
theorem sumTo_add (f g : Nat → Int) (n : Nat) : sumTo (fun i => f i + g i) n = sumTo f n + sumTo g n := by
  induction n with
  | zero => rfl
  | succ n ih => simp only [sumTo, ih]; omega
theorem sumTo_sub (f g : Nat → Int) (n : Nat) : sumTo (fun i => f i - g i) n = sumTo f n - sumTo g n := by
  induction n with
  | zero => rfl
  | succ n ih => simp only [sumTo, ih]; omega
theorem sumTo_mul (f : Nat → Int) (t : Int) (n : Nat) : sumTo (fun i => f i * t) n = sumTo f n * t := by
  induction n with
  | zero => simp [sumTo]
  | succ n ih => simp only [sumTo, ih, Int.add_mul]
theorem sumTo_const (t : Int) (n : Nat) : sumTo (fun _ => t) n = n * t := by
  induction n with
  | zero => simp [sumTo]
  | succ n ih => simp only [sumTo, ih]; push_cast; rw [Int.add_mul]; omega
/-- One term is apart. -/
theorem sumTo_one {f g : Nat → Int} {n i : Nat} (hi : i < n) (h : ∀ j, j < n → j ≠ i → f j = g j) : sumTo f n - f i = sumTo g n - g i := by
  induction n with
  | zero => omega
  | succ n ih =>
    rw [sumTo, sumTo]
    rcases Nat.lt_or_ge i n with hin | hin
    · have h1 := ih hin (fun j hj hne => h j (by omega) hne)
      have h2 := h n (by omega) (by omega)
      omega
    · obtain rfl : i = n := by omega
      have h1 := sumTo_congr (f := f) (g := g) (n := i) (fun j hj => h j (by omega) (by omega))
      omega

/-- What the units are worth, h i of them to bidder i. -/
def val (R : Nat → List Int) (h : Nat → Nat) (n : Nat) : Int := sumTo (fun i => pre (R i) (h i)) n
def cnt (h : Nat → Nat) (n : Nat) : Int := sumTo (fun i => (h i : Int)) n
/-- How much numbers are above t. -/
def over (t : Int) (r : List Int) : Int := (r.map (fun x => max (x - t) 0)).sum
def ovs (t : Int) (R : Nat → List Int) (n : Nat) : Int := sumTo (fun i => over t (R i)) n

theorem over_nil (t : Int) : over t [] = 0 := rfl
theorem over_cons (t x : Int) (r : List Int) : over t (x :: r) = max (x - t) 0 + over t r := by simp [over]
theorem over_nn (t : Int) : ∀ r : List Int, 0 ≤ over t r
  | [] => by simp [over]
  | x :: r => by have := over_nn t r; rw [over_cons]; omega
theorem over_anti {s t : Int} (h : s ≤ t) : ∀ r : List Int, over t r ≤ over s r
  | [] => by simp [over]
  | x :: r => by have := over_anti h r; rw [over_cons, over_cons]; omega

theorem pre_bound {t : Int} (ht : 0 ≤ t) : ∀ (r : List Int) (c : Nat), pre r c ≤ c * t + over t r
  | [], c => by
    have : 0 ≤ (c : Int) * t := Int.mul_nonneg (by omega) ht
    rw [pre_nil, over_nil]; omega
  | x :: r, 0 => by
    have := over_nn t (x :: r)
    rw [pre_zero]; simp; exact this
  | x :: r, c + 1 => by
    have h1 := pre_bound ht r c
    rw [pre_cons, over_cons]
    have e : ((c + 1 : Nat) : Int) * t = c * t + t := by push_cast; rw [Int.add_mul]; omega
    rw [e]
    omega

theorem convTo_bound {f : Nat → Int} {r : List Int} {t F : Int} (ht : 0 ≤ t) (x : Nat) (hf : ∀ y, y ≤ x → f y ≤ y * t + F) : ∀ m, m ≤ x → convTo f r x m ≤ x * t + (F + over t r)
  | 0, _ => by
    have h1 := hf x (Nat.le_refl _)
    have h2 := over_nn t r
    rw [convTo]; omega
  | m + 1, hm => by
    have h1 := convTo_bound ht x hf m (by omega) (r := r)
    have h2 := hf (x - (m + 1)) (by omega)
    have h3 := pre_bound ht r (m + 1)
    obtain ⟨y, rfl⟩ : ∃ y, x = y + (m + 1) := ⟨x - (m + 1), by omega⟩
    rw [show y + (m + 1) - (m + 1) = y by omega] at h2
    have e : ((y + (m + 1) : Nat) : Int) * t = y * t + ((m + 1 : Nat) : Int) * t := by push_cast; rw [Int.add_mul]
    rw [convTo, show y + (m + 1) - (m + 1) = y by omega]
    omega
theorem convTo_ge {f : Nat → Int} {r : List Int} {x own : Nat} : ∀ m, own ≤ m → f (x - own) + pre r own ≤ convTo f r x m
  | 0, h => by
    obtain rfl : own = 0 := by omega
    rw [convTo, pre_zero]; simp
  | m + 1, h => by
    rw [convTo]
    rcases Nat.lt_or_ge own (m + 1) with h1 | h1
    · have := convTo_ge m (by omega) (f := f) (r := r) (x := x) (own := own); omega
    · obtain rfl : own = m + 1 := by omega
      omega

/-- No number of units is worth more at best than at a price t each, and what is above it. -/
theorem bst_bound {R : Nat → List Int} {t : Int} (ht : 0 ≤ t) : ∀ n k, bst R n k ≤ k * t + ovs t R n
  | 0, k => by
    have : 0 ≤ (k : Int) * t := Int.mul_nonneg (by omega) ht
    simp [bst, ovs, sumTo]; omega
  | n + 1, k => by
    have := convTo_bound (f := bst R n) (r := R n) (F := ovs t R n) ht k (fun y _ => bst_bound ht n y) k (Nat.le_refl _)
    exact this
/-- What is given is worth no more than the best. -/
theorem bst_ge {R : Nat → List Int} {h : Nat → Nat} : ∀ n (k : Nat), cnt h n ≤ k → val R h n ≤ bst R n k
  | 0, k, _ => by simp [bst, val, sumTo]
  | n + 1, k, hk => by
    have e : cnt h (n + 1) = cnt h n + h n := rfl
    have h0 : 0 ≤ cnt h n := sumTo_nn (fun i _ => by omega)
    have h1 := bst_ge n (k - h n) (by omega) (R := R) (h := h)
    have h2 := convTo_ge (f := bst R n) (r := R n) (x := k) (own := h n) k (by omega)
    have e2 : val R h (n + 1) = val R h n + pre (R n) (h n) := rfl
    have e3 : bst R (n + 1) k = convTo (bst R n) (R n) k k := rfl
    rw [e2, e3]; omega

/-- The numbers had are those above t. -/
theorem had_is {t : Int} : ∀ (r : List Int) (c : Nat), c ≤ r.length → (∀ (j : Nat) (x : Int), j < c → r[j]? = some x → t ≤ x) → (∀ (j : Nat) (x : Int), c ≤ j → r[j]? = some x → x ≤ t) → pre r c = c * t + over t r
  | [], c, hc, _, _ => by
    obtain rfl : c = 0 := by simpa using hc
    simp [pre, over]
  | x :: r, 0, _, _, h2 => by
    have h3 := had_is r 0 (Nat.zero_le _) (fun j y hj => absurd hj (by omega)) (fun j y _ hy => h2 (j + 1) y (by omega) (by simpa using hy))
    have h4 := h2 0 x (Nat.le_refl _) rfl
    rw [pre_zero] at h3 ⊢
    rw [over_cons]
    simp at h3 ⊢
    omega
  | x :: r, c + 1, hc, h1, h2 => by
    have h3 := had_is r c (by simpa using hc) (fun j y hj hy => h1 (j + 1) y (by omega) (by simpa using hy)) (fun j y hj hy => h2 (j + 1) y (by omega) (by simpa using hy))
    have h4 := h1 0 x (by omega) rfl
    rw [pre_cons, over_cons, h3]
    have e : ((c + 1 : Nat) : Int) * t = c * t + t := by push_cast; rw [Int.add_mul]; omega
    rw [e]
    omega

theorem bst_nn {R : Nat → List Int} (n k : Nat) : 0 ≤ bst R n k := by
  have h := bst_ge (R := R) (h := fun _ => 0) n k (by
    have : cnt (fun _ => 0) n = 0 := by
      have := sumTo_const 0 n
      simpa [cnt] using this
    omega)
  have e : val R (fun _ => 0) n = 0 := by
    have : val R (fun _ => 0) n = sumTo (fun _ => 0) n := sumTo_congr (fun i _ => pre_zero _)
    rw [this, sumTo_const]; simp
  omega

end Go.Proofs.Ytnojlapjkdihmaa
