/-
  Chapter 3 in plain arithmetic: what units are worth at best, bidder by bidder, and what bounds it.
-/
import Derived.Test.YtpildecpabeanaaG01
namespace Go.Proofs.Ytpildecpabeanaa

/-- What the first k numbers are together. -/
def pre (r : List Int) (k : Nat) : Int := (r.take k).sum
theorem pre_zero (r : List Int) : pre r 0 = 0 := by simp [pre]
theorem pre_nil (k : Nat) : pre [] k = 0 := by simp [pre]
theorem pre_cons (x : Int) (r : List Int) (k : Nat) : pre (x :: r) (k + 1) = x + pre r k := by simp [pre]
theorem pre_step {r : List Int} {k : Nat} {x : Int} (hx : r[k]? = some x) : pre r (k + 1) = pre r k + x := by
  unfold pre; rw [List.take_add_one, hx]; simp
theorem pre_end {r : List Int} {k : Nat} (h : r.length ≤ k) : pre r k = pre r r.length := by
  unfold pre; rw [List.take_of_length_le h, List.take_length]
theorem pre_min (r : List Int) (k : Nat) : pre r (min k r.length) = pre r k := by
  rcases Nat.le_total k r.length with h | h
  · rw [Nat.min_eq_left h]
  · rw [Nat.min_eq_right h, pre_end h]

/-- A row: at most five numbers of 0..30, none greater than one ahead. -/
def RowOk (r : List Int) : Prop := r.length ≤ 5 ∧ ∀ (k : Nat) (x : Int), r[k]? = some x → 0 ≤ x ∧ x ≤ 30 ∧ ∀ (j : Nat) (y : Int), j < k → r[j]? = some y → x ≤ y

theorem rowOk_of {r : List Int} (hl : r.length ≤ 5) (h : ∀ (k : Nat) (x : Int), r[k]? = some x → 0 ≤ x ∧ x ≤ 30 ∧ ∀ y : Int, 0 < k → r[k - 1]? = some y → x ≤ y) : RowOk r := by
  refine ⟨hl, fun k => ?_⟩
  induction k with
  | zero => exact fun x hx => ⟨(h 0 x hx).1, (h 0 x hx).2.1, fun j y hj => absurd hj (by omega)⟩
  | succ k ih =>
    intro x hx
    obtain ⟨h1, h2, h3⟩ := h (k + 1) x hx
    refine ⟨h1, h2, fun j y hj hy => ?_⟩
    have hk : k < r.length := by have := (List.getElem?_eq_some_iff.1 hx).1; omega
    have hz : r[k]? = some r[k] := List.getElem?_eq_getElem hk
    have h4 : x ≤ r[k] := h3 _ (by omega) hz
    rcases Nat.lt_or_ge j k with hjk | hjk
    · have := (ih _ hz).2.2 j y hjk hy
      omega
    · obtain rfl : j = k := by omega
      rw [hz] at hy
      cases hy
      exact h4
theorem rowOk_nil : RowOk [] := ⟨by simp, fun k x h => by simp at h⟩

theorem pre_nn {r : List Int} (h : RowOk r) (k : Nat) : 0 ≤ pre r k ∧ pre r k ≤ 30 * k := by
  induction k with
  | zero => simp [pre]
  | succ k ih =>
    cases hx : r[k]? with
    | none =>
      have : r.length ≤ k := by simpa using hx
      rw [pre_end (by omega), ← pre_end this]
      omega
    | some x =>
      have := h.2 k x hx
      rw [pre_step hx]
      omega
theorem pre_le150 {r : List Int} (h : RowOk r) (k : Nat) : 0 ≤ pre r k ∧ pre r k ≤ 150 := by
  have h1 := pre_nn h (min k r.length)
  rw [pre_min] at h1
  have h2 := h.1
  have h3 : ((min k r.length : Nat) : Int) ≤ 5 := by omega
  omega

/-- The greatest of f at x, and of what m units less leave and the row gives for them, up to m units. -/
def convTo (f : Nat → Int) (r : List Int) (x : Nat) : Nat → Int
  | 0 => f x
  | m + 1 => max (convTo f r x m) (f (x - (m + 1)) + pre r (m + 1))
def conv (f : Nat → Int) (r : List Int) (x : Nat) : Int := convTo f r x x

/-- What at most x units are worth to the first n bidders, at best. -/
def bst (R : Nat → List Int) : Nat → Nat → Int
  | 0, _ => 0
  | i + 1, x => conv (bst R i) (R i) x

def sumTo (f : Nat → Int) : Nat → Int
  | 0 => 0
  | n + 1 => sumTo f n + f n
theorem sumTo_congr {f g : Nat → Int} {n : Nat} (h : ∀ i, i < n → f i = g i) : sumTo f n = sumTo g n := by
  induction n with
  | zero => rfl
  | succ n ih => rw [sumTo, sumTo, ih (fun i hi => h i (by omega)), h n (by omega)]
theorem sumTo_le {f g : Nat → Int} {n : Nat} (h : ∀ i, i < n → f i ≤ g i) : sumTo f n ≤ sumTo g n := by
  induction n with
  | zero => simp [sumTo]
  | succ n ih => have h1 := ih (fun i hi => h i (by omega)); have h2 := h n (by omega); rw [sumTo, sumTo]; omega
theorem sumTo_nn {f : Nat → Int} {n : Nat} (h : ∀ i, i < n → 0 ≤ f i) : 0 ≤ sumTo f n := by
  induction n with
  | zero => simp [sumTo]
  | succ n ih => have h1 := ih (fun i hi => h i (by omega)); have h2 := h n (by omega); rw [sumTo]; omega
theorem sumTo_add (f g : Nat → Int) (n : Nat) : sumTo (fun i => f i + g i) n = sumTo f n + sumTo g n := by
  induction n with
  | zero => rfl
  | succ n ih => simp only [sumTo, ih]; omega
theorem sumTo_sub (f g : Nat → Int) (n : Nat) : sumTo (fun i => f i - g i) n = sumTo f n - sumTo g n := by
  induction n with
  | zero => rfl
  | succ n ih => simp only [sumTo, ih]; omega
theorem sumTo_mul (f : Nat → Int) (t : Int) (n : Nat) : sumTo (fun i => f i * t) n = sumTo f n * t := by
  induction n with
  | zero => simp [sumTo]
  | succ n ih => simp only [sumTo, ih, Int.add_mul]
theorem sumTo_const (t : Int) (n : Nat) : sumTo (fun _ => t) n = n * t := by
  induction n with
  | zero => simp [sumTo]
  | succ n ih => simp only [sumTo, ih]; push_cast; rw [Int.add_mul]; omega
/-- One term is apart. -/
theorem sumTo_one {f g : Nat → Int} {n i : Nat} (hi : i < n) (h : ∀ j, j < n → j ≠ i → f j = g j) : sumTo f n - f i = sumTo g n - g i := by
  induction n with
  | zero => omega
  | succ n ih =>
    rw [sumTo, sumTo]
    rcases Nat.lt_or_ge i n with hin | hin
    · have h1 := ih hin (fun j hj hne => h j (by omega) hne)
      have h2 := h n (by omega) (by omega)
      omega
    · obtain rfl : i = n := by omega
      have h1 := sumTo_congr (f := f) (g := g) (n := i) (fun j hj => h j (by omega) (by omega))
      omega

/-- What the units are worth, h i of them to bidder i. -/
def val (R : Nat → List Int) (h : Nat → Nat) (n : Nat) : Int := sumTo (fun i => pre (R i) (h i)) n
def cnt (h : Nat → Nat) (n : Nat) : Int := sumTo (fun i => (h i : Int)) n
/-- How much numbers are above t. -/
def over (t : Int) (r : List Int) : Int := (r.map (fun x => max (x - t) 0)).sum
def ovs (t : Int) (R : Nat → List Int) (n : Nat) : Int := sumTo (fun i => over t (R i)) n

theorem over_nil (t : Int) : over t [] = 0 := rfl
theorem over_cons (t x : Int) (r : List Int) : over t (x :: r) = max (x - t) 0 + over t r := by simp [over]
theorem over_nn (t : Int) : ∀ r : List Int, 0 ≤ over t r
  | [] => by simp [over]
  | x :: r => by have := over_nn t r; rw [over_cons]; omega
theorem over_anti {s t : Int} (h : s ≤ t) : ∀ r : List Int, over t r ≤ over s r
  | [] => by simp [over]
  | x :: r => by have := over_anti h r; rw [over_cons, over_cons]; omega

theorem pre_bound {t : Int} (ht : 0 ≤ t) : ∀ (r : List Int) (c : Nat), pre r c ≤ c * t + over t r
  | [], c => by
    have : 0 ≤ (c : Int) * t := Int.mul_nonneg (by omega) ht
    rw [pre_nil, over_nil]; omega
  | x :: r, 0 => by
    have := over_nn t (x :: r)
    rw [pre_zero]; simp; exact this
  | x :: r, c + 1 => by
    have h1 := pre_bound ht r c
    rw [pre_cons, over_cons]
    have e : ((c + 1 : Nat) : Int) * t = c * t + t := by push_cast; rw [Int.add_mul]; omega
    rw [e]
    omega

theorem convTo_bound {f : Nat → Int} {r : List Int} {t F : Int} (ht : 0 ≤ t) (x : Nat) (hf : ∀ y, y ≤ x → f y ≤ y * t + F) : ∀ m, m ≤ x → convTo f r x m ≤ x * t + (F + over t r)
  | 0, _ => by
    have h1 := hf x (Nat.le_refl _)
    have h2 := over_nn t r
    rw [convTo]; omega
  | m + 1, hm => by
    have h1 := convTo_bound ht x hf m (by omega) (r := r)
    have h2 := hf (x - (m + 1)) (by omega)
    have h3 := pre_bound ht r (m + 1)
    obtain ⟨y, rfl⟩ : ∃ y, x = y + (m + 1) := ⟨x - (m + 1), by omega⟩
    rw [show y + (m + 1) - (m + 1) = y by omega] at h2
    have e : ((y + (m + 1) : Nat) : Int) * t = y * t + ((m + 1 : Nat) : Int) * t := by push_cast; rw [Int.add_mul]
    rw [convTo, show y + (m + 1) - (m + 1) = y by omega]
    omega
theorem convTo_ge {f : Nat → Int} {r : List Int} {x own : Nat} : ∀ m, own ≤ m → f (x - own) + pre r own ≤ convTo f r x m
  | 0, h => by
    obtain rfl : own = 0 := by omega
    rw [convTo, pre_zero]; simp
  | m + 1, h => by
    rw [convTo]
    rcases Nat.lt_or_ge own (m + 1) with h1 | h1
    · have := convTo_ge m (by omega) (f := f) (r := r) (x := x) (own := own); omega
    · obtain rfl : own = m + 1 := by omega
      omega

/-- No number of units is worth more at best than at a price t each, and what is above it. -/
theorem bst_bound {R : Nat → List Int} {t : Int} (ht : 0 ≤ t) : ∀ n k, bst R n k ≤ k * t + ovs t R n
  | 0, k => by
    have : 0 ≤ (k : Int) * t := Int.mul_nonneg (by omega) ht
    simp [bst, ovs, sumTo]; omega
  | n + 1, k => by
    have := convTo_bound (f := bst R n) (r := R n) (F := ovs t R n) ht k (fun y _ => bst_bound ht n y) k (Nat.le_refl _)
    exact this
/-- What is given is worth no more than the best. -/
theorem bst_ge {R : Nat → List Int} {h : Nat → Nat} : ∀ n (k : Nat), cnt h n ≤ k → val R h n ≤ bst R n k
  | 0, k, _ => by simp [bst, val, sumTo]
  | n + 1, k, hk => by
    have e : cnt h (n + 1) = cnt h n + h n := rfl
    have h0 : 0 ≤ cnt h n := sumTo_nn (fun i _ => by omega)
    have h1 := bst_ge n (k - h n) (by omega) (R := R) (h := h)
    have h2 := convTo_ge (f := bst R n) (r := R n) (x := k) (own := h n) k (by omega)
    have e2 : val R h (n + 1) = val R h n + pre (R n) (h n) := rfl
    have e3 : bst R (n + 1) k = convTo (bst R n) (R n) k k := rfl
    rw [e2, e3]; omega

/-- The numbers had are those above t. -/
theorem had_is {t : Int} : ∀ (r : List Int) (c : Nat), c ≤ r.length → (∀ (j : Nat) (x : Int), j < c → r[j]? = some x → t ≤ x) → (∀ (j : Nat) (x : Int), c ≤ j → r[j]? = some x → x ≤ t) → pre r c = c * t + over t r
  | [], c, hc, _, _ => by
    obtain rfl : c = 0 := by simpa using hc
    simp [pre, over]
  | x :: r, 0, _, _, h2 => by
    have h3 := had_is r 0 (Nat.zero_le _) (fun j y hj => absurd hj (by omega)) (fun j y _ hy => h2 (j + 1) y (by omega) (by simpa using hy))
    have h4 := h2 0 x (Nat.le_refl _) rfl
    rw [pre_zero] at h3 ⊢
    rw [over_cons]
    simp at h3 ⊢
    omega
  | x :: r, c + 1, hc, h1, h2 => by
    have h3 := had_is r c (by simpa using hc) (fun j y hj hy => h1 (j + 1) y (by omega) (by simpa using hy)) (fun j y hj hy => h2 (j + 1) y (by omega) (by simpa using hy))
    have h4 := h1 0 x (by omega) rfl
    rw [pre_cons, over_cons, h3]
    have e : ((c + 1 : Nat) : Int) * t = c * t + t := by push_cast; rw [Int.add_mul]; omega
    rw [e]
    omega

theorem bst_nn {R : Nat → List Int} (n k : Nat) : 0 ≤ bst R n k := by
  have h := bst_ge (R := R) (h := fun _ => 0) n k (by
    have : cnt (fun _ => 0) n = 0 := by
      have := sumTo_const 0 n
      simpa [cnt] using this
    omega)
  have e : val R (fun _ => 0) n = 0 := by
    have : val R (fun _ => 0) n = sumTo (fun _ => 0) n := sumTo_congr (fun i _ => pre_zero _)
    rw [this, sumTo_const]; simp
  omega

end Go.Proofs.Ytpildecpabeanaa

/-
  Chapter 3 in plain arithmetic: units given one by one to the one to whom one more is worth the most are worth most.
-/
namespace Go.Proofs.Ytpildecpabeanaa

/-- What one more is worth to bidder i, who has h i. -/
def nxv (R : Nat → List Int) (h : Nat → Nat) (i : Nat) : Int := (R i).getD (h i) 0
/-- Of the first m bidders the first one to whom one more is worth the most, -1 if none has a number for it. -/
def nx (R : Nat → List Int) (h : Nat → Nat) : Nat → Int
  | 0 => -1
  | m + 1 => if h m < (R m).length ∧ (nx R h m < 0 ∨ nxv R h (nx R h m).toNat < nxv R h m) then m else nx R h m

theorem nx_is (R : Nat → List Int) (h : Nat → Nat) : ∀ m, (nx R h m = -1 ∧ ∀ j, j < m → (R j).length ≤ h j) ∨
    ∃ a, a < m ∧ nx R h m = (a : Int) ∧ h a < (R a).length ∧ ∀ j, j < m → h j < (R j).length → nxv R h j ≤ nxv R h a
  | 0 => .inl ⟨rfl, fun j hj => absurd hj (by omega)⟩
  | m + 1 => by
    rw [nx]
    rcases nx_is R h m with ⟨e, hn⟩ | ⟨a, ha, e, hca, hmax⟩
    · by_cases hc : h m < (R m).length
      · rw [if_pos ⟨hc, .inl (by omega)⟩]
        refine .inr ⟨m, by omega, rfl, hc, fun j hj hcj => ?_⟩
        rcases Nat.lt_or_ge j m with hjm | hjm
        · have := hn j hjm; omega
        · obtain rfl : j = m := by omega
          exact Int.le_refl _
      · rw [if_neg (fun x => hc x.1)]
        refine .inl ⟨e, fun j hj => ?_⟩
        rcases Nat.lt_or_ge j m with hjm | hjm
        · exact hn j hjm
        · obtain rfl : j = m := by omega
          omega
    · rw [e]
      simp only [Int.toNat_natCast]
      by_cases hc : h m < (R m).length ∧ ((a : Int) < 0 ∨ nxv R h a < nxv R h m)
      · rw [if_pos hc]
        have h2 : nxv R h a < nxv R h m := by rcases hc.2 with x | x <;> omega
        refine .inr ⟨m, by omega, rfl, hc.1, fun j hj hcj => ?_⟩
        rcases Nat.lt_or_ge j m with hjm | hjm
        · have := hmax j hjm hcj; omega
        · obtain rfl : j = m := by omega
          exact Int.le_refl _
      · rw [if_neg hc]
        refine .inr ⟨a, by omega, rfl, hca, fun j hj hcj => ?_⟩
        rcases Nat.lt_or_ge j m with hjm | hjm
        · exact hmax j hjm hcj
        · obtain rfl : j = m := by omega
          have : ¬ nxv R h a < nxv R h j := fun x => hc ⟨hcj, .inr x⟩
          omega

/-- One unit more is given. -/
def stp (R : Nat → List Int) (n : Nat) (h : Nat → Nat) : Nat → Nat := fun i => if (i : Int) = nx R h n then h i + 1 else h i
/-- How many of k units each bidder has. -/
def aw (R : Nat → List Int) (n : Nat) : Nat → Nat → Nat
  | 0 => fun _ => 0
  | k + 1 => stp R n (aw R n k)

theorem stp_none {R : Nat → List Int} {n : Nat} {h : Nat → Nat} (e : nx R h n = -1) : stp R n h = h := by
  funext i
  unfold stp
  rw [e, if_neg (by omega)]
theorem stp_some {R : Nat → List Int} {n a : Nat} {h : Nat → Nat} (e : nx R h n = (a : Int)) : stp R n h = fun i => if i = a then h i + 1 else h i := by
  funext i
  unfold stp
  rw [e]
  by_cases hi : i = a
  · rw [if_pos hi, if_pos (by omega)]
  · rw [if_neg hi, if_neg (by omega)]
theorem aw_still {R : Nat → List Int} {n k : Nat} (e : nx R (aw R n k) n = -1) : ∀ j, aw R n (k + j) = aw R n k
  | 0 => rfl
  | j + 1 => by
    show stp R n (aw R n (k + j)) = _
    rw [aw_still e j, stp_none e]

def Good (R : Nat → List Int) (n : Nat) : Prop := ∀ i, i < n → RowOk (R i)
/-- Every number had is at least every next one. -/
structure Fair (R : Nat → List Int) (h : Nat → Nat) (n : Nat) : Prop where
  len : ∀ i, i < n → h i ≤ (R i).length
  top : ∀ i, i < n → ∀ (p : Nat) (x : Int), p < h i → (R i)[p]? = some x → ∀ j, j < n → ∀ y : Int, (R j)[h j]? = some y → y ≤ x

theorem nxv_of {R : Nat → List Int} {h : Nat → Nat} {j : Nat} {y : Int} (hy : (R j)[h j]? = some y) : nxv R h j = y := by
  unfold nxv; rw [List.getD_eq_getElem?_getD, hy]; rfl

theorem fair_step {R : Nat → List Int} {n : Nat} {h : Nat → Nat} (hg : Good R n) (hf : Fair R h n) : Fair R (stp R n h) n := by
  rcases nx_is R h n with ⟨e, _⟩ | ⟨a, ha, e, hca, hmax⟩
  · rw [stp_none e]; exact hf
  · rw [stp_some e]
    have hza : (R a)[h a]? = some (R a)[h a] := List.getElem?_eq_getElem hca
    -- what is next now was next, or is behind what was
    have hnext : ∀ j, j < n → ∀ y : Int, (R j)[if j = a then h j + 1 else h j]? = some y → ∃ z, (R j)[h j]? = some z ∧ y ≤ z := by
      intro j hj y hy
      by_cases hja : j = a
      · subst hja
        rw [if_pos rfl] at hy
        exact ⟨_, hza, ((hg j hj).2 _ _ hy).2.2 (h j) _ (by omega) hza⟩
      · rw [if_neg hja] at hy
        exact ⟨y, hy, Int.le_refl _⟩
    refine ⟨fun i hi => ?_, fun i hi p x hp hx j hj y hy => ?_⟩
    · show (if i = a then h i + 1 else h i) ≤ _
      have := hf.len i hi
      split
      · subst_vars; omega
      · exact this
    · obtain ⟨z, hz, hyz⟩ := hnext j hj y hy
      have hp : p < if i = a then h i + 1 else h i := hp
      rcases Nat.lt_or_ge p (h i) with hpl | hpl
      · have := hf.top i hi p x hpl hx j hj z hz; omega
      · by_cases hia : i = a
        · subst hia
          rw [if_pos rfl] at hp
          obtain rfl : p = h i := by omega
          rw [hza] at hx
          cases hx
          have h1 := hmax j hj (by have := (List.getElem?_eq_some_iff.1 hz).1; omega)
          rw [nxv_of hz, nxv_of hza] at h1
          omega
        · rw [if_neg hia] at hp; omega

theorem cnt_step {R : Nat → List Int} {n a : Nat} {h : Nat → Nat} (ha : a < n) (e : nx R h n = (a : Int)) : cnt (stp R n h) n = cnt h n + 1 := by
  rw [stp_some e]
  have h1 : cnt (fun i => if i = a then h i + 1 else h i) n - ((if a = a then h a + 1 else h a : Nat) : Int) = cnt h n - h a :=
    sumTo_one (f := fun i => ((if i = a then h i + 1 else h i : Nat) : Int)) (g := fun i => (h i : Int)) ha (fun j _ hne => by simp only [if_neg hne])
  rw [if_pos rfl] at h1
  have e2 : ((h a + 1 : Nat) : Int) = h a + 1 := by push_cast; rfl
  omega
theorem val_step {R : Nat → List Int} {n a : Nat} {h : Nat → Nat} (ha : a < n) (e : nx R h n = (a : Int)) (hc : h a < (R a).length) : val R (stp R n h) n = val R h n + nxv R h a := by
  rw [stp_some e]
  have h1 : val R (fun i => if i = a then h i + 1 else h i) n - pre (R a) (if a = a then h a + 1 else h a) = val R h n - pre (R a) (h a) :=
    sumTo_one (f := fun i => pre (R i) (if i = a then h i + 1 else h i)) (g := fun i => pre (R i) (h i)) ha (fun j _ hne => by simp only [if_neg hne])
  have hza : (R a)[h a]? = some (R a)[h a] := List.getElem?_eq_getElem hc
  rw [if_pos rfl, pre_step hza] at h1
  rw [nxv_of hza]
  omega

theorem fair_aw {R : Nat → List Int} {n : Nat} (hg : Good R n) : ∀ k, Fair R (aw R n k) n
  | 0 => ⟨fun i _ => Nat.zero_le _, fun i _ p x hp => absurd hp (by simp [aw])⟩
  | k + 1 => fair_step hg (fair_aw hg k)
theorem cnt_aw {R : Nat → List Int} {n : Nat} : ∀ k : Nat, (cnt (aw R n k) n = k ∨ nx R (aw R n k) n = -1) ∧ cnt (aw R n k) n ≤ k
  | 0 => by
    have : cnt (aw R n 0) n = 0 := by
      have := sumTo_const 0 n
      simpa [cnt, aw] using this
    exact ⟨.inl (by omega), by omega⟩
  | k + 1 => by
    obtain ⟨h1, h2⟩ := cnt_aw (R := R) (n := n) k
    show (cnt (stp R n (aw R n k)) n = _ ∨ nx R (stp R n (aw R n k)) n = -1) ∧ cnt (stp R n (aw R n k)) n ≤ _
    rcases nx_is R (aw R n k) n with ⟨e, _⟩ | ⟨a, ha, e, _⟩
    · rw [stp_none e]
      exact ⟨.inr e, by omega⟩
    · rw [cnt_step ha e]
      rcases h1 with h1 | h1
      · exact ⟨.inl (by omega), by omega⟩
      · omega

/-- What the next unit is worth to the one who would have it. -/
def nxt (R : Nat → List Int) (h : Nat → Nat) (n : Nat) : Int := if nx R h n = -1 then 0 else nxv R h (nx R h n).toNat
theorem nxt_none {R : Nat → List Int} {h : Nat → Nat} {n : Nat} (e : nx R h n = -1) : nxt R h n = 0 := by unfold nxt; rw [if_pos e]
theorem nxt_some {R : Nat → List Int} {h : Nat → Nat} {n a : Nat} (e : nx R h n = (a : Int)) : nxt R h n = nxv R h a := by unfold nxt; rw [e, if_neg (by omega)]; simp

theorem nxt_nn {R : Nat → List Int} {h : Nat → Nat} {n : Nat} (hg : Good R n) : 0 ≤ nxt R h n ∧ nxt R h n ≤ 30 := by
  rcases nx_is R h n with ⟨e, _⟩ | ⟨a, ha, e, hca, _⟩
  · rw [nxt_none e]; omega
  · have hza : (R a)[h a]? = some (R a)[h a] := List.getElem?_eq_getElem hca
    rw [nxt_some e, nxv_of hza]
    have := (hg a ha).2 _ _ hza
    omega
/-- The next one is at least all that are not had, and no more than any had. -/
theorem nxt_cut {R : Nat → List Int} {h : Nat → Nat} {n : Nat} (hg : Good R n) (hf : Fair R h n) {i : Nat} (hi : i < n) :
    (∀ (j : Nat) (x : Int), j < h i → (R i)[j]? = some x → nxt R h n ≤ x) ∧ (∀ (j : Nat) (x : Int), h i ≤ j → (R i)[j]? = some x → x ≤ nxt R h n) := by
  rcases nx_is R h n with ⟨e, hn⟩ | ⟨a, ha, e, hca, hmax⟩
  · rw [nxt_none e]
    refine ⟨fun j x _ hx => ((hg i hi).2 j x hx).1, fun j x hj hx => ?_⟩
    have := hn i hi
    have := (List.getElem?_eq_some_iff.1 hx).1
    omega
  · have hza : (R a)[h a]? = some (R a)[h a] := List.getElem?_eq_getElem hca
    rw [nxt_some e, nxv_of hza]
    refine ⟨fun j x hj hx => hf.top i hi j x hj hx a ha _ hza, fun j x hj hx => ?_⟩
    have hjl := (List.getElem?_eq_some_iff.1 hx).1
    have hci : h i < (R i).length := by omega
    have hzi : (R i)[h i]? = some (R i)[h i] := List.getElem?_eq_getElem hci
    have h1 := hmax i hi hci
    rw [nxv_of hzi, nxv_of hza] at h1
    rcases Nat.lt_or_ge (h i) j with hlt | hge
    · have := ((hg i hi).2 j x hx).2.2 (h i) _ hlt hzi
      omega
    · obtain rfl : j = h i := by omega
      rw [hzi] at hx; cases hx
      exact h1

theorem val_dual {R : Nat → List Int} {h : Nat → Nat} {n : Nat} (hg : Good R n) (hf : Fair R h n) : val R h n = cnt h n * nxt R h n + ovs (nxt R h n) R n := by
  have e : val R h n = sumTo (fun i => (h i : Int) * nxt R h n + over (nxt R h n) (R i)) n :=
    sumTo_congr (fun i hi => had_is (R i) (h i) (hf.len i hi) (nxt_cut hg hf hi).1 (nxt_cut hg hf hi).2)
  rw [e, sumTo_add, sumTo_mul]
  rfl

/-- The best of k units by a price each. -/
theorem aw_dual {R : Nat → List Int} {n : Nat} (hg : Good R n) (k : Nat) : val R (aw R n k) n = k * nxt R (aw R n k) n + ovs (nxt R (aw R n k) n) R n := by
  rw [val_dual hg (fair_aw hg k)]
  rcases (cnt_aw (R := R) (n := n) k).1 with h | h
  · rw [h]
  · rw [nxt_none h]; simp
theorem aw_best {R : Nat → List Int} {n : Nat} (hg : Good R n) (k : Nat) : val R (aw R n k) n = bst R n k := by
  have h1 := bst_ge (R := R) n k (cnt_aw (R := R) (n := n) k).2
  have h2 := bst_bound (R := R) (nxt_nn (h := aw R n k) hg).1 n k
  rw [← aw_dual hg k] at h2
  omega
theorem bst_dual {R : Nat → List Int} {n : Nat} (hg : Good R n) (k : Nat) : ∃ t, 0 ≤ t ∧ t ≤ 30 ∧ bst R n k = k * t + ovs t R n :=
  ⟨nxt R (aw R n k) n, (nxt_nn hg).1, (nxt_nn hg).2, by rw [← aw_best hg k]; exact aw_dual hg k⟩

/-- One unit more. -/
theorem bst_succ {R : Nat → List Int} {n : Nat} (hg : Good R n) (k : Nat) : bst R n (k + 1) = bst R n k + nxt R (aw R n k) n := by
  rw [← aw_best hg, ← aw_best hg]
  show val R (stp R n (aw R n k)) n = _
  rcases nx_is R (aw R n k) n with ⟨e, _⟩ | ⟨a, ha, e, hca, _⟩
  · rw [stp_none e, nxt_none e]; omega
  · rw [val_step ha e hca, nxt_some e]
theorem nxt_anti {R : Nat → List Int} {n : Nat} (hg : Good R n) (k : Nat) : nxt R (aw R n (k + 1)) n ≤ nxt R (aw R n k) n := by
  rcases nx_is R (aw R n k) n with ⟨e, _⟩ | ⟨a, ha, e, hca, _⟩
  · have := aw_still e 1
    rw [this]; exact Int.le_refl _
  · have h1 := (nxt_cut hg (fair_aw hg (k + 1)) ha).1 (aw R n k a) _ (by show _ < stp R n (aw R n k) a; rw [stp_some e]; simp) (List.getElem?_eq_getElem hca)
    rw [nxt_some e, nxv_of (List.getElem?_eq_getElem hca)]
    exact h1

/-- The best leans on what is above each price alone. -/
theorem bst_same {R R' : Nat → List Int} {n n' : Nat} (hg : Good R n) (hg' : Good R' n') (h : ∀ t, 0 ≤ t → ovs t R n = ovs t R' n') (k : Nat) : bst R n k = bst R' n' k := by
  obtain ⟨t, ht, _, e⟩ := bst_dual hg k
  obtain ⟨t', ht', _, e'⟩ := bst_dual hg' k
  have h1 := bst_bound (R := R) ht' n k
  have h2 := bst_bound (R := R') ht n' k
  rw [h t' ht'] at h1
  rw [← h t ht] at h2
  omega
theorem bst_le600 {R : Nat → List Int} {n : Nat} (hg : Good R n) (k : Nat) : bst R n k ≤ 150 * n := by
  rw [← aw_best hg k]
  have := sumTo_le (f := fun i => pre (R i) (aw R n k i)) (g := fun _ => 150) (n := n) (fun i hi => (pre_le150 (hg i hi) _).2)
  rw [sumTo_const] at this
  unfold val
  omega
theorem bst_mono {R : Nat → List Int} {n : Nat} {j k : Nat} (hjk : j ≤ k) (hg : Good R n) : bst R n j ≤ bst R n k := by
  rw [← aw_best hg j]
  exact bst_ge n k (by have := (cnt_aw (R := R) (n := n) j).2; omega)

/-- How many there are. -/
theorem cnt_min {R : Nat → List Int} {n : Nat} (hg : Good R n) (k : Nat) : cnt (aw R n k) n = min (k : Int) (sumTo (fun i => ((R i).length : Int)) n) := by
  obtain ⟨h1, h2⟩ := cnt_aw (R := R) (n := n) k
  have h3 : cnt (aw R n k) n ≤ sumTo (fun i => ((R i).length : Int)) n := sumTo_le (fun i hi => by have := (fair_aw hg k).len i hi; omega)
  rcases h1 with h1 | h1
  · omega
  · have h4 : sumTo (fun i => ((R i).length : Int)) n ≤ cnt (aw R n k) n := by
      rcases nx_is R (aw R n k) n with ⟨e, hn⟩ | ⟨a, ha, e, _⟩
      · exact sumTo_le (fun i hi => by have := hn i hi; omega)
      · omega
    omega

end Go.Proofs.Ytpildecpabeanaa
