/-
  Chapter 10 in plain arithmetic: numbers by size, orders by insertion, trades that are worth while, and what one trade fewer says.
-/
import Derived.Below
namespace Go.Proofs.Ytpildecpabeanaa

/-! ### By size -/

def upL (xs : List Int) : List Int := xs.mergeSort fun x y => decide (x ≤ y)
def dnL (xs : List Int) : List Int := (upL xs).reverse
theorem upL_perm (xs : List Int) : (upL xs).Perm xs := List.mergeSort_perm xs _
theorem dnL_perm (xs : List Int) : (dnL xs).Perm xs := (List.reverse_perm _).trans (upL_perm xs)
theorem upL_len (xs : List Int) : (upL xs).length = xs.length := (upL_perm xs).length_eq
theorem dnL_len (xs : List Int) : (dnL xs).length = xs.length := (dnL_perm xs).length_eq
theorem upL_asc (xs : List Int) : (upL xs).Pairwise (fun a b => a ≤ b) := by
  have := List.pairwise_mergeSort (le := fun x y : Int => decide (x ≤ y)) (by intro a b c; simp; omega) (by intro a b; simp; omega) xs
  unfold upL
  simpa using this
theorem dnL_desc (xs : List Int) : (dnL xs).Pairwise (fun a b => b ≤ a) := by
  unfold dnL; rw [List.pairwise_reverse]; exact upL_asc xs
theorem asc_eq {l1 l2 : List Int} (h1 : l1.Pairwise (fun a b => a ≤ b)) (h2 : l2.Pairwise (fun a b => a ≤ b)) (hp : l1.Perm l2) : l1 = l2 :=
  List.Perm.eq_of_pairwise (le := fun a b => a ≤ b) (fun _ _ _ _ h1 h2 => Int.le_antisymm h1 h2) h1 h2 hp
theorem desc_eq {l1 l2 : List Int} (h1 : l1.Pairwise (fun a b => b ≤ a)) (h2 : l2.Pairwise (fun a b => b ≤ a)) (hp : l1.Perm l2) : l1 = l2 :=
  List.Perm.eq_of_pairwise (le := fun a b => b ≤ a) (fun _ _ _ _ h1 h2 => Int.le_antisymm h2 h1) h1 h2 hp

theorem asc_at {l : List Int} (h : l.Pairwise (fun a b => a ≤ b)) {i j : Nat} {x y : Int} (hij : i ≤ j) (hx : l[i]? = some x) (hy : l[j]? = some y) : x ≤ y := by
  obtain ⟨hi, rfl⟩ := List.getElem?_eq_some_iff.1 hx
  obtain ⟨hj, rfl⟩ := List.getElem?_eq_some_iff.1 hy
  rcases Nat.lt_or_eq_of_le hij with h1 | h1
  · exact List.pairwise_iff_getElem.1 h i j hi hj h1
  · subst h1; exact Int.le_refl _
theorem desc_at {l : List Int} (h : l.Pairwise (fun a b => b ≤ a)) {i j : Nat} {x y : Int} (hij : i ≤ j) (hx : l[i]? = some x) (hy : l[j]? = some y) : y ≤ x := by
  obtain ⟨hi, rfl⟩ := List.getElem?_eq_some_iff.1 hx
  obtain ⟨hj, rfl⟩ := List.getElem?_eq_some_iff.1 hy
  rcases Nat.lt_or_eq_of_le hij with h1 | h1
  · exact List.pairwise_iff_getElem.1 h i j hi hj h1
  · subst h1; exact Int.le_refl _

/-- How many are greater than p. -/
def abv (xs : List Int) (p : Int) : Nat := xs.countP (fun x => decide (p < x))
theorem abv_le (xs : List Int) (p : Int) : abv xs p ≤ xs.length := List.countP_le_length
theorem abv_perm {xs ys : List Int} (h : xs.Perm ys) (p : Int) : abv xs p = abv ys p := h.countP_eq _
theorem abv_take {xs : List Int} {k : Nat} {x : Int} (hx : xs[k]? = some x) (p : Int) : abv (xs.take (k + 1)) p = abv (xs.take k) p + (if p < x then 1 else 0) := by
  unfold abv
  rw [List.take_add_one, hx, Option.toList_some, List.countP_append, List.countP_singleton]
  by_cases h : p < x <;> simp [h]
theorem abv_all (xs : List Int) (p : Int) : abv (xs.take xs.length) p = abv xs p := by rw [List.take_length]
theorem abv_anti (xs : List Int) {p q : Int} (h : p ≤ q) : abv xs q ≤ abv xs p := by
  unfold abv
  exact List.countP_mono_left (fun x _ hx => by simp at hx ⊢; omega)
theorem abv_append (xs ys : List Int) (p : Int) : abv (xs ++ ys) p = abv xs p + abv ys p := by unfold abv; rw [List.countP_append]

theorem desc_abv {D : List Int} (hd : D.Pairwise (fun a b => b ≤ a)) {k : Nat} {y t : Int} (hy : D[k]? = some y) : t < y ↔ k < abv D t := by
  obtain ⟨hk, rfl⟩ := List.getElem?_eq_some_iff.1 hy
  have e : abv D t = abv (D.take k) t + (if t < D[k] then 1 else 0) + abv (D.drop (k + 1)) t := by
    rw [← abv_take hy t, ← abv_append, List.take_append_drop]
  have e1 := abv_le (D.take k) t
  rw [List.length_take] at e1
  constructor
  · intro h
    have e2 : abv (D.take k) t = (D.take k).length := by
      unfold abv
      rw [List.countP_eq_length]
      intro x hx
      obtain ⟨j, hj, rfl⟩ := List.getElem_of_mem hx
      rw [List.length_take] at hj
      rw [List.getElem_take]
      have := List.pairwise_iff_getElem.1 hd j k (by omega) hk (by omega)
      simp; omega
    rw [List.length_take] at e2
    rw [if_pos h] at e
    omega
  · intro h
    rcases Int.lt_or_le t D[k] with hlt | hle
    · exact hlt
    · have e2 : abv (D.drop (k + 1)) t = 0 := by
        unfold abv
        rw [List.countP_eq_zero]
        intro x hx
        obtain ⟨j, hj, rfl⟩ := List.getElem_of_mem hx
        rw [List.length_drop] at hj
        rw [List.getElem_drop]
        have := List.pairwise_iff_getElem.1 hd k (k + 1 + j) hk (by omega) (by omega)
        simp; omega
      rw [if_neg (by omega)] at e
      omega
theorem asc_abv {U : List Int} (hu : U.Pairwise (fun a b => a ≤ b)) {k : Nat} {y t : Int} (hy : U[k]? = some y) : y ≤ t ↔ k < U.length - abv U t := by
  have hr : U.reverse.Pairwise (fun a b => b ≤ a) := by rw [List.pairwise_reverse]; exact hu
  have hk := (List.getElem?_eq_some_iff.1 hy).1
  have hy' : U.reverse[U.length - 1 - k]? = some y := by
    rw [List.getElem?_reverse (by omega), show U.length - 1 - (U.length - 1 - k) = k by omega]; exact hy
  have h1 := desc_abv hr hy' (t := t)
  have h2 : abv U.reverse t = abv U t := abv_perm (List.reverse_perm U) t
  have h3 := abv_le U t
  rw [h2] at h1
  omega

/-! ### Orders by insertion -/

/-- How many from the front on P holds of. -/
def cutP (P : Nat → Bool) : List Nat → Nat
  | [] => 0
  | j :: l => if P j then cutP P l + 1 else 0
def insP (P : Nat → Bool) (i : Nat) (l : List Nat) : List Nat := l.take (cutP P l) ++ i :: l.drop (cutP P l)
/-- The order of the numbers up to n by f, the greatest first, the first ones of several first. -/
def ordF (f : Nat → Int) : Nat → List Nat
  | 0 => []
  | n + 1 => insP (fun j => decide (f n ≤ f j)) n (ordF f n)

theorem cutP_le (P : Nat → Bool) : ∀ l, cutP P l ≤ l.length
  | [] => Nat.le_refl _
  | j :: l => by rw [cutP]; have := cutP_le P l; split <;> simp <;> omega
theorem cutP_step {P : Nat → Bool} {l : List Nat} {k j : Nat} (hj : l[k]? = some j) (h : P j = true) : cutP P (l.drop k) = cutP P (l.drop (k + 1)) + 1 := by
  obtain ⟨hk, rfl⟩ := List.getElem?_eq_some_iff.1 hj
  rw [List.drop_eq_getElem_cons hk, cutP, if_pos h]
theorem cutP_stop {P : Nat → Bool} {l : List Nat} {k j : Nat} (hj : l[k]? = some j) (h : P j = false) : cutP P (l.drop k) = 0 := by
  obtain ⟨hk, rfl⟩ := List.getElem?_eq_some_iff.1 hj
  rw [List.drop_eq_getElem_cons hk, cutP, if_neg (by simp [h])]
theorem cutP_end {P : Nat → Bool} {l : List Nat} : cutP P (l.drop l.length) = 0 := by rw [List.drop_length]; rfl
theorem cutP_yes {P : Nat → Bool} : ∀ (l : List Nat), ∀ j ∈ l.take (cutP P l), P j = true
  | [], j, h => by simp at h
  | a :: l, j, h => by
    rw [cutP] at h
    split at h
    · rename_i hp
      rw [List.take_succ_cons] at h
      rcases List.mem_cons.1 h with rfl | h
      · exact hp
      · exact cutP_yes l j h
    · simp at h
theorem cutP_no {P : Nat → Bool} : ∀ (l : List Nat) (a : Nat), l[cutP P l]? = some a → P a = false
  | [], a, h => by simp at h
  | b :: l, a, h => by
    rw [cutP] at h
    split at h
    · rw [List.getElem?_cons_succ] at h
      exact cutP_no l a h
    · rename_i hp
      simp at h
      subst h
      simpa using hp
theorem insP_perm (P : Nat → Bool) (i : Nat) (l : List Nat) : (insP P i l).Perm (i :: l) := by
  unfold insP
  refine List.perm_middle.trans ?_
  rw [List.take_append_drop]
theorem ordF_perm (f : Nat → Int) : ∀ n, (ordF f n).Perm (List.range n)
  | 0 => List.Perm.refl _
  | n + 1 => by
    rw [ordF, List.range_succ]
    refine (insP_perm _ _ _).trans ?_
    exact ((ordF_perm f n).cons n).trans (List.perm_append_singleton n (List.range n)).symm
theorem ordF_len (f : Nat → Int) (n : Nat) : (ordF f n).length = n := by rw [(ordF_perm f n).length_eq, List.length_range]
theorem ordF_lt {f : Nat → Int} {n j : Nat} (h : j ∈ ordF f n) : j < n := List.mem_range.1 ((ordF_perm f n).mem_iff.1 h)

/-- j goes ahead of i. -/
def ahead (f : Nat → Int) (j i : Nat) : Prop := f i < f j ∨ (f i = f j ∧ j < i)
theorem ordF_sorted (f : Nat → Int) : ∀ n, (ordF f n).Pairwise (ahead f)
  | 0 => List.Pairwise.nil
  | n + 1 => by
    have ih := ordF_sorted f n
    rw [ordF, insP]
    have e := List.take_append_drop (cutP (fun j => decide (f n ≤ f j)) (ordF f n)) (ordF f n)
    obtain ⟨c, hc⟩ : ∃ c, c = cutP (fun j => decide (f n ≤ f j)) (ordF f n) := ⟨_, rfl⟩
    have hno := cutP_no (P := fun j => decide (f n ≤ f j)) (ordF f n)
    have hyes := cutP_yes (P := fun j => decide (f n ≤ f j)) (ordF f n)
    rw [← hc] at hno hyes e ⊢
    have ih' := ih
    rw [← e, List.pairwise_append] at ih
    rw [List.pairwise_append, List.pairwise_cons]
    refine ⟨ih.1, ⟨?_, ih.2.1⟩, ?_⟩
    · intro a ha
      obtain ⟨k, hk, rfl⟩ := List.getElem_of_mem ha
      rw [List.length_drop] at hk
      rw [List.getElem_drop]
      have hn := hno ((ordF f n)[c]'(by omega)) (List.getElem?_eq_getElem (by omega))
      have hn : f ((ordF f n)[c]'(by omega)) < f n := by simpa using hn
      rcases Nat.eq_zero_or_pos k with h0 | h0
      · subst h0; exact .inl hn
      · have := List.pairwise_iff_getElem.1 ih' c (c + k) (by omega) (by omega) (by omega)
        left
        rcases this with h | ⟨h, _⟩ <;> omega
    · intro a ha b hb
      rcases List.mem_cons.1 hb with rfl | hb
      · have h1 : f b ≤ f a := by simpa using hyes a ha
        have h2 : a < b := ordF_lt (f := f) (List.mem_of_mem_take ha)
        unfold ahead
        omega
      · exact ih.2.2 a ha b hb

/-- The numbers of a list in an order of places. -/
def valsBy (xs : List Int) (l : List Nat) : List Int := l.map (fun j => xs.getD j 0)
theorem vals_range (xs : List Int) : valsBy xs (List.range xs.length) = xs := by
  apply List.ext_getElem?
  intro i
  unfold valsBy
  rw [List.getElem?_map]
  rcases Nat.lt_or_ge i xs.length with h | h
  · rw [List.getElem?_range h, List.getElem?_eq_getElem h]
    simp [h]
  · rw [List.getElem?_eq_none (by simpa using h), List.getElem?_eq_none h]; rfl
theorem vals_dn (xs : List Int) : valsBy xs (ordF (fun j => xs.getD j 0) xs.length) = dnL xs := by
  refine desc_eq ?_ (dnL_desc xs) ?_
  · unfold valsBy
    rw [List.pairwise_map]
    exact (ordF_sorted _ _).imp (fun h => by simp only [ahead] at h; omega)
  · refine ((ordF_perm _ _).map _).trans ?_
    refine List.Perm.trans ?_ (dnL_perm xs).symm
    exact List.Perm.of_eq (vals_range xs)
theorem vals_up (xs : List Int) : valsBy xs (ordF (fun j => -xs.getD j 0) xs.length) = upL xs := by
  refine asc_eq ?_ (upL_asc xs) ?_
  · unfold valsBy
    rw [List.pairwise_map]
    exact (ordF_sorted _ _).imp (fun h => by simp only [ahead] at h; omega)
  · refine ((ordF_perm _ _).map _).trans ?_
    refine List.Perm.trans ?_ (upL_perm xs).symm
    exact List.Perm.of_eq (vals_range xs)
theorem vals_at {xs : List Int} {l : List Nat} {n j : Nat} (h : l[n]? = some j) : (valsBy xs l)[n]? = some (xs.getD j 0) := by unfold valsBy; rw [List.getElem?_map, h]; rfl

/-- How many are ahead of i. -/
def posF (xs : List Int) (i : Nat) : Nat := abv (xs.take i) (xs.getD i 0 - 1) + abv (xs.drop (i + 1)) (xs.getD i 0)

theorem place_count {R : Nat → Nat → Bool} (irr : ∀ i, R i i = false) (asy : ∀ i j, R i j = true → R j i = false) :
    ∀ (l : List Nat), l.Pairwise (fun a b => R a b = true) → ∀ k i, l[k]? = some i → l.countP (fun j => R j i) = k
  | [], _, k, i, h => by simp at h
  | a :: l, hp, 0, i, h => by
    simp at h
    subst h
    rw [List.pairwise_cons] at hp
    rw [List.countP_cons, irr, List.countP_eq_zero.2 (fun j hj => by rw [asy _ _ (hp.1 j hj)]; simp)]
    simp
  | a :: l, hp, k + 1, i, h => by
    rw [List.pairwise_cons] at hp
    rw [List.getElem?_cons_succ] at h
    rw [List.countP_cons, place_count irr asy l hp.2 k i h, hp.1 i (List.mem_of_getElem? h)]
    simp
theorem range_split {n i : Nat} (hi : i < n) : List.range n = List.range i ++ i :: (List.range (n - (i + 1))).map (fun j => i + 1 + j) := by
  apply List.ext_getElem?
  intro k
  rcases Nat.lt_trichotomy k i with h | h | h
  · rw [List.getElem?_append_left (by simpa using h), List.getElem?_range (by omega), List.getElem?_range h]
  · subst h
    rw [List.getElem?_append_right (by simp), List.getElem?_range hi]
    simp
  · rw [List.getElem?_append_right (by simp; omega)]
    simp only [List.length_range]
    rw [show k - i = (k - (i + 1)) + 1 by omega, List.getElem?_cons_succ, List.getElem?_map]
    rcases Nat.lt_or_ge k n with hk | hk
    · rw [List.getElem?_range hk, List.getElem?_range (by omega)]
      simp; omega
    · rw [List.getElem?_eq_none (by simpa using hk), List.getElem?_eq_none (by simp; omega)]; rfl
theorem count_take (xs : List Int) (p : Int) : ∀ i, i ≤ xs.length → (List.range i).countP (fun j => decide (p < xs.getD j 0)) = abv (xs.take i) p
  | 0, _ => by simp [abv]
  | i + 1, h => by
    have e : xs[i]? = some xs[i] := List.getElem?_eq_getElem (by omega)
    rw [List.range_succ, List.countP_append, count_take xs p i (by omega), abv_take e]
    rw [List.countP_singleton, List.getD_eq_getElem?_getD, e, Option.getD_some]
    by_cases hp : p < xs[i] <;> simp [hp]
theorem count_drop (xs : List Int) (p : Int) (i : Nat) : ((List.range (xs.length - (i + 1))).map (fun j => i + 1 + j)).countP (fun j => decide (p < xs.getD j 0)) = abv (xs.drop (i + 1)) p := by
  have := count_take (xs.drop (i + 1)) p (xs.length - (i + 1)) (by rw [List.length_drop]; exact Nat.le_refl _)
  rw [List.take_of_length_le (by rw [List.length_drop]; exact Nat.le_refl _)] at this
  rw [← this, List.countP_map]
  refine congrFun (congrArg List.countP (funext fun j => ?_)) _
  simp [List.getD_eq_getElem?_getD, List.getElem?_drop]
/-- The place of i in the order is how many are ahead. -/
theorem ord_place {xs : List Int} {k i : Nat} (h : (ordF (fun j => xs.getD j 0) xs.length)[k]? = some i) : posF xs i = k := by
  have hi : i < xs.length := ordF_lt (List.mem_of_getElem? h)
  let R : Nat → Nat → Bool := fun j i => decide (xs.getD i 0 < xs.getD j 0 ∨ (xs.getD i 0 = xs.getD j 0 ∧ j < i))
  have h1 := place_count (R := R) (by intro i; simp [R]) (by intro i j; simp [R]; omega) (ordF (fun j => xs.getD j 0) xs.length)
    ((ordF_sorted _ _).imp (fun h => by simpa [R, ahead] using h)) k i h
  rw [(ordF_perm _ _).countP_eq, range_split hi, List.countP_append, List.countP_cons] at h1
  have e0 : R i i = false := by simp [R]
  have e1 : (List.range i).countP (fun j => R j i) = (List.range i).countP (fun j => decide (xs.getD i 0 - 1 < xs.getD j 0)) := by
    apply List.countP_congr
    intro j hj
    have := List.mem_range.1 hj
    simp only [R, decide_eq_true_eq]
    omega
  have e2 : ((List.range (xs.length - (i + 1))).map (fun j => i + 1 + j)).countP (fun j => R j i) = ((List.range (xs.length - (i + 1))).map (fun j => i + 1 + j)).countP (fun j => decide (xs.getD i 0 < xs.getD j 0)) := by
    apply List.countP_congr
    intro j hj
    obtain ⟨q, hq, rfl⟩ := List.mem_map.1 hj
    simp only [R, decide_eq_true_eq]
    omega
  rw [e0, e1, e2, count_take xs _ i (by omega), count_drop] at h1
  unfold posF
  simpa using h1
theorem ord_has {xs : List Int} {i : Nat} (hi : i < xs.length) : (ordF (fun j => xs.getD j 0) xs.length)[posF xs i]? = some i := by
  have hm : i ∈ ordF (fun j => xs.getD j 0) xs.length := (ordF_perm _ _).mem_iff.2 (List.mem_range.2 hi)
  obtain ⟨k, hk, he⟩ := List.getElem_of_mem hm
  have h := List.getElem?_eq_getElem hk
  rw [he] at h
  rw [ord_place h]; exact h

/-! ### Trades -/

def trN : List Int → List Int → Nat
  | x :: xs, y :: ys => if y ≤ x then trN xs ys + 1 else 0
  | _, _ => 0
def trG : List Int → List Int → Int
  | x :: xs, y :: ys => if y ≤ x then x - y + trG xs ys else 0
  | _, _ => 0
theorem tr_yes {D U : List Int} {n : Nat} {x y : Int} (hx : D[n]? = some x) (hy : U[n]? = some y) (h : y ≤ x) :
    trN (D.drop n) (U.drop n) = trN (D.drop (n + 1)) (U.drop (n + 1)) + 1 ∧ trG (D.drop n) (U.drop n) = x - y + trG (D.drop (n + 1)) (U.drop (n + 1)) := by
  obtain ⟨h1, rfl⟩ := List.getElem?_eq_some_iff.1 hx
  obtain ⟨h2, rfl⟩ := List.getElem?_eq_some_iff.1 hy
  rw [List.drop_eq_getElem_cons h1, List.drop_eq_getElem_cons h2, trN, trG, if_pos h, if_pos h]
  exact ⟨rfl, rfl⟩
theorem tr_no {D U : List Int} {n : Nat} {x y : Int} (hx : D[n]? = some x) (hy : U[n]? = some y) (h : ¬ y ≤ x) :
    trN (D.drop n) (U.drop n) = 0 ∧ trG (D.drop n) (U.drop n) = 0 := by
  obtain ⟨h1, rfl⟩ := List.getElem?_eq_some_iff.1 hx
  obtain ⟨h2, rfl⟩ := List.getElem?_eq_some_iff.1 hy
  rw [List.drop_eq_getElem_cons h1, List.drop_eq_getElem_cons h2, trN, trG, if_neg h, if_neg h]
  exact ⟨rfl, rfl⟩
theorem tr_end {D U : List Int} {n : Nat} (h : D.length ≤ n ∨ U.length ≤ n) : trN (D.drop n) (U.drop n) = 0 ∧ trG (D.drop n) (U.drop n) = 0 := by
  rcases h with h | h
  · rw [List.drop_eq_nil_of_le h]; cases U.drop n <;> exact ⟨rfl, rfl⟩
  · rw [List.drop_eq_nil_of_le h]; cases D.drop n <;> exact ⟨rfl, rfl⟩

theorem trN_le : ∀ (D U : List Int), trN D U ≤ D.length ∧ trN D U ≤ U.length
  | [], _ => by simp [trN]
  | _ :: _, [] => by simp [trN]
  | x :: D, y :: U => by
    have := trN_le D U
    rw [trN]; split <;> simp <;> omega
theorem trG_le : ∀ (D U : List Int), (∀ x ∈ D, 0 ≤ x ∧ x ≤ 30) → (∀ x ∈ U, 0 ≤ x ∧ x ≤ 30) → 0 ≤ trG D U ∧ trG D U ≤ 30 * D.length
  | [], _, _, _ => by simp [trG]
  | _ :: _, [], _, _ => by simp [trG]; omega
  | x :: D, y :: U, h1, h2 => by
    have := trG_le D U (fun z hz => h1 z (List.mem_cons_of_mem _ hz)) (fun z hz => h2 z (List.mem_cons_of_mem _ hz))
    have a := h1 x (by simp)
    have b := h2 y (by simp)
    rw [trG, List.length_cons]
    push_cast
    split <;> omega
theorem tr_in : ∀ (D U : List Int) (k : Nat), k < trN D U → ∃ x y, D[k]? = some x ∧ U[k]? = some y ∧ y ≤ x
  | [], _, k, h => by simp [trN] at h
  | _ :: _, [], k, h => by simp [trN] at h
  | x :: D, y :: U, 0, h => by
    rw [trN] at h
    split at h
    · rename_i hle; exact ⟨x, y, rfl, rfl, hle⟩
    · omega
  | x :: D, y :: U, k + 1, h => by
    rw [trN] at h
    split at h
    · obtain ⟨a, b, h1, h2, h3⟩ := tr_in D U k (by omega)
      exact ⟨a, b, by rw [List.getElem?_cons_succ]; exact h1, by rw [List.getElem?_cons_succ]; exact h2, h3⟩
    · omega
theorem tr_out : ∀ (D U : List Int) (x y : Int), D[trN D U]? = some x → U[trN D U]? = some y → x < y
  | [], _, x, y, h, _ => by simp at h
  | _ :: _, [], x, y, _, h => by simp at h
  | a :: D, b :: U, x, y, h1, h2 => by
    rw [trN] at h1 h2
    split at h1
    · rename_i hle
      rw [if_pos hle] at h2
      rw [List.getElem?_cons_succ] at h1 h2
      exact tr_out D U x y h1 h2
    · rename_i hle
      rw [if_neg hle] at h2
      simp at h1 h2
      omega
theorem tr_iff {D U : List Int} (hd : D.Pairwise (fun a b => b ≤ a)) (hu : U.Pairwise (fun a b => a ≤ b)) {k : Nat} {x y : Int} (hx : D[k]? = some x) (hy : U[k]? = some y) : k < trN D U ↔ y ≤ x := by
  constructor
  · intro h
    obtain ⟨a, b, h1, h2, h3⟩ := tr_in D U k h
    rw [hx] at h1; rw [hy] at h2; cases h1; cases h2; exact h3
  · intro h
    rcases Nat.lt_or_ge k (trN D U) with hk | hk
    · exact hk
    · exfalso
      have l1 := (List.getElem?_eq_some_iff.1 hx).1
      have l2 := (List.getElem?_eq_some_iff.1 hy).1
      have e1 : D[trN D U]? = some (D[trN D U]'(by omega)) := List.getElem?_eq_getElem _
      have e2 : U[trN D U]? = some (U[trN D U]'(by omega)) := List.getElem?_eq_getElem _
      have h1 := tr_out D U _ _ e1 e2
      have h2 := desc_at hd hk e1 hx
      have h3 := asc_at hu hk e2 hy
      omega

/-! ### Numbers taken from the greatest -/

def mir (xs : List Int) : List Int := xs.map (fun x => 30 - x)
theorem mir_len (xs : List Int) : (mir xs).length = xs.length := by simp [mir]
theorem mir_at {xs : List Int} {i : Nat} {x : Int} (h : xs[i]? = some x) : (mir xs)[i]? = some (30 - x) := by unfold mir; rw [List.getElem?_map, h]; rfl
theorem mir_bd {xs : List Int} (h : ∀ x ∈ xs, 0 ≤ x ∧ x ≤ 30) : ∀ x ∈ mir xs, 0 ≤ x ∧ x ≤ 30 := by
  intro x hx
  obtain ⟨y, hy, rfl⟩ := List.mem_map.1 hx
  have := h y hy
  omega
theorem dn_mir (xs : List Int) : dnL (mir xs) = mir (upL xs) := by
  refine desc_eq (dnL_desc _) ?_ ((dnL_perm _).trans ((upL_perm xs).map _).symm)
  unfold mir
  rw [List.pairwise_map]
  exact (upL_asc xs).imp (fun h => by omega)
theorem up_mir (xs : List Int) : upL (mir xs) = mir (dnL xs) := by
  refine asc_eq (upL_asc _) ?_ ((upL_perm _).trans ((dnL_perm xs).map _).symm)
  unfold mir
  rw [List.pairwise_map]
  exact (dnL_desc xs).imp (fun h => by omega)
theorem tr_mir : ∀ (D U : List Int), trN (mir U) (mir D) = trN D U ∧ trG (mir U) (mir D) = trG D U
  | [], [] => by simp [mir, trN, trG]
  | [], _ :: _ => by simp [mir, trN, trG]
  | _ :: _, [] => by simp [mir, trN, trG]
  | x :: D, y :: U => by
    obtain ⟨h1, h2⟩ := tr_mir D U
    have e : ∀ (a : Int) (l : List Int), mir (a :: l) = (30 - a) :: mir l := fun _ _ => rfl
    rw [e, e, trN, trG, trN, trG, h1, h2]
    by_cases h : y ≤ x
    · have h' : 30 - x ≤ 30 - y := by omega
      simp only [if_pos h, if_pos h']; exact ⟨trivial, by omega⟩
    · have h' : ¬ 30 - x ≤ 30 - y := by omega
      simp only [if_neg h, if_neg h']; exact ⟨trivial, trivial⟩

def trOf (b s : List Int) : Nat := trN (dnL b) (upL s)
def gnOf (b s : List Int) : Int := trG (dnL b) (upL s)
theorem trOf_mir (b s : List Int) : trOf (mir s) (mir b) = trOf b s ∧ gnOf (mir s) (mir b) = gnOf b s := by
  unfold trOf gnOf
  rw [dn_mir, up_mir]
  exact tr_mir _ _
theorem trOf_le (b s : List Int) : trOf b s ≤ b.length ∧ trOf b s ≤ s.length := by
  have := trN_le (dnL b) (upL s)
  rw [dnL_len, upL_len] at this
  exact this
theorem mem_dn {xs : List Int} {x : Int} : x ∈ dnL xs ↔ x ∈ xs := (dnL_perm xs).mem_iff
theorem mem_up {xs : List Int} {x : Int} : x ∈ upL xs ↔ x ∈ xs := (upL_perm xs).mem_iff

/-! ### The range -/

def wtB (b s : List Int) (n : Nat) (p : Int) : Bool :=
  decide (n ≤ abv b (p - 1)) && decide (abv b p ≤ n) && decide (n ≤ s.length - abv s p) && decide (s.length - abv s (p - 1) ≤ n)
def rgF (W : Nat → Bool) : Nat → Int × Int
  | 0 => (-1, -1)
  | k + 1 => if W k then (if (rgF W k).1 < 0 then (k : Int) else (rgF W k).1, (k : Int)) else rgF W k
theorem rgF_yes {W : Nat → Bool} {k : Nat} (h : W k = true) : rgF W (k + 1) = (if (rgF W k).1 < 0 then (k : Int) else (rgF W k).1, (k : Int)) := by rw [rgF, if_pos h]
theorem rgF_no {W : Nat → Bool} {k : Nat} (h : W k = false) : rgF W (k + 1) = rgF W k := by rw [rgF, if_neg (by simp [h])]
theorem rgF_is (W : Nat → Bool) : ∀ n, (rgF W n = (-1, -1) ∧ ∀ k, k < n → W k = false) ∨
    ∃ a b : Nat, rgF W n = ((a : Int), (b : Int)) ∧ a ≤ b ∧ b < n ∧ W a = true ∧ W b = true ∧ ∀ k, k < n → W k = true → a ≤ k ∧ k ≤ b
  | 0 => .inl ⟨rfl, fun k h => by omega⟩
  | n + 1 => by
    rcases rgF_is W n with ⟨e, h⟩ | ⟨a, b, e, h1, h2, h3, h4, h5⟩
    · cases hW : W n with
      | false =>
        rw [rgF_no hW]
        refine .inl ⟨e, fun k hk => ?_⟩
        rcases Nat.lt_or_ge k n with h' | h'
        · exact h k h'
        · obtain rfl : k = n := by omega
          exact hW
      | true =>
        rw [rgF_yes hW, e]
        refine .inr ⟨n, n, rfl, Nat.le_refl _, by omega, hW, hW, fun k hk hw => ?_⟩
        rcases Nat.lt_or_ge k n with h' | h'
        · rw [h k h'] at hw; cases hw
        · omega
    · cases hW : W n with
      | false =>
        rw [rgF_no hW]
        refine .inr ⟨a, b, e, h1, by omega, h3, h4, fun k hk hw => ?_⟩
        rcases Nat.lt_or_ge k n with h' | h'
        · exact h5 k h' hw
        · obtain rfl : k = n := by omega
          rw [hW] at hw; cases hw
      | true =>
        rw [rgF_yes hW, e]
        refine .inr ⟨a, n, by rw [if_neg (by simp)], by omega, by omega, h3, hW, fun k hk hw => ?_⟩
        rcases Nat.lt_or_ge k n with h' | h'
        · have := h5 k h' hw; omega
        · omega
def rgOf (b s : List Int) : Int × Int := rgF (fun p => wtB b s (trOf b s) (p : Int)) 31
theorem rgOf_bd (b s : List Int) : -1 ≤ (rgOf b s).1 ∧ (rgOf b s).1 ≤ 30 ∧ -1 ≤ (rgOf b s).2 ∧ (rgOf b s).2 ≤ 30 := by
  unfold rgOf
  rcases rgF_is (fun p => wtB b s (trOf b s) (p : Int)) 31 with ⟨e, _⟩ | ⟨x, y, e, h1, h2, _⟩ <;> rw [e] <;> simp <;> omega

/-- Whoever trades by the fewer trades pays at least the greatest price of the range, and has at most the least. -/
theorem range_ends {b s : List Int} (hb : ∀ x ∈ b, 0 ≤ x ∧ x ≤ 30) (hs : ∀ x ∈ s, 0 ≤ x ∧ x ≤ 30) {n : Nat} (hn : trOf b s = n + 1) {x y : Int} (hx : (dnL b)[n]? = some x) (hy : (upL s)[n]? = some y) :
    y ≤ x ∧ (rgOf b s).2 ≤ x ∧ y ≤ (rgOf b s).1 := by
  have hxy : y ≤ x := (tr_iff (dnL_desc b) (upL_asc s) hx hy).1 (by unfold trOf at hn; omega)
  have hle := trOf_le b s
  have ab : ∀ p, abv (dnL b) p = abv b p := fun p => abv_perm (dnL_perm b) p
  have as : ∀ p, abv (upL s) p = abv s p := fun p => abv_perm (upL_perm s) p
  have lu := upL_len s
  have ld := dnL_len b
  have hxb := hb x (mem_dn.1 (List.mem_of_getElem? hx))
  have hyb := hs y (mem_up.1 (List.mem_of_getElem? hy))
  -- a price of the range
  have hex : ∃ p : Nat, p < 31 ∧ wtB b s (n + 1) (p : Int) = true := by
    have key : ∀ p : Int, 0 ≤ p → p ≤ 30 → y ≤ p → p ≤ x → (∀ z, (dnL b)[n + 1]? = some z → z ≤ p) → (∀ z, (upL s)[n + 1]? = some z → p ≤ z) → wtB b s (n + 1) p = true := by
      intro p _ _ h1 h2 h3 h4
      have c1 := (desc_abv (dnL_desc b) hx (t := p - 1)).1 (by omega)
      have c2 := (asc_abv (upL_asc s) hy (t := p)).1 h1
      have c3 : abv (dnL b) p ≤ n + 1 := by
        rcases Nat.lt_or_ge (n + 1) (dnL b).length with h | h
        · have e := List.getElem?_eq_getElem h
          have := (desc_abv (dnL_desc b) e (t := p))
          have h5 := h3 _ e
          omega
        · have := abv_le (dnL b) p; omega
      have c4 : (upL s).length - abv (upL s) (p - 1) ≤ n + 1 := by
        rcases Nat.lt_or_ge (n + 1) (upL s).length with h | h
        · have e := List.getElem?_eq_getElem h
          have := (asc_abv (upL_asc s) e (t := p - 1))
          have h5 := h4 _ e
          omega
        · omega
      rw [ab] at c1 c3
      rw [as, lu] at c2 c4
      unfold wtB
      simp only [Bool.and_eq_true, decide_eq_true_eq]
      omega
    rcases Nat.lt_or_ge (n + 1) (dnL b).length with h | h
    · have e := List.getElem?_eq_getElem h
      obtain ⟨z, hz⟩ : ∃ z, z = (dnL b)[n + 1] := ⟨_, rfl⟩
      rw [← hz] at e
      have hzb := hb z (mem_dn.1 (List.mem_of_getElem? e))
      have hzx := desc_at (dnL_desc b) (by omega) hx e
      have hU : ∀ u, (upL s)[n + 1]? = some u → z < u ∧ y ≤ u := fun u hu => by
        have h6 := tr_out (dnL b) (upL s) z u (by unfold trOf at hn; rw [hn]; exact e) (by unfold trOf at hn; rw [hn]; exact hu)
        exact ⟨h6, asc_at (upL_asc s) (by omega) hy hu⟩
      rcases Int.le_total y z with hyz | hyz
      · have e2 : ((z.toNat : Nat) : Int) = z := by omega
        exact ⟨z.toNat, by omega, by rw [e2]; exact key z (by omega) (by omega) hyz hzx (fun w hw => by rw [e] at hw; cases hw; exact Int.le_refl _) (fun u hu => by have := (hU u hu).1; omega)⟩
      · have e2 : ((y.toNat : Nat) : Int) = y := by omega
        exact ⟨y.toNat, by omega, by rw [e2]; exact key y (by omega) (by omega) (Int.le_refl _) hxy (fun w hw => by rw [e] at hw; cases hw; exact hyz) (fun u hu => (hU u hu).2)⟩
    · have e2 : ((y.toNat : Nat) : Int) = y := by omega
      exact ⟨y.toNat, by omega, by rw [e2]; exact key y (by omega) (by omega) (Int.le_refl _) hxy (fun w hw => by rw [List.getElem?_eq_none h] at hw; cases hw) (fun u hu => asc_at (upL_asc s) (by omega) hy hu)⟩
  obtain ⟨p, hp, hw⟩ := hex
  unfold rgOf
  rw [hn]
  rcases rgF_is (fun p => wtB b s (n + 1) (p : Int)) 31 with ⟨_, h⟩ | ⟨lo, hi, e, h1, h2, h3, h4, _⟩
  · have := h p hp; rw [hw] at this; cases this
  · rw [e]
    unfold wtB at h3 h4
    simp only [Bool.and_eq_true, decide_eq_true_eq] at h3 h4
    have a1 := (desc_abv (dnL_desc b) hx (t := (hi : Int) - 1)).2 (by rw [ab]; omega)
    have a2 := (asc_abv (upL_asc s) hy (t := (lo : Int))).2 (by rw [as, lu]; omega)
    refine ⟨hxy, ?_, ?_⟩
    · show (hi : Int) ≤ x; omega
    · show y ≤ (lo : Int); exact a2

/-! ### One trade fewer -/

/-- What the buyer i, of value v, has when the buyers' numbers are said. -/
def tgF (said s : List Int) (i : Nat) (v : Int) : Int :=
  if posF said i < trOf said s - 1 then v - (dnL said).getD (trOf said s - 1) 0 else 0

theorem dn_said {b : List Int} {i : Nat} (hi : i < b.length) (t : Int) : dnL (b.set i t) = (dnL (b.eraseIdx i)).take (posF (b.set i t) i) ++ t :: (dnL (b.eraseIdx i)).drop (posF (b.set i t) i) := by
  have hset : b.set i t = b.take i ++ t :: b.drop (i + 1) := by
    apply List.ext_getElem?
    intro j
    rcases Nat.lt_trichotomy j i with h | h | h
    · rw [List.getElem?_set_ne (by omega), List.getElem?_append_left (by simp; omega), List.getElem?_take_of_lt h]
    · subst h
      rw [List.getElem?_set_self hi, List.getElem?_append_right (by simp; omega)]
      simp [Nat.min_eq_left (Nat.le_of_lt hi)]
    · rw [List.getElem?_set_ne (by omega), List.getElem?_append_right (by simp; omega)]
      have e : (b.take i).length = i := by simp; omega
      rw [e, show j - i = (j - (i + 1)) + 1 by omega, List.getElem?_cons_succ, List.getElem?_drop, show i + 1 + (j - (i + 1)) = j by omega]
  have hti : (b.set i t).getD i 0 = t := by rw [List.getD_eq_getElem?_getD, List.getElem?_set_self hi]; rfl
  have hp : posF (b.set i t) i = abv (b.take i) (t - 1) + abv (b.drop (i + 1)) t := by
    unfold posF
    rw [hti, List.take_set_of_le (Nat.le_refl _), List.drop_set_of_lt (by omega)]
  have her : b.eraseIdx i = b.take i ++ b.drop (i + 1) := List.eraseIdx_eq_take_drop_succ b i
  obtain ⟨R, hR⟩ : ∃ R, R = dnL (b.eraseIdx i) := ⟨_, rfl⟩
  obtain ⟨q, hq⟩ : ∃ q, q = posF (b.set i t) i := ⟨_, rfl⟩
  have hRd : R.Pairwise (fun a b => b ≤ a) := by rw [hR]; exact dnL_desc _
  have hab : ∀ p, abv R p = abv (b.take i) p + abv (b.drop (i + 1)) p := fun p => by rw [hR, abv_perm (dnL_perm _), her, abv_append]
  have hlo : abv R t ≤ q := by rw [hab, hq, hp]; have := abv_anti (b.take i) (p := t - 1) (q := t) (by omega); omega
  have hhi : q ≤ abv R (t - 1) := by rw [hab, hq, hp]; have := abv_anti (b.drop (i + 1)) (p := t - 1) (q := t) (by omega); omega
  have hpR : R.Perm (b.take i ++ b.drop (i + 1)) := by rw [hR, ← her]; exact dnL_perm _
  rw [← hR, ← hq]
  refine desc_eq (dnL_desc _) ?_ ?_
  · rw [List.pairwise_append, List.pairwise_cons]
    have hRd' := hRd
    rw [← List.take_append_drop q R, List.pairwise_append] at hRd'
    have hge : ∀ x ∈ R.take q, t ≤ x := by
      intro x hx
      obtain ⟨j, hj, rfl⟩ := List.getElem_of_mem hx
      rw [List.length_take] at hj
      rw [List.getElem_take]
      have := (desc_abv hRd (List.getElem?_eq_getElem (l := R) (i := j) (by omega)) (t := t - 1)).2 (by omega)
      omega
    have hle : ∀ x ∈ R.drop q, x ≤ t := by
      intro x hx
      obtain ⟨j, hj, rfl⟩ := List.getElem_of_mem hx
      rw [List.length_drop] at hj
      rw [List.getElem_drop]
      have := (desc_abv hRd (List.getElem?_eq_getElem (l := R) (i := q + j) (by omega)) (t := t))
      omega
    refine ⟨hRd'.1, ⟨hle, hRd'.2.1⟩, fun a ha c hc => ?_⟩
    rcases List.mem_cons.1 hc with rfl | hc
    · exact hge a ha
    · exact hRd'.2.2 a ha c hc
  · refine (dnL_perm _).trans ?_
    rw [hset]
    refine List.perm_middle.trans ?_
    refine List.Perm.trans ?_ List.perm_middle.symm
    rw [List.take_append_drop]
    exact hpR.symm.cons t

/-- A told number that trades: the price is that of the others, whatever is told. -/
theorem said_wins {b s : List Int} {i : Nat} (hi : i < b.length) {t : Int} (h : posF (b.set i t) i < trOf (b.set i t) s - 1) :
    ∃ q c u, q = trOf (b.set i t) s - 1 ∧ (dnL (b.eraseIdx i))[q - 1]? = some c ∧ 1 ≤ q ∧ (dnL (b.set i t))[q]? = some c ∧ (upL s)[q]? = some u ∧ u ≤ c ∧ c ≤ t ∧
      ∀ c' u', (dnL (b.eraseIdx i))[q]? = some c' → (upL s)[q + 1]? = some u' → c' < u' := by
  obtain ⟨p, hp⟩ : ∃ p, p = posF (b.set i t) i := ⟨_, rfl⟩
  have e := dn_said hi t
  have hpl : p ≤ (dnL (b.eraseIdx i)).length := by
    rcases Nat.lt_or_ge (dnL (b.eraseIdx i)).length p with h' | h'
    · exfalso
      have e1 := congrArg List.length e
      rw [← hp] at h
      have h1 := (trOf_le (b.set i t) s).1
      have h2 : (b.set i t).length = b.length := List.length_set
      have h3 : (dnL (b.eraseIdx i)).length = b.length - 1 := by rw [dnL_len, List.length_eraseIdx, if_pos hi]
      omega
    · exact h'
  rw [← hp] at e h
  have ltk : ((dnL (b.eraseIdx i)).take p).length = p := by rw [List.length_take]; omega
  have hat : ∀ k, p ≤ k → (dnL (b.set i t))[k + 1]? = (dnL (b.eraseIdx i))[k]? := fun k hk => by
    rw [e, List.getElem?_append_right (by omega), ltk, show k + 1 - p = (k - p) + 1 by omega, List.getElem?_cons_succ, List.getElem?_drop, show p + (k - p) = k by omega]
  have hatp : (dnL (b.set i t))[p]? = some t := by
    rw [e, List.getElem?_append_right (by omega), ltk, Nat.sub_self]; rfl
  obtain ⟨c, u, h1, h2, h3⟩ := tr_in (dnL (b.set i t)) (upL s) (trOf (b.set i t) s - 1) (by unfold trOf at h ⊢; omega)
  refine ⟨trOf (b.set i t) s - 1, c, u, rfl, ?_, by omega, h1, h2, h3, ?_, ?_⟩
  · rw [← hat _ (by omega), show trOf (b.set i t) s - 1 - 1 + 1 = trOf (b.set i t) s - 1 by omega]; exact h1
  · exact desc_at (dnL_desc _) (by omega) hatp h1
  · intro c' u' hc' hu'
    rw [← hat _ (by omega)] at hc'
    have hq : trOf (b.set i t) s - 1 + 1 = trN (dnL (b.set i t)) (upL s) := by unfold trOf at h ⊢; omega
    rw [hq] at hc' hu'
    exact tr_out _ _ _ _ hc' hu'

/-- Truth is best: with another number told no one has more, and with the own one at least nothing. -/
theorem truth_best {b s : List Int} {i : Nat} {v : Int} (hv : b[i]? = some v) (t : Int) : tgF (b.set i t) s i v ≤ tgF b s i v ∧ 0 ≤ tgF b s i v := by
  obtain ⟨hi, hvi⟩ := List.getElem?_eq_some_iff.1 hv
  have hself : b.set i v = b := by rw [← hvi]; exact List.set_getElem_self hi
  have h0 : 0 ≤ tgF b s i v := by
    unfold tgF
    split
    · rename_i h
      rw [← hself] at h
      obtain ⟨q, c, u, hq, _, _, hc, _, _, hct, _⟩ := said_wins hi h
      rw [hself] at hq hc
      rw [← hq, List.getD_eq_getElem?_getD, hc, Option.getD_some]
      omega
    · exact Int.le_refl _
  refine ⟨?_, h0⟩
  rcases Nat.lt_or_ge (posF (b.set i t) i) (trOf (b.set i t) s - 1) with ht | ht
  · obtain ⟨q, c, u, hq, hcR, hq1, hc, hu, huc, hct, hlast⟩ := said_wins hi ht
    have e1 : tgF (b.set i t) s i v = v - c := by
      unfold tgF
      rw [if_pos ht, ← hq, List.getD_eq_getElem?_getD, hc, Option.getD_some]
    rw [e1]
    rcases Int.lt_or_le c v with hcv | hcv
    · -- the own number trades, too
      have hRd := dnL_desc (b.eraseIdx i)
      have hpos : posF b i ≤ q - 1 := by
        have hp : posF b i = abv (b.take i) (v - 1) + abv (b.drop (i + 1)) v := by
          unfold posF
          rw [List.getD_eq_getElem?_getD, hv, Option.getD_some]
        have hab : abv (dnL (b.eraseIdx i)) (v - 1) = abv (b.take i) (v - 1) + abv (b.drop (i + 1)) (v - 1) := by
          rw [abv_perm (dnL_perm _), List.eraseIdx_eq_take_drop_succ, abv_append]
        have h1 := (desc_abv hRd hcR (t := v - 1))
        have h2 := abv_anti (b.drop (i + 1)) (p := v - 1) (q := v) (by omega)
        omega
      have e := dn_said hi v
      rw [hself] at e
      have hat : ∀ k, posF b i ≤ k → k < (dnL (b.eraseIdx i)).length → (dnL b)[k + 1]? = (dnL (b.eraseIdx i))[k]? := fun k hk hkl => by
        have ltk : ((dnL (b.eraseIdx i)).take (posF b i)).length = posF b i := by rw [List.length_take]; omega
        rw [e, List.getElem?_append_right (by omega), ltk, show k + 1 - posF b i = (k - posF b i) + 1 by omega, List.getElem?_cons_succ, List.getElem?_drop, show posF b i + (k - posF b i) = k by omega]
      have hql : q - 1 < (dnL (b.eraseIdx i)).length := (List.getElem?_eq_some_iff.1 hcR).1
      have hD : (dnL b)[q]? = some c := by
        have := hat (q - 1) hpos hql
        rw [show q - 1 + 1 = q by omega] at this
        rw [this]; exact hcR
      have htr : q < trN (dnL b) (upL s) := (tr_iff (dnL_desc b) (upL_asc s) hD hu).2 huc
      have hw : posF b i < trOf b s - 1 := by unfold trOf; omega
      have hw' := hw
      rw [← hself] at hw'
      obtain ⟨q2, c2, u2, hq2, hcR2, hq21, hc2, hu2, huc2, _, hlast2⟩ := said_wins hi hw'
      rw [hself] at hq2 hc2
      have hqq : q2 = q := by
        rcases Nat.lt_trichotomy q2 q with h' | h' | h'
        · exfalso; unfold trOf at hq2; omega
        · exact h'
        · exfalso
          have l2 : q < (dnL (b.eraseIdx i)).length := by have := (List.getElem?_eq_some_iff.1 hcR2).1; omega
          have l3 : q + 1 < (upL s).length := by have := (List.getElem?_eq_some_iff.1 hu2).1; omega
          have a1 := List.getElem?_eq_getElem l2
          have a2 := List.getElem?_eq_getElem l3
          have h3 := hlast _ _ a1 a2
          have h4 := desc_at hRd (by omega) a1 hcR2
          have h5 := asc_at (upL_asc s) (by omega) a2 hu2
          omega
      subst hqq
      rw [hc2] at hD
      cases hD
      unfold tgF
      rw [if_pos hw, ← hq2, List.getD_eq_getElem?_getD, hc2, Option.getD_some]
      exact Int.le_refl _
    · omega
  · have e1 : tgF (b.set i t) s i v = 0 := by unfold tgF; rw [if_neg (by omega)]
    rw [e1]; exact h0

end Go.Proofs.Ytpildecpabeanaa
