/-
  Chapter 3 in plain arithmetic: what the laws say.
-/
import Derived.Test.YtkkdffmpeadinaaUt
namespace Go.Proofs.Ytkkdffmpeadinaa
open Go.RowKit

/-! ### The number with k ahead of it -/

theorem big_desc (xs : List Int) : ((srtU xs).reverse).Pairwise (fun a b => b ≤ a) := by
  rw [List.pairwise_reverse]; exact srtU_asc xs
theorem desc_count {D : List Int} (hd : D.Pairwise (fun a b => b ≤ a)) {k : Nat} {y t : Int} (hy : D[k]? = some y) : t ≤ y ↔ k < D.countP (fun x => decide (t ≤ x)) := by
  obtain ⟨hk, rfl⟩ := List.getElem?_eq_some_iff.1 hy
  constructor
  · intro h
    have e : D.countP (fun x => decide (t ≤ x)) = (D.take (k + 1)).countP (fun x => decide (t ≤ x)) + (D.drop (k + 1)).countP (fun x => decide (t ≤ x)) := by rw [← List.countP_append, List.take_append_drop]
    have e2 : (D.take (k + 1)).countP (fun x => decide (t ≤ x)) = (D.take (k + 1)).length := by
      rw [List.countP_eq_length]
      intro x hx
      obtain ⟨j, hj, rfl⟩ := List.getElem_of_mem hx
      rw [List.length_take] at hj
      rw [List.getElem_take]
      rcases Nat.lt_or_ge j k with hjk | hjk
      · have := List.pairwise_iff_getElem.1 hd j k (by omega) hk hjk
        simp; omega
      · obtain rfl : j = k := by omega
        simpa using h
    rw [List.length_take] at e2
    omega
  · intro h
    rcases Int.lt_or_le D[k] t with hlt | hle
    · exfalso
      have e : D.countP (fun x => decide (t ≤ x)) = (D.take k).countP (fun x => decide (t ≤ x)) + (D.drop k).countP (fun x => decide (t ≤ x)) := by rw [← List.countP_append, List.take_append_drop]
      have e2 : (D.drop k).countP (fun x => decide (t ≤ x)) = 0 := by
        rw [List.countP_eq_zero]
        intro x hx
        obtain ⟨j, hj, rfl⟩ := List.getElem_of_mem hx
        rw [List.length_drop] at hj
        rw [List.getElem_drop]
        rcases Nat.eq_zero_or_pos j with h0 | h0
        · subst h0; simp; omega
        · have := List.pairwise_iff_getElem.1 hd k (k + j) hk (by omega) (by omega)
          simp; omega
      have e3 := List.countP_le_length (p := fun x => decide (t ≤ x)) (l := D.take k)
      rw [List.length_take] at e3
      omega
    · exact hle
theorem big_count (xs : List Int) (p : Int → Bool) : ((srtU xs).reverse).countP p = xs.countP p := by
  rw [List.countP_reverse]; exact (List.mergeSort_perm xs _).countP_eq p
theorem nth_count {xs : List Int} {k : Nat} (hk : k < xs.length) (t : Int) : t ≤ nthG k xs ↔ k < xs.countP (fun x => decide (t ≤ x)) := by
  obtain ⟨y, hy⟩ := at_some (xs := (srtU xs).reverse) (k := k) (by rw [List.length_reverse, srtU_len]; exact hk)
  rw [big_nth hy, desc_count (big_desc xs) hy, big_count]
theorem nthG_is {xs : List Int} {k : Nat} {t : Int} (h1 : xs.countP (fun x => decide (t + 1 ≤ x)) ≤ k) (h2 : k < xs.countP (fun x => decide (t ≤ x))) : nthG k xs = t := by
  have hk : k < xs.length := Nat.lt_of_lt_of_le h2 (List.countP_le_length)
  have a := (nth_count hk t).2 h2
  rcases Int.lt_or_le t (nthG k xs) with h | h
  · have := (nth_count hk (t + 1)).1 (by omega)
    omega
  · omega
theorem nth_append {xs ys : List Int} (hy : ∀ y ∈ xs ++ ys, 0 ≤ y ∧ y ≤ 30) (k : Nat) : nthG k xs ≤ nthG k (xs ++ ys) := by
  rcases Nat.lt_or_ge k xs.length with hk | hk
  · have h1 := (nth_count hk (nthG k xs)).1 (Int.le_refl _)
    refine (nth_count (by rw [List.length_append]; omega) _).2 ?_
    rw [List.countP_append]; omega
  · rw [nthG_behind k xs hk]; exact (nthG_bd hy k).1
theorem nth_anti {xs : List Int} (hx : ∀ x ∈ xs, 0 ≤ x ∧ x ≤ 30) (k : Nat) : nthG (k + 1) xs ≤ nthG k xs := by
  rcases Nat.lt_or_ge (k + 1) xs.length with hk | hk
  · have h1 := (nth_count hk (nthG (k + 1) xs)).1 (Int.le_refl _)
    exact (nth_count (by omega) _).2 (by omega)
  · rw [nthG_behind (k + 1) xs hk]; exact (nthG_bd hx k).1

/-! ### The next unit's worth -/

theorem count_rows {p : Int → Bool} {rows : List (List Int)} : ∀ j, j ≤ rows.length → (((rows.take j).flatten.countP p : Nat) : Int) = sumTo (fun i => (((RW rows i).countP p : Nat) : Int)) j
  | 0, _ => by simp [sumTo]
  | j + 1, hj => by
    have e : rows[j]? = some rows[j] := List.getElem?_eq_getElem (by omega)
    rw [List.take_add_one, e, Option.toList_some, List.flatten_append, List.flatten_cons, List.flatten_nil, List.append_nil, List.countP_append, sumTo, rw_of e, ← count_rows j (by omega)]
    push_cast; rfl
theorem count_few {r : List Int} {c : Nat} {p : Int → Bool} (h : ∀ (j : Nat) (x : Int), c ≤ j → r[j]? = some x → p x = false) : r.countP p ≤ c := by
  have e : r.countP p = (r.take c).countP p + (r.drop c).countP p := by rw [← List.countP_append, List.take_append_drop]
  have e2 : (r.drop c).countP p = 0 := by
    rw [List.countP_eq_zero]
    intro x hx
    obtain ⟨j, hj, rfl⟩ := List.getElem_of_mem hx
    rw [List.length_drop] at hj
    rw [List.getElem_drop, h (c + j) _ (by omega) (List.getElem?_eq_getElem (by omega))]
    simp
  have e3 := List.countP_le_length (p := p) (l := r.take c)
  rw [List.length_take] at e3
  omega
theorem count_many {r : List Int} {c : Nat} {p : Int → Bool} (hc : c ≤ r.length) (h : ∀ (j : Nat) (x : Int), j < c → r[j]? = some x → p x = true) : c ≤ r.countP p := by
  have e : r.countP p = (r.take c).countP p + (r.drop c).countP p := by rw [← List.countP_append, List.take_append_drop]
  have e2 : (r.take c).countP p = (r.take c).length := by
    rw [List.countP_eq_length]
    intro x hx
    obtain ⟨j, hj, rfl⟩ := List.getElem_of_mem hx
    rw [List.length_take] at hj
    rw [List.getElem_take]
    exact h j _ (by omega) (List.getElem?_eq_getElem (by omega))
  rw [List.length_take] at e2
  omega
theorem flat_count {rows : List (List Int)} : (rows.flatten.length : Int) = sumTo (fun i => ((RW rows i).length : Int)) rows.length := by
  have := count_rows (p := fun _ => true) (rows := rows) rows.length (Nat.le_refl _)
  rw [List.take_length] at this
  simpa using this

theorem nth_nxt {rows : List (List Int)} (hv : VD rows) (k : Nat) : nthG k rows.flatten = nxt (RW rows) (aw (RW rows) rows.length k) rows.length := by
  have hg := hv.good
  have hf := fair_aw hg k
  have hcut := fun i (hi : i < rows.length) => nxt_cut hg hf hi
  obtain ⟨hc1, hc2⟩ := cnt_aw (R := RW rows) (n := rows.length) k
  rcases nx_is (RW rows) (aw (RW rows) rows.length k) rows.length with ⟨e, hn⟩ | ⟨a, ha, e, hca, _⟩
  · rw [nxt_none e]
    refine nthG_behind k _ ?_
    have h1 := flat_count (rows := rows)
    have h2 : sumTo (fun i => ((RW rows i).length : Int)) rows.length ≤ cnt (aw (RW rows) rows.length k) rows.length := sumTo_le (fun i hi => by have := hn i hi; omega)
    omega
  · have hck : cnt (aw (RW rows) rows.length k) rows.length = k := by
      rcases hc1 with h | h
      · exact h
      · omega
    obtain ⟨t, ht⟩ : ∃ t, t = nxt (RW rows) (aw (RW rows) rows.length k) rows.length := ⟨_, rfl⟩
    rw [← ht] at hcut ⊢
    refine nthG_is ?_ ?_
    · have h1 := count_rows (p := fun x => decide (t + 1 ≤ x)) (rows := rows) rows.length (Nat.le_refl _)
      rw [List.take_length] at h1
      have h2 : sumTo (fun i => (((RW rows i).countP (fun x => decide (t + 1 ≤ x)) : Nat) : Int)) rows.length ≤ cnt (aw (RW rows) rows.length k) rows.length :=
        sumTo_le (fun i hi => by
          have := count_few (r := RW rows i) (c := aw (RW rows) rows.length k i) (p := fun x => decide (t + 1 ≤ x)) (fun j x hj hx => by
            have := (hcut i hi).2 j x hj hx
            simp; omega)
          omega)
      omega
    · have h1 := count_rows (p := fun x => decide (t ≤ x)) (rows := rows) rows.length (Nat.le_refl _)
      rw [List.take_length] at h1
      have hle : ∀ i, i < rows.length → (aw (RW rows) rows.length k i : Int) ≤ (((RW rows i).countP (fun x => decide (t ≤ x)) : Nat) : Int) := fun i hi => by
        have := count_many (r := RW rows i) (c := aw (RW rows) rows.length k i) (p := fun x => decide (t ≤ x)) (hf.len i hi) (fun j x hj hx => by
          have := (hcut i hi).1 j x hj hx
          simpa using this)
        omega
      have hta : t = nxv (RW rows) (aw (RW rows) rows.length k) a := by rw [ht, nxt_some e]
      have hza : (RW rows a)[aw (RW rows) rows.length k a]? = some (RW rows a)[aw (RW rows) rows.length k a] := List.getElem?_eq_getElem hca
      rw [nxv_of hza] at hta
      have hA : (aw (RW rows) rows.length k a : Int) + 1 ≤ (((RW rows a).countP (fun x => decide (t ≤ x)) : Nat) : Int) := by
        have := count_many (r := RW rows a) (c := aw (RW rows) rows.length k a + 1) (p := fun x => decide (t ≤ x)) (by omega) (fun j x hj hx => by
          rcases Nat.lt_or_ge j (aw (RW rows) rows.length k a) with h | h
          · have := (hcut a ha).1 j x h hx
            simpa using this
          · obtain rfl : j = aw (RW rows) rows.length k a := by omega
            rw [hza] at hx
            cases hx
            simp [hta])
        omega
      have h3 : sumTo (fun i => (aw (RW rows) rows.length k i : Int)) rows.length - (aw (RW rows) rows.length k a : Int) ≤ sumTo (fun i => (((RW rows i).countP (fun x => decide (t ≤ x)) : Nat) : Int)) rows.length - (((RW rows a).countP (fun x => decide (t ≤ x)) : Nat) : Int) := by
        have e1 := sumBut_all (f := fun i => (aw (RW rows) rows.length k i : Int)) rows.length ha
        have e2 := sumBut_all (f := fun i => (((RW rows i).countP (fun x => decide (t ≤ x)) : Nat) : Int)) rows.length ha
        rw [← e1, ← e2]
        have : ∀ j, j ≤ rows.length → sumBut (fun i => (aw (RW rows) rows.length k i : Int)) a j ≤ sumBut (fun i => (((RW rows i).countP (fun x => decide (t ≤ x)) : Nat) : Int)) a j := by
          intro j
          induction j with
          | zero => intro _; exact Int.le_refl _
          | succ j ih =>
            intro hj
            have h1 := ih (by omega)
            have h2 := hle j (by omega)
            rw [sumBut, sumBut]
            split <;> omega
        exact this _ (Nat.le_refl _)
      have h4 : sumTo (fun i => (aw (RW rows) rows.length k i : Int)) rows.length = k := hck
      omega

end Go.Proofs.Ytkkdffmpeadinaa
