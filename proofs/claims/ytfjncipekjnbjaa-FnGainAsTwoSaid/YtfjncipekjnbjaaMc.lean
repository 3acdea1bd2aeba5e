/-
  Chapter 6, plain: two names are no better than one where things may be moved.
-/
import Derived.Test.YtfjncipekjnbjaaMa
import Derived.Test.YtfjncipekjnbjaaGI
namespace Go.Proofs.Ytfjncipekjnbjaa

theorem getD_snoc_left {ts : List (List Int)} {b : List Int} {i : Nat} (h : i < ts.length) : (ts ++ [b]).getD i [] = ts.getD i [] := by
  rw [List.getD_eq_getElem?_getD, List.getD_eq_getElem?_getD, List.getElem?_append_left h]
theorem getD_snoc_last {ts : List (List Int)} {b : List Int} {n : Nat} (h : n = ts.length) : (ts ++ [b]).getD n [] = b := by
  subst h
  rw [List.getD_eq_getElem?_getD]
  simp
theorem two_names {ts : List (List Int)} {i : Nat} {a b : List Int} (hm : ∀ t ∈ ts, VT t ∧ Mo (T t)) (h3 : ts.length ≤ 3) (hi : i < ts.length) (ha : VT a) (hb : VT b) : gwF ts i a b ≤ gtF ts i (ts.getD i []) := by
  have hv : ∀ t ∈ ts, VT t := fun t ht => (hm t ht).1
  have ho : ∀ t ∈ ts.eraseIdx i, VT t ∧ Mo (T t) := fun t ht => hm t (mem_erase ht)
  have S := sv_mo ho
  have hzo : ∀ t ∈ ts.eraseIdx i, T t 0 = 0 := fun t ht => (ho t ht).1.2.1
  rw [gt_truth hv (by omega) hi]
  unfold adF gwF saidF
  have hl1 : (ts.set i a).length = ts.length := List.length_set
  have hv1 : ∀ t ∈ ts.set i a, VT t := fun t ht => by
    rcases List.mem_or_eq_of_mem_set ht with h | h
    · exact hv t h
    · rw [h]; exact ha
  have hzM : ∀ t ∈ ts.set i a ++ [b], T t 0 = 0 := fun t ht => by
    rcases List.mem_append.1 ht with h | h
    · exact (hv1 t h).2.1
    · obtain rfl : t = b := by simpa using h
      exact hb.2.1
  have hw := wayF_worth hzM (by simp; omega)
  obtain ⟨os, hos⟩ : ∃ os, os = wayF (ts.set i a ++ [b]) := ⟨_, rfl⟩
  have e1 : (ts.set i a).eraseIdx i = ts.eraseIdx i := List.eraseIdx_set_eq
  have e2 : (ts.set i a ++ [b]).eraseIdx i = ts.eraseIdx i ++ [b] := by rw [erase_snoc (by omega), e1]
  have e3 : (ts.set i a ++ [b]).eraseIdx ts.length = ts.set i a := by rw [← hl1]; exact erase_last
  have e4 : (ts.set i a ++ [b]).getD i [] = a := by rw [getD_snoc_left (by omega), getD_set a hi]
  have e5 : (ts.set i a ++ [b]).getD ts.length [] = b := getD_snoc_last hl1.symm
  simp only [hasOf, paidOf, List.foldl_cons, List.foldl_nil, Nat.zero_or, Int.zero_add, pvF]
  rw [← hos] at hw ⊢
  rw [e2, e3, e4, e5, hw]
  clear hos
  -- the way
  have hwk : worthF (ts.set i a ++ [b]) os = wk (ts.set i a) 0 (os.getD 0 0) (os.getD 1 0) (os.getD 2 0) + T b (setOf os ts.length) := by
    unfold worthF setOf
    rw [wk_snoc, hl1]
    simp
  rw [hw] at hwk
  obtain ⟨r1, r2⟩ := got_but (os.getD 0 0) (os.getD 1 0) (os.getD 2 0) (ts.set i a) i 0 (by omega)
  rw [e1, getD_set a hi, hl1] at r2
  rw [hl1] at r1
  simp only [Int.zero_add] at r1 r2
  have hA : skn (os.getD 0 0) (os.getD 1 0) (os.getD 2 0) (i : Int) = setOf os i := rfl
  have hBi : setOf os ts.length ∈ subs (ge (ts.length : Int) (os.getD 0 0) (os.getD 1 0) (os.getD 2 0)) := skn_in (Int.le_refl _)
  rw [hA] at r1 r2
  obtain ⟨q1, q2, q3, q4, q5, q6⟩ := apart_sets (ge_lt 0 _ _ _) (ge_in (by omega)) hBi r1
  have hu := got_le (got_more (Nat.lt_of_le_of_lt (Nat.sub_le _ _) (Nat.lt_of_le_of_lt (Nat.sub_le _ _) (by omega))) q6 r2)
  have g1 : sv (ts.eraseIdx i) (7 - setOf os ts.length) + T b (setOf os ts.length) ≤ sv (ts.eraseIdx i ++ [b]) 7 := got_le ((got_snoc (by omega)).2 ⟨_, q1, _, got_sv hzo _, rfl⟩)
  have g2 : T a (setOf os i) + sv (ts.eraseIdx i) (7 - setOf os i) ≤ sv (ts.set i a) 7 := by
    refine got_le ((got_pick i 7 _ (by omega) (by omega)).2 ⟨_, q2, sv (ts.eraseIdx i) (7 - setOf os i), ?_, ?_⟩)
    · rw [e1]; exact got_sv hzo _
    · rw [getD_set a hi]
  have g3 : T (ts.getD i []) (setOf os i ||| setOf os ts.length) + sv (ts.eraseIdx i) (7 - (setOf os i ||| setOf os ts.length)) ≤ sv ts 7 := got_le ((got_pick i 7 _ (by omega) hi).2 ⟨_, q5, _, got_sv hzo _, rfl⟩)
  have g4 := mo_rests S q1 q3
  rw [q4] at hu g4
  omega

end Go.Proofs.Ytfjncipekjnbjaa
