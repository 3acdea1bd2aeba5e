/-
  Chapter 3 in plain arithmetic: truth is best for units; more bidders pay more.
-/
import Derived.Test.YtkkdffmpeadinaaVp
import Derived.Test.YtkkdffmpeadinaaUv
namespace Go.Proofs.Ytkkdffmpeadinaa
open Go.RowKit

theorem bst_congr {R R' : Nat → List Int} {n : Nat} (h : ∀ j, j < n → R j = R' j) : ∀ k, bst R n k = bst R' n k := by
  induction n with
  | zero => intro k; rfl
  | succ n ih =>
    intro k
    have e : bst R n = bst R' n := funext (ih (fun j hj => h j (by omega)))
    show conv (bst R n) (R n) k = conv (bst R' n) (R' n) k
    rw [e, h n (by omega)]
theorem val_congr {R R' : Nat → List Int} {h : Nat → Nat} {n : Nat} (hr : ∀ j, j < n → R j = R' j) : val R h n = val R' h n := sumTo_congr (fun i hi => by rw [hr i hi])
theorem rw_set {rows : List (List Int)} {i j : Nat} {r : List Int} (hij : i ≠ j) : RW (rows.set i r) j = RW rows j := by
  unfold RW; rw [List.getD_eq_getElem?_getD, List.getD_eq_getElem?_getD, List.getElem?_set_ne hij]
theorem rw_set_self {rows : List (List Int)} {i : Nat} {r : List Int} (hi : i < rows.length) : RW (rows.set i r) i = r := by
  unfold RW; rw [List.getD_eq_getElem?_getD, List.getElem?_set_self hi]; rfl
theorem but_set {rows : List (List Int)} {i : Nat} {r : List Int} : butOf (rows.set i r) i = butOf rows i := by
  unfold butOf
  rw [List.take_set_of_le (Nat.le_refl _), List.drop_set_of_lt (by omega)]

/-- What a bidder has is what all have, less the best of the others. -/
theorem gain_val {rows : List (List Int)} {k i : Nat} (hi : i < rows.length) (told : List Int) :
    guF rows k i told = val (RW rows) (aw (RW (rows.set i told)) rows.length k) rows.length - bst (RW (butOf rows i)) (rows.length - 1) k := by
  unfold guF pivF
  rw [List.length_set, but_set, sumBut_all _ hi]
  have e := sumTo_one (f := fun j => pre (RW (rows.set i told) j) (aw (RW (rows.set i told)) rows.length k j)) (g := fun j => pre (RW rows j) (aw (RW (rows.set i told)) rows.length k j)) hi (fun j _ hne => by
    show pre (RW (rows.set i told) j) _ = pre (RW rows j) _
    rw [rw_set (fun e => hne e.symm)])
  have e2 : val (RW rows) (aw (RW (rows.set i told)) rows.length k) rows.length = sumTo (fun j => pre (RW rows j) (aw (RW (rows.set i told)) rows.length k j)) rows.length := rfl
  rw [e2]
  omega
theorem set_self {rows : List (List Int)} {i : Nat} (hi : i < rows.length) : rows.set i (RW rows i) = rows := by
  rw [rw_of (List.getElem?_eq_getElem hi)]; simp
theorem gain_truth {rows : List (List Int)} (hv : VD rows) {k i : Nat} (hi : i < rows.length) : guF rows k i (RW rows i) = bst (RW rows) rows.length k - bst (RW (butOf rows i)) (rows.length - 1) k := by
  rw [gain_val hi, set_self hi, aw_best hv.good]
theorem gain_best {rows : List (List Int)} (hv : VD rows) {k i : Nat} (hi : i < rows.length) (told : List Int) : guF rows k i told ≤ guF rows k i (RW rows i) := by
  rw [gain_truth hv hi, gain_val hi]
  have := bst_ge (R := RW rows) rows.length k (cnt_aw (R := RW (rows.set i told)) (n := rows.length) k).2
  omega
theorem bst_but_le {rows : List (List Int)} (hv : VD rows) {k i : Nat} (hi : i < rows.length) : bst (RW (butOf rows i)) (rows.length - 1) k ≤ bst (RW rows) rows.length k := by
  rw [← bst_but hv hi]
  have hs := hv.setVD i rowOk_nil
  have hg := hs.good
  rw [List.length_set] at hg
  rw [← aw_best hg k]
  have h1 := bst_ge (R := RW rows) rows.length k (cnt_aw (R := RW (rows.set i [])) (n := rows.length) k).2
  have h2 : val (RW (rows.set i [])) (aw (RW (rows.set i [])) rows.length k) rows.length ≤ val (RW rows) (aw (RW (rows.set i [])) rows.length k) rows.length := sumTo_le (fun j hj => by
    by_cases hij : i = j
    · subst hij
      rw [rw_set_self hi, pre_nil]
      exact (pre_le150 (hv.good _ hj) _).1
    · rw [rw_set hij]; exact Int.le_refl _)
  omega
theorem gain_nn {rows : List (List Int)} (hv : VD rows) {k i : Nat} (hi : i < rows.length) : 0 ≤ guF rows k i (RW rows i) := by
  rw [gain_truth hv hi]
  have := bst_but_le hv hi (k := k)
  omega

/-! ### One bidder more -/

/-- Without the row of one. -/
def emp (R : Nat → List Int) (i : Nat) : Nat → List Int := fun j => if j = i then [] else R j
theorem emp_good {R : Nat → List Int} {i n : Nat} (hg : Good R n) : Good (emp R i) n := fun j hj => by
  unfold emp; split
  · exact rowOk_nil
  · exact hg j hj
theorem ovs_emp {R : Nat → List Int} {i n : Nat} (hi : i < n) (t : Int) : ovs t R n = ovs t (emp R i) n + over t (R i) := by
  have := sumTo_one (f := fun j => over t (R j)) (g := fun j => over t (emp R i j)) hi (fun j _ hne => by show over t (R j) = over t (emp R i j); unfold emp; rw [if_neg hne])
  have e : over t (emp R i i) = 0 := by unfold emp; rw [if_pos rfl]; rfl
  unfold ovs
  rw [e] at this
  omega
theorem ovs_emp_out {R : Nat → List Int} {i n : Nat} (hi : n ≤ i) (t : Int) : ovs t (emp R i) n = ovs t R n :=
  sumTo_congr (fun j hj => by unfold emp; rw [if_neg (by omega)])

theorem submod {R : Nat → List Int} {m i : Nat} (hg : Good R (m + 1)) (hi : i < m) (k : Nat) : bst R (m + 1) k + bst (emp R i) m k ≤ bst (emp R i) (m + 1) k + bst R m k := by
  have hgm : Good R m := fun j hj => hg j (by omega)
  obtain ⟨t1, ht1, _, e1⟩ := bst_dual (emp_good (i := i) hg) k
  obtain ⟨t2, ht2, _, e2⟩ := bst_dual hgm k
  have hE : emp R i m = R m := by unfold emp; rw [if_neg (by omega)]
  have s1 : ∀ t, ovs t (emp R i) (m + 1) = ovs t (emp R i) m + over t (R m) := fun t => by show ovs t (emp R i) m + over t (emp R i m) = _; rw [hE]
  have s2 : ∀ t, ovs t R (m + 1) = ovs t R m + over t (R m) := fun t => rfl
  have s3 := fun t => ovs_emp (R := R) hi t
  rw [s1] at e1
  rw [s3] at e2
  rcases Int.le_total t1 t2 with h | h
  · have b1 := bst_bound (R := R) ht2 (m + 1) k
    have b2 := bst_bound (R := emp R i) ht1 m k
    rw [s2, s3] at b1
    have a1 := over_anti h (R m)
    omega
  · have b1 := bst_bound (R := R) ht1 (m + 1) k
    have b2 := bst_bound (R := emp R i) ht2 m k
    rw [s2, s3] at b1
    have a1 := over_anti h (R i)
    omega
theorem bst_emp_last {R : Nat → List Int} {m : Nat} (hg : Good R (m + 1)) (k : Nat) : bst (emp R m) (m + 1) k = bst R m k := by
  refine bst_same (emp_good hg) (fun j hj => hg j (by omega)) (fun t _ => ?_) k
  show ovs t (emp R m) m + over t (emp R m m) = _
  rw [ovs_emp_out (Nat.le_refl _)]
  unfold emp
  rw [if_pos rfl, over_nil]; omega

/-- What all pay by pivots. -/
def paid (R : Nat → List Int) (n k : Nat) : Int := sumTo (fun i => bst (emp R i) n k) n - ((n : Int) - 1) * bst R n k
theorem paid_more {R : Nat → List Int} {m : Nat} (hg : Good R (m + 1)) (k : Nat) : paid R m k ≤ paid R (m + 1) k := by
  unfold paid
  have h1 : sumTo (fun i => bst R (m + 1) k + bst (emp R i) m k) m ≤ sumTo (fun i => bst (emp R i) (m + 1) k + bst R m k) m := sumTo_le (fun i hi => submod hg hi k)
  rw [sumTo_add, sumTo_add, sumTo_const, sumTo_const] at h1
  rw [sumTo, bst_emp_last hg]
  have e1 : (((m + 1 : Nat) : Int) - 1) * bst R (m + 1) k = (m : Int) * bst R (m + 1) k := by push_cast; rw [Int.add_sub_cancel]
  have e2 : ((m : Int) - 1) * bst R m k = (m : Int) * bst R m k - bst R m k := by rw [Int.sub_mul]; omega
  rw [e1, e2]
  omega
theorem vls_sum (f : Nat → Int) (n : Nat) : (vls f n).sum = sumTo f n := by
  induction n with
  | zero => rfl
  | succ n ih => rw [vls_more, List.sum_append, ih]; simp [sumTo]
theorem piv_paid {rows : List (List Int)} (hv : VD rows) (k : Nat) : sumTo (pivF rows k) rows.length = paid (RW rows) rows.length k := by
  have hg := hv.good
  have e : ∀ i, i < rows.length → pivF rows k i = bst (emp (RW rows) i) rows.length k + (pre (RW rows i) (aw (RW rows) rows.length k i) - bst (RW rows) rows.length k) := by
    intro i hi
    have e1 := sumBut_all (f := fun j => pre (RW rows j) (aw (RW rows) rows.length k j)) rows.length hi
    have e2 : sumTo (fun j => pre (RW rows j) (aw (RW rows) rows.length k j)) rows.length = bst (RW rows) rows.length k := aw_best hg k
    have e3 : bst (RW (butOf rows i)) (rows.length - 1) k = bst (emp (RW rows) i) rows.length k := by
      rw [← bst_but hv hi]
      refine bst_congr (fun j _ => ?_) k
      unfold emp
      split
      · subst_vars; exact rw_set_self hi
      · exact rw_set (by omega)
    unfold pivF
    rw [e1, e3, e2]
    omega
  rw [sumTo_congr e, sumTo_add, sumTo_sub, sumTo_const]
  have e2 : sumTo (fun j => pre (RW rows j) (aw (RW rows) rows.length k j)) rows.length = bst (RW rows) rows.length k := aw_best hg k
  rw [e2]
  unfold paid
  rw [Int.sub_mul]
  omega
theorem VD.take_ {rows : List (List Int)} (hv : VD rows) {m : Nat} (h1 : 1 ≤ m) (h2 : m ≤ rows.length) : VD (rows.take m) := by
  refine ⟨by rw [List.length_take]; have := hv.1; omega, fun r hr => hv.2 r (List.mem_of_mem_take hr)⟩
theorem rw_take {rows : List (List Int)} {m j : Nat} (hj : j < m) : RW (rows.take m) j = RW rows j := by
  unfold RW; rw [List.getD_eq_getElem?_getD, List.getD_eq_getElem?_getD, List.getElem?_take_of_lt hj]
theorem paid_take {rows : List (List Int)} {m : Nat} (k : Nat) : paid (RW (rows.take m)) m k = paid (RW rows) m k := by
  have e1 : bst (RW (rows.take m)) m k = bst (RW rows) m k := bst_congr (fun j hj => rw_take hj) k
  have e2 : sumTo (fun i => bst (emp (RW (rows.take m)) i) m k) m = sumTo (fun i => bst (emp (RW rows) i) m k) m := sumTo_congr (fun i _ => bst_congr (fun j hj => by
    unfold emp
    split
    · rfl
    · exact rw_take hj) k)
  unfold paid
  rw [e1, e2]
/-- With one bidder more all pay no less. -/
theorem piv_more {rows : List (List Int)} (hv : VD rows) {m : Nat} (h1 : 1 ≤ m) (hm : m + 1 = rows.length) (k : Nat) : sumTo (pivF (rows.take m) k) m ≤ sumTo (pivF rows k) rows.length := by
  have hvt := hv.take_ h1 (by omega)
  have e1 := piv_paid hvt k
  have hlt : (rows.take m).length = m := by rw [List.length_take]; omega
  rw [hlt] at e1
  rw [e1, piv_paid hv, paid_take, ← hm]
  exact paid_more (by rw [hm]; exact hv.good) k

/-! ### What is pushed out -/

theorem spu_nn {rows : List (List Int)} (hv : VD rows) (k i : Nat) : 0 ≤ spuF rows k i := sumTo_nn (fun _ _ => (nthG_bd (hv.butNums i) _).1)
theorem but_flat {rows : List (List Int)} {i : Nat} (hi : i < rows.length) : (butOf rows i).flatten.length + (RW rows i).length = rows.flatten.length := by
  have e : rows[i]? = some rows[i] := List.getElem?_eq_getElem hi
  have h1 : rows = rows.take i ++ rows[i] :: rows.drop (i + 1) := by rw [← List.drop_eq_getElem_cons hi, List.take_append_drop]
  have h2 := congrArg (fun l => l.flatten.length) h1
  simp only [List.flatten_append, List.flatten_cons, List.length_append] at h2
  unfold butOf
  rw [rw_of e, List.flatten_append, List.length_append]
  omega
theorem spu_zero {rows : List (List Int)} (hv : VD rows) {k i : Nat} (hi : i < rows.length) (ha : rows.flatten.length ≤ k) : spuF rows k i = 0 := by
  have h1 := but_flat hi
  have h2 := (fair_aw hv.good k).len i hi
  unfold spuF
  rw [sumTo_congr (g := fun _ => 0) (fun _ _ => nthG_behind _ _ (by omega)), sumTo_const]; simp

end Go.Proofs.Ytkkdffmpeadinaa
