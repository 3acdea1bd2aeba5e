/-
  The laws' helper that compares two slices of ints; what holds of a sale.
-/
import Derived.Test.YtnojlapjkdihmabGain
import Derived.Test.YtnojlapjkdihmabDrawC
namespace Go.Proofs.Ytnojlapjkdihmab
open Go.RowKit

theorem nth_le : ∀ (m : Nat) (xs : List Int) (M : Int), 0 ≤ M → (∀ x ∈ xs, x ≤ M) → nthG m xs ≤ M
  | 0, xs, M, h0, h => by
    rw [nthG_zero, List.getD_eq_getElem?_getD]
    cases hx : xs[gr xs xs.length]? with
    | none => exact h0
    | some x => exact h x (List.mem_of_getElem? hx)
  | m + 1, xs, M, h0, h => by
    rw [nthG_succ]
    exact nth_le m _ M h0 (fun x hx => h x (List.mem_of_mem_eraseIdx hx))

theorem gr_ge {xs : List Int} {i : Nat} {x y : Int} (hx : xs[i]? = some x) (hy : xs[gr xs xs.length]? = some y) : x ≤ y := by
  have := gr_max xs xs.length i (List.getElem?_eq_some_iff.1 hx).1
  rw [getD_of hx, getD_of hy] at this
  exact this

/-- What a bidder pays, by all kinds but that by which all pay. -/
theorem pay_zero {kd : Nat} {xs : List Int} {r x p : Int} {i : Nat} (hk : kd ≠ 4) (hx : xs[i]? = some x) (hp : (payOf kd xs r)[i]? = some p) (hi : (i : Int) ≠ atOf xs r) : p = 0 := by
  have hl := (List.getElem?_eq_some_iff.1 hx).1
  by_cases hlt : xs.getD (gr xs xs.length) 0 < r
  · rw [payOf_none hk hlt, List.getElem?_replicate, if_pos hl] at hp
    exact (Option.some.inj hp).symm
  · rw [atOf_some hlt] at hi
    rw [payOf_some hk hlt, List.getElem?_set, if_neg (by omega), List.getElem?_replicate, if_pos hl] at hp
    exact (Option.some.inj hp).symm

theorem pay_le {kd : Nat} {xs : List Int} {r x p : Int} {i : Nat} (hv : vB xs = true) (hx : xs[i]? = some x) (hp : (payOf kd xs r)[i]? = some p) : p ≤ x := by
  have hb : ∀ y ∈ xs, 0 ≤ y := by
    simp only [vB, Bool.and_eq_true, List.all_eq_true] at hv
    intro y hy
    exact (inR_true.1 (hv.2 y hy)).1
  by_cases hk : kd = 4
  · subst hk
    rw [payOf_all] at hp
    rw [hx] at hp
    have := Option.some.inj hp
    omega
  · by_cases hi : (i : Int) = atOf xs r
    · have hl := (List.getElem?_eq_some_iff.1 hx).1
      by_cases hlt : xs.getD (gr xs xs.length) 0 < r
      · rw [atOf_none hlt] at hi; omega
      · rw [atOf_some hlt] at hi
        have hig : i = gr xs xs.length := by omega
        rw [payOf_some hk hlt, List.getElem?_set, if_pos hig.symm, if_pos (by simpa using (by omega : gr xs xs.length < xs.length))] at hp
        have hp := Option.some.inj hp
        rw [← hig, getD_of hx] at hlt
        have hn := nth_le (kd - 1) xs x (hb x (List.mem_of_getElem? hx)) (fun y hy => by
          obtain ⟨j, hj, he⟩ := List.getElem_of_mem hy
          have hj' : xs[j]? = some y := by rw [List.getElem?_eq_getElem hj, he]
          exact gr_ge hj' (by rw [← hig]; exact hx))
        omega
    · rw [pay_zero hk hx hp hi]; exact hb x (List.mem_of_getElem? hx)

theorem kind_all {s : ByteArray} {kd : Nat} (hk : KindIs s kd) : (s.toList == [97, 108, 108]) = decide (kd = 4) := by
  rcases hk with ⟨rfl, rfl⟩ | ⟨rfl, rfl⟩ | ⟨rfl, rfl⟩ | ⟨rfl, rfl⟩ <;> rw [Lib.toList_data] <;> decide

end Go.Proofs.Ytnojlapjkdihmab
