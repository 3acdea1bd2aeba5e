/-
  Chapter 1: the contracts of gain and GainOf, of the model and of the program.
-/
import Derived.Test.YtnojlapjkdihmaaLeast
namespace Go.Proofs.Ytnojlapjkdihmaa
open Go.RowKit

/-- A list of numbers of which none is beyond 2 to 31. -/
def Small (xs : List Int) : Prop := ∀ x ∈ xs, -2147483648 ≤ x ∧ x ≤ 2147483647

theorem Small.at_ {xs : List Int} {i : Nat} {x : Int} (h : Small xs) (hx : xs[i]? = some x) : -2147483648 ≤ x ∧ x ≤ 2147483647 := h x (List.mem_of_getElem? hx)
theorem Small.set_ {xs : List Int} (h : Small xs) {i : Nat} {v : Int} (h1 : -2147483648 ≤ v) (h2 : v ≤ 2147483647) : Small (xs.set i v) := by
  intro x hx
  rcases List.mem_or_eq_of_mem_set hx with h3 | h3
  · exact h x h3
  · subst h3; exact ⟨h1, h2⟩
theorem Small.erase {xs : List Int} (h : Small xs) (i : Nat) : Small (xs.eraseIdx i) := fun x hx => h x (List.mem_of_mem_eraseIdx hx)
theorem vB_small {xs : List Int} (h : vB xs = true) : Small xs := by
  simp only [vB, Bool.and_eq_true, List.all_eq_true] at h
  intro x hx
  have := inR_true.1 (h.2 x hx)
  omega
theorem Small.getD {xs : List Int} (h : Small xs) (i : Nat) : -2147483648 ≤ xs.getD i 0 ∧ xs.getD i 0 ≤ 2147483647 := by
  rw [List.getD_eq_getElem?_getD]
  cases hx : xs[i]? with
  | none => simp
  | some x => exact h.at_ hx
theorem nth_small : ∀ (m : Nat) (xs : List Int), Small xs → -2147483648 ≤ nthG m xs ∧ nthG m xs ≤ 2147483647
  | 0, xs, h => by rw [nthG_zero]; exact h.getD _
  | m + 1, xs, h => by rw [nthG_succ]; exact nth_small m _ (h.erase _)
theorem pay_small {kd : Nat} {xs : List Int} {r : Int} (h : Small xs) (h1 : -2147483648 ≤ r) (h2 : r ≤ 2147483647) : Small (payOf kd xs r) := by
  have hz : Small (List.replicate xs.length 0) := by intro x hx; rw [List.eq_of_mem_replicate hx]; decide
  unfold payOf
  split
  · exact h
  · split
    · exact hz
    · have := nth_small (kd - 1) xs h
      exact hz.set_ (by omega) (by omega)

theorem gain_win {kd : Nat} {xs : List Int} {i : Nat} {v r a p : Int} (ha : a = atOf xs r) (hp : (payOf kd xs r)[i]? = some p) (h : a = (i : Int)) : gainF kd xs i v r = v - p := by
  unfold gainF; rw [← ha, if_pos h, getD_of hp]
theorem gain_lose {kd : Nat} {xs : List Int} {i : Nat} {v r a p : Int} (ha : a = atOf xs r) (hp : (payOf kd xs r)[i]? = some p) (h : a ≠ (i : Int)) : gainF kd xs i v r = -p := by
  unfold gainF; rw [← ha, if_neg h, getD_of hp]; omega

theorem inR_le {x : Int} (h : inR x 0 30 = true) : 0 ≤ x ∧ x ≤ 30 := inR_true.1 h

end Go.Proofs.Ytnojlapjkdihmaa
