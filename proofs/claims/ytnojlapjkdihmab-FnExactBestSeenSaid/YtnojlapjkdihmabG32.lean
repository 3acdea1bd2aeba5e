/-
  The program: the contract of the step from one list of numbers to the next.
-/
import Derived.Test.YtnojlapjkdihmabRestA
import Derived.Test.YtnojlapjkdihmabRestB
namespace Go.Proofs.Ytnojlapjkdihmab
open Go.RowKit

theorem grow_set (W : World) (g j : Nat) (v : Value) : W.grownBy (W.setCell ⟨g, j, none⟩ v) (some g) :=
  ⟨rfl, rfl, rfl, by show W.heap.size ≤ (W.heap.modify _ _).size; rw [Array.size_modify]; exact Nat.le_refl _, fun i _ hi => Below.heap_setCell W _ v i (fun e => hi (by rw [e]))⟩

/-- What nextBids does: the bids in their own block turned to those that follow. -/
def NextIn (w : World) (B g c : Nat) (xs : List Int) (top : Int) (e : Ending) (w' : World) : Prop :=
  (∃ zs, nextF xs top = some zs ∧ zs.length = xs.length ∧ e = .returned (.bool true) ∧ Own w' B (some ⟨g, 0, none⟩) c zs ∧ w.grownBy w' (some g)) ∨
  (nextF xs top = none ∧ e = .returned (.bool false) ∧ w.grownBy w' (some g))

end Go.Proofs.Ytnojlapjkdihmab

/-
  Chapter 1, the program: the contracts of nextBids, isTop and allRest.
-/
namespace Go.Proofs.Ytnojlapjkdihmab
open Go.RowKit

theorem restF_bad2 {kd : Nat} {vs xs : List Int} {i T : Nat} {v now most : Int} (hi : i < xs.length) (hv : vs[i]? = some v) (hn : now = gainF kd xs i v 0) (hq : most = (bestF (gB kd xs i v 0) T).2) (hlt : now < most) : restF kd vs xs T = false := by
  refine range_bad hi ?_
  rw [restAt_best, getD_of hv, ← hn, ← hq, decide_eq_false_iff_not]
  omega
theorem restAt_good {kd : Nat} {vs xs : List Int} {i T : Nat} {v now most : Int} (hv : vs[i]? = some v) (hn : now = gainF kd xs i v 0) (hq : most = (bestF (gB kd xs i v 0) T).2) (hle : ¬ now < most) : restAt kd vs xs T i = true := by
  rw [restAt_best, getD_of hv, ← hn, ← hq, decide_eq_true_eq]
  omega
end Go.Proofs.Ytnojlapjkdihmab

/-
  Chapter 1, the model: the contract of IsTrue.
-/
namespace Go.Proofs.Ytnojlapjkdihmab
open Go.RowKit

/-- Whether by the kind no bid is better than the value, at any bids. -/
def isTrueF (kd n top : Nat) : Bool := (allF top (List.replicate n 0)).all (fun b => restF kd b b (top + 1))
theorem Fit.small {top n : Nat} {ys : List Int} (h : Fit top n ys) (ht : top ≤ 1048576) : Small ys := fun x hx => by have := h.2 x hx; omega

end Go.Proofs.Ytnojlapjkdihmab
