/-
  Chapter 10: words for results.
-/
import Derived.Test.YtpildecpabeanaaEe
import Derived.Test.YtpildecpabeanaaLeast
namespace Go.Proofs.Ytpildecpabeanaa
open Go.RowKit

/-- Numbers that are bids. -/
def Bd (xs : List Int) : Prop := (1 ≤ xs.length ∧ xs.length ≤ 6) ∧ ∀ x ∈ xs, 0 ≤ x ∧ x ≤ 30
theorem vB_Bd {xs : List Int} (h : vB xs = true) : Bd xs := by
  have h1 := vB_le h
  refine ⟨h1, fun x hx => ?_⟩
  simp only [vB, Bool.and_eq_true, List.all_eq_true] at h
  exact inR_true.1 (h.2 x hx)
theorem Bd.at_ {xs : List Int} (h : Bd xs) {k : Nat} {x : Int} (hx : xs[k]? = some x) : 0 ≤ x ∧ x ≤ 30 := h.2 x (List.mem_of_getElem? hx)

/-- Two numbers as result. -/
def PairIs (w : World) (x y : Int) (e : Ending) (w' : World) : Prop := e = .returned (.tuple #[.int .i64 x, .int .i64 y]) ∧ Below w.heap.size w w'
/-- Three. -/
def TripIs (w : World) (x y z : Int) (e : Ending) (w' : World) : Prop := e = .returned (.tuple #[.int .i64 x, .int .i64 y, .int .i64 z]) ∧ Below w.heap.size w w'

end Go.Proofs.Ytpildecpabeanaa
