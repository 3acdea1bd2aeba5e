/-
  Chapter 1: the contracts of BestBid, of the model and of the program.
-/
import Derived.Test.YtnojlapjkdihmaaGain
namespace Go.Proofs.Ytnojlapjkdihmaa
open Go.RowKit

/-- What the bidder i gains by the bid b. -/
def gB (kd : Nat) (xs : List Int) (i : Nat) (v r : Int) (b : Nat) : Int := gainF kd (xs.set i b) i v r

theorem best_up {g : Nat → Int} {k : Nat} {p : Nat} {q q' : Int} (h : bestF g k = (p, q)) (hq : q' = g (k + 1)) (hlt : q < q') : bestF g (k + 1) = (k + 1, q') := by
  rw [bestF, h, if_pos (by rw [← hq]; exact hlt), hq]
theorem best_keep {g : Nat → Int} {k : Nat} {p : Nat} {q q' : Int} (h : bestF g k = (p, q)) (hq : q' = g (k + 1)) (hlt : ¬ q < q') : bestF g (k + 1) = (p, q) := by
  rw [bestF, h, if_neg (by rw [← hq]; exact hlt)]

/-- Three results: two numbers and a bool. -/
def ThreeIs (w : World) (m n : Int) (b : Bool) (e : Ending) (w' : World) : Prop := e = .returned (.tuple #[.int .i64 m, .int .i64 n, .bool b]) ∧ Below w.heap.size w w'
/-- Two numbers. -/
def PairIs (w : World) (m n : Int) (e : Ending) (w' : World) : Prop := e = .returned (.tuple #[.int .i64 m, .int .i64 n]) ∧ Below w.heap.size w w'

end Go.Proofs.Ytnojlapjkdihmaa
