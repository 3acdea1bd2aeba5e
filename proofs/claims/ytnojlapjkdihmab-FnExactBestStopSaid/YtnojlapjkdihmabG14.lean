/-
  Chapter 1: the contracts of BestBid, of the model and of the program.
-/
import Derived.Test.YtnojlapjkdihmabG13
import Derived.Test.YtnojlapjkdihmabG01
namespace Go.Proofs.Ytnojlapjkdihmab
open Go.RowKit

/-- What the bidder i gains by the bid b. -/
def gB (kd : Nat) (xs : List Int) (i : Nat) (v r : Int) (b : Nat) : Int := gainF kd (xs.set i b) i v r

theorem best_up {g : Nat → Int} {k : Nat} {p : Nat} {q q' : Int} (h : bestF g k = (p, q)) (hq : q' = g (k + 1)) (hlt : q < q') : bestF g (k + 1) = (k + 1, q') := by
  rw [bestF, h, if_pos (by rw [← hq]; exact hlt), hq]
theorem best_keep {g : Nat → Int} {k : Nat} {p : Nat} {q q' : Int} (h : bestF g k = (p, q)) (hq : q' = g (k + 1)) (hlt : ¬ q < q') : bestF g (k + 1) = (p, q) := by
  rw [bestF, h, if_neg (by rw [← hq]; exact hlt)]

/-- Three results: two numbers and a bool. -/
def ThreeIs (w : World) (m n : Int) (b : Bool) (e : Ending) (w' : World) : Prop := e = .returned (.tuple #[.int .i64 m, .int .i64 n, .bool b]) ∧ Below w.heap.size w w'
/-- Two numbers. -/
def PairIs (w : World) (m n : Int) (e : Ending) (w' : World) : Prop := e = .returned (.tuple #[.int .i64 m, .int .i64 n]) ∧ Below w.heap.size w w'

end Go.Proofs.Ytnojlapjkdihmab

/-
  The generators of the laws: the contracts of the reader.
-/
namespace Go.Proofs.Ytnojlapjkdihmab
open Go.RowKit

theorem xor_i64_nat (a b : Nat) (ha : a < 4294967296) (hb : b < 4294967296) : bits .xor .i64 (a : Int) (b : Int) = ((a ^^^ b : Nat) : Int) ∧ a ^^^ b < 4294967296 := by
  have hx : a ^^^ b < 2 ^ 32 := Nat.xor_lt_two_pow (by omega) (by omega)
  have h1 : (BitVec.ofInt 64 (a : Int)).toNat = a := by
    rw [BitVec.ofInt_natCast, BitVec.toNat_ofNat]; exact Nat.mod_eq_of_lt (by omega)
  have h2 : (BitVec.ofInt 64 (b : Int)).toNat = b := by
    rw [BitVec.ofInt_natCast, BitVec.toNat_ofNat]; exact Nat.mod_eq_of_lt (by omega)
  refine ⟨?_, by omega⟩
  show IntKind.i64.wrap ((BitVec.ofInt 64 (a : Int) ^^^ BitVec.ofInt 64 (b : Int)).toNat : Int) = _
  rw [BitVec.toNat_xor, h1, h2, IntKind.wrap_i64]
  omega

end Go.Proofs.Ytnojlapjkdihmab
