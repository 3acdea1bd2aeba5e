/-
  Chapter 1: the contracts of LeastToWin, of the model and of the program.
-/
import Derived.Test.YtnojlapjkdihmaaG07
namespace Go.Proofs.Ytnojlapjkdihmaa
open Go.RowKit

/-- Two results, a number and a bool. -/
def TwoIs (w : World) (n : Int) (b : Bool) (e : Ending) (w' : World) : Prop := e = .returned (.tuple #[.int .i64 n, .bool b]) ∧ Below w.heap.size w w'

theorem winB_yes {xs : List Int} {i : Nat} {r a : Int} {b : Nat} {ys : List Int} (hy : ys = xs.set i b) (ha : a = atOf ys r) (h : a = (i : Int)) : winB xs i r b = true := by
  unfold winB; rw [← hy, ← ha]; simpa using h
theorem winB_no {xs : List Int} {i : Nat} {r a : Int} {b : Nat} {ys : List Int} (hy : ys = xs.set i b) (ha : a = atOf ys r) (h : a ≠ (i : Int)) : winB xs i r b = false := by
  unfold winB; rw [← hy, ← ha]; simpa using h

theorem wB_le {xs : List Int} {i : Int} (h : wB xs i = true) : vB xs = true ∧ 0 ≤ i ∧ i < xs.length ∧ 1 ≤ xs.length ∧ xs.length ≤ 6 := by
  simp only [wB, Bool.and_eq_true, inR_true] at h
  have := vB_le h.1
  exact ⟨h.1, by omega, by omega, this.1, this.2⟩
theorem wB_yes {xs : List Int} {i : Int} (hv : vB xs = true) (h0 : 0 ≤ i) (h1 : i < xs.length) : wB xs i = true := by
  simp only [wB, hv, Bool.true_and, inR_true]; omega
theorem wB_bad {xs : List Int} {i : Int} (hv : vB xs = false) : wB xs i = false := by simp only [wB, hv, Bool.false_and]
theorem wB_out {xs : List Int} {i : Int} (h : ¬ (0 ≤ i ∧ i < xs.length)) : wB xs i = false := by
  rw [wB]
  have : inR i 0 (xs.length - 1) = false := inR_false.2 (by omega)
  rw [this, Bool.and_false]

/-- ys is xs but for the place i. -/
def ButAt (xs ys : List Int) (i : Nat) : Prop := ys.length = xs.length ∧ ∀ v, ys.set i v = xs.set i v
theorem ButAt.refl (xs : List Int) (i : Nat) : ButAt xs xs i := ⟨rfl, fun _ => rfl⟩
theorem ButAt.set_ {xs ys zs : List Int} {i : Nat} {v : Int} (h : ButAt xs ys i) (hz : zs = xs.set i v) : ButAt xs zs i ∧ ys.set i v = zs := by
  subst hz
  exact ⟨⟨List.length_set, fun u => List.set_set _⟩, h.2 v⟩

end Go.Proofs.Ytnojlapjkdihmaa
