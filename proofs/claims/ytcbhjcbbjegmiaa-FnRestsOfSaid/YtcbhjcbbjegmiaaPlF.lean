/-
  Chapter 1 in plain arithmetic: what holds where two rest by first.
-/
import Derived.Test.YtcbhjcbbjegmiaaGrid
namespace Go.Proofs.Ytcbhjcbbjegmiaa

/-- Who has the thing pays no more than the value, and has nearly the greatest value. -/
def fairAt (x y : Int) (b : List Int) : Bool :=
  decide (0 ≤ atOf b 0) && decide (atOf b 0 < 2) && decide ((payOf 1 b 0).getD (atOf b 0).toNat 0 ≤ [x, y].getD (atOf b 0).toNat 0) && decide ([x, y].getD (1 - atOf b 0).toNat 0 - 1 ≤ [x, y].getD (atOf b 0).toNat 0)
theorem fair_all : ((List.range 6).all fun t => (List.range (t + 1)).all fun x => (List.range (t + 1)).all fun y => (restsF 1 [(x : Int), (y : Int)] 2 t).all (fairAt x y)) = true := by decide +kernel
theorem fair {t x y : Nat} (ht : t ≤ 5) (hx : x ≤ t) (hy : y ≤ t) {b : List Int} (hb : b ∈ restsF 1 [(x : Int), (y : Int)] 2 t) : fairAt x y b = true := by
  have h := fair_all
  rw [List.all_eq_true] at h
  have h := h t (List.mem_range.2 (by omega))
  rw [List.all_eq_true] at h
  have h := h x (List.mem_range.2 (by omega))
  rw [List.all_eq_true] at h
  have h := h y (List.mem_range.2 (by omega))
  rw [List.all_eq_true] at h
  exact h b hb

end Go.Proofs.Ytcbhjcbbjegmiaa
