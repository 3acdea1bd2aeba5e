/-
  Chapter 1, the model: the contracts of honest and calm.
-/
import Derived.Test.YtnojlapjkdihmaaG14
import Derived.Test.YtnojlapjkdihmaaG22
namespace Go.Proofs.Ytnojlapjkdihmaa
open Go.RowKit

theorem Rd.cell {w : World} {b off c : Nat} {zs : List Int} (h : Rd w (some ⟨b, off, none⟩) c zs) {k : Nat} {x : Int} (hx : zs[k]? = some x) : w.cell? ⟨b, off + k, none⟩ = some (.int .i64 x) := by
  obtain ⟨b', off', e, hc⟩ := h.open_ (by have := (List.getElem?_eq_some_iff.1 hx).1; omega)
  injection e with e
  injection e with e1 e2
  subst e1 e2
  exact hc k x hx

/-- Of the bids up to m none is better. -/
def AllLow (kd : Nat) (xs : List Int) (i : Nat) (v now : Int) (m : Nat) : Prop := (List.range m).all (fun b => decide (gB kd xs i v 0 b ≤ now)) = true
theorem AllLow.zero (kd : Nat) (xs : List Int) (i : Nat) (v now : Int) : AllLow kd xs i v now 0 := rfl
theorem AllLow.up {kd : Nat} {xs : List Int} {i : Nat} {v now q : Int} {m : Nat} (h : AllLow kd xs i v now m) (hq : q = gB kd xs i v 0 m) (hle : ¬ now < q) : AllLow kd xs i v now (m + 1) :=
  range_step h (by rw [decide_eq_true_eq, ← hq]; omega)
theorem AllLow.done {kd : Nat} {vs xs : List Int} {i T : Nat} {v now : Int} (h : AllLow kd xs i v now (T + 1)) (hv : vs[i]? = some v) (hn : now = gainF kd xs i v 0) : restAt kd vs xs T i = true := by
  unfold restAt
  rw [getD_of hv, ← hn]
  exact h
theorem restF_bad {kd : Nat} {vs xs : List Int} {i T m : Nat} {v now q : Int} (hi : i < xs.length) (hm : m < T + 1) (hv : vs[i]? = some v) (hn : now = gainF kd xs i v 0) (hq : q = gB kd xs i v 0 m) (hlt : now < q) : restF kd vs xs T = false := by
  refine range_bad hi (range_bad hm ?_)
  rw [getD_of hv, ← hn, decide_eq_false_iff_not, ← hq]
  omega
/-- Of the first k all rest. -/
def RestTo (kd : Nat) (vs xs : List Int) (T k : Nat) : Prop := (List.range k).all (restAt kd vs xs T) = true
theorem RestTo.up {kd : Nat} {vs xs : List Int} {T k : Nat} (h : RestTo kd vs xs T k) (hr : restAt kd vs xs T k = true) : RestTo kd vs xs T (k + 1) := range_step h hr

end Go.Proofs.Ytnojlapjkdihmaa
