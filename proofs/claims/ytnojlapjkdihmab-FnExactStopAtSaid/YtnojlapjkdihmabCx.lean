/-
  Chapter 2, the program: the contract of termsOf at whole numbers.
-/
import Derived.Test.YtnojlapjkdihmabG22
import Derived.Test.YtnojlapjkdihmabG23
import Derived.Deep.AppendLies
namespace Go.Proofs.Ytnojlapjkdihmab
open Go.RowKit Go.Shelf
attribute [local go_sem] Oper.semAt_some

theorem row_isCells {w : World} {B e size n r : Nat} {v : Value} {vs : List Value} (h : w.ownsRow B e size v n vs) (hv : v.ownBlock = some r) : ∃ o, w.heap[r]? = some o ∧ o.isCells = true := by
  rcases h.2 with ⟨rfl, _⟩ | ⟨g, cap, cur, rfl, _, hh, _⟩
  · simp [Value.ownBlock] at hv
  · obtain rfl : g = r := by simpa [Value.ownBlock] using hv
    exact ⟨_, hh, rfl⟩

/-- How many are still to come is bounded. -/
def CountL (top k : Nat) : Option (List Int) → Prop
  | some ys => k + (leftF ys top + 1) ≤ 1000
  | none => True
theorem CountL.next {top n k : Nat} {ys : List Int} (h : CountL top k (some ys)) (hf : Fit top n ys) : CountL top (k + 1) (nextF ys top) := by
  have h : k + (leftF ys top + 1) ≤ 1000 := h
  cases hn : nextF ys top with
  | none => trivial
  | some zs =>
    have := (hf.next hn).2
    show k + 1 + (leftF zs top + 1) ≤ 1000
    omega

/-- What a loop over all values has collected: the list in its box, its elements beyond R; what lay below the box lies as it lay. -/
structure Coll {α : Type} (bt e size : Nat) (enc : List α → List Value) (t : List Int → α) (total : List α) (W0 : World) (p8 R top : Nat) (v : Value) (zs : List α) (s : Option (List Int)) (W : World) : Prop where
  box : Boxed W p8 bt v
  row : W.ownsRow R e size v zs.length (enc zs)
  at_ : total = zs ++ restOf t top s
  count : CountL top zs.length s
  below : Below p8 W0 W

theorem Coll.kept {α : Type} {bt e size : Nat} {enc : List α → List Value} {t : List Int → α} {total : List α} {W0 A C : World} {p8 R top r : Nat} {v : Value} {zs : List α} {s : Option (List Int)} (h : Coll bt e size enc t total W0 p8 R top v zs s A)
    (hp0 : p8 ≤ W0.heap.size) (hg : A.grownBy C (some r)) (hp : p8 < r) (hr : r < R ∨ ∃ o, A.heap[r]? = some o ∧ o.isCells = false) : Coll bt e size enc t total W0 p8 R top v zs s C := by
  refine ⟨h.box.kept hg (fun e => by cases e; omega), World.ownsRow.kept h.row hg ?_, h.at_, h.count, h.below.grown hg (Nat.le_trans hp0 h.below.size) (fun k e => by cases e; omega)⟩
  by_cases hv : v.ownBlock = none
  · exact .inl hv
  · refine .inr fun e => ?_
    rcases hr with hr | ⟨o, ho, hc⟩
    · have := (World.ownsRow.lt h.row r e).1
      omega
    · obtain ⟨o', ho', hc'⟩ := row_isCells h.row e
      rw [ho] at ho'
      cases ho'
      rw [hc] at hc'
      cases hc'

theorem keeps_below' {W W' : World} (h : Below W.heap.size W W') : KeepsOthers W W' := KeepsOthers.of_grownBy (grown_of_below h none) (by simp)

def ints (zs : List Int) : List Value := zs.map (Value.int .i64)

end Go.Proofs.Ytnojlapjkdihmab
