/-
  Chapter 4: both sides of BestSplit.
-/
import Derived.Test.YtccbjgajmjcpjaaWq
namespace Go.Proofs.Ytccbjgajmjcpjaa
open Go.RowKit

/-- What is handed back: numbers in a block of their own, and a number. -/
def PlIs (w : World) (zs : List Int) (m : Int) (e : Ending) (w' : World) : Prop :=
  ∃ A c, e = .returned (.tuple #[.slice A zs.length c, .int .i64 m]) ∧ Own w' w.heap.size A c zs ∧ Below w.heap.size w w'
open Classical in
/-- The sets of the best split, nil for others. -/
noncomputable def bsF (ts : List (List Int)) : List Int := if VTs ts then setsF (wayF ts) ts.length else []
open Classical in
/-- What they are worth, -1 for others. -/
noncomputable def bwF (ts : List (List Int)) : Int := if VTs ts then worthF ts (wayF ts) else -1
theorem BsIs.pl {w : World} {ts : List (List Int)} {e : Ending} {w' : World} (h : BsIs w ts e w') : PlIs w (bsF ts) (bwF ts) e w' := by
  obtain ⟨A, c, xs, m, rfl, ho, hb, h | h⟩ := h
  · obtain ⟨h1, rfl, rfl⟩ := h
    unfold bsF bwF
    rw [if_pos h1, if_pos h1]
    exact ⟨A, c, rfl, ho, hb⟩
  · obtain ⟨h1, rfl, rfl⟩ := h
    unfold bsF bwF
    rw [if_neg h1, if_neg h1]
    exact ⟨A, c, rfl, ho, hb⟩
theorem bsF_len (ts : List (List Int)) : (bsF ts).length ≤ 1000 := by
  unfold bsF
  split
  · rename_i h
    rw [setsF_len']; have := h.1.2; omega
  · simp
end Go.Proofs.Ytccbjgajmjcpjaa
