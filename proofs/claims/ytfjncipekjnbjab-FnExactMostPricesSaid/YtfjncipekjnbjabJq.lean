/-
  Chapter 6: the program's JoinTables.
-/
import Derived.Test.YtfjncipekjnbjabJl
import Derived.Test.YtfjncipekjnbjabQb
namespace Go.Proofs.Ytfjncipekjnbjab
open Go.RowKit

/-- What is handed back for the joined table l. -/
def JtIs (w : World) (l : List Int) (e : Ending) (w' : World) : Prop := Below w.heap.size w w' ∧ ((vt l = true ∧ ∃ M, e = .returned (.slice (some ⟨M, 0, none⟩) 8 8) ∧ w.heap.size ≤ M ∧ Arr w' M l) ∨ (vt l = false ∧ e = .returned (.slice none 0 0)))
end Go.Proofs.Ytfjncipekjnbjab
