/-
  The laws of chapters 4 and 5: what they draw.
-/
import Derived.Test.YtccbjgajmjcpjaaQj
import Derived.Test.YtccbjgajmjcpjaaVu
namespace Go.Proofs.Ytccbjgajmjcpjaa
open Go.RowKit Go.Lib

theorem eight_map {ps : List (Nat × Nat × List Int)} (hl : ps.length ≤ 4) (h : ∀ p ∈ ps, p.2.2.length ≤ 8) : (ps.map (·.2.2)).length ≤ 4 ∧ ∀ r ∈ ps.map (·.2.2), r.length ≤ 8 :=
  ⟨by simpa using hl, fun r hr => by obtain ⟨p, hp, rfl⟩ := List.mem_map.1 hr; exact h p hp⟩
/-- What is drawn: tables. -/
def DrawnTs (w : World) (e : Ending) (w' : World) : Prop :=
  ∃ (A : Option Addr) (c : Nat) (rows : List (List Int)), e = .returned (.slice A rows.length c) ∧ RdR w' A c rows ∧ rows.length ≤ 4 ∧ (∀ r ∈ rows, r.length ≤ 8) ∧ Below w.heap.size w w'

end Go.Proofs.Ytccbjgajmjcpjaa
