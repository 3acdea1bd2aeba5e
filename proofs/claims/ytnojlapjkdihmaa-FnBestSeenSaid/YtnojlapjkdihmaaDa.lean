/-
  Chapter 2, the model: the contract of VirtualRevenue.
-/
import Derived.Test.YtnojlapjkdihmaaG24
namespace Go.Proofs.Ytnojlapjkdihmaa
open Go.RowKit

theorem own_ne {w : World} {C g c : Nat} {ys : List Int} (h : Own w (C + 1) (some ⟨g, 0, none⟩) c ys) : Value.ownBlock (.slice (some ⟨g, 0, none⟩) ys.length c) ≠ some C := by
  intro e
  have := h.ge
  simp [Value.ownBlock] at e
  omega

end Go.Proofs.Ytnojlapjkdihmaa
