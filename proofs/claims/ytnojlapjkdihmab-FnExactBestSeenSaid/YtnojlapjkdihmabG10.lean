/-
  Chapter 1, the program: the contracts of SaleBy and isBidder.
-/
import Derived.Test.YtnojlapjkdihmabG09
import Derived.Lib.SliceRun
import Derived.Test.YtnojlapjkdihmabG01
namespace Go.Proofs.Ytnojlapjkdihmab
open Go.RowKit

end Go.Proofs.Ytnojlapjkdihmab

/-
  Chapter 1: SaleBy of the program and of the model hand back the same, whatever the arguments.
-/
namespace Go.Proofs.Ytnojlapjkdihmab
open Go.RowKit

/-- A number and a slice in memory of the call's own. -/
def ResIs (w : World) (a : Int) (P : List Int) (e : Ending) (w' : World) : Prop :=
  ∃ A c, e = .returned (.tuple #[.int .i64 a, .slice A P.length c]) ∧ Own w' w.heap.size A c P ∧ Below w.heap.size w w'

theorem SaleIs.res {w w' : World} {xs : List Int} {kd : Nat} {r : Int} {e : Ending} (h : SaleIs w xs kd r e w') : ResIs w (atOf xs r) (payOf kd xs r) e w' := by
  obtain ⟨g, c, he, ho, hb⟩ := h
  exact ⟨some ⟨g, 0, none⟩, c, by rw [he, payOf_len], ho, hb⟩
theorem NoSale.res {w w' : World} {e : Ending} (h : NoSale e) (hb : Below w.heap.size w w') : ResIs w (-1) [] e w' :=
  ⟨none, 0, h, own_none _ _, hb⟩

end Go.Proofs.Ytnojlapjkdihmab
