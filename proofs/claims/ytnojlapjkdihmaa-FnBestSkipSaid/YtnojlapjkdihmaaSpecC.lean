/-
  Chapter 1, the model: the contract of sale.
-/
import Derived.Test.YtnojlapjkdihmaaSpecB
namespace Go.Proofs.Ytnojlapjkdihmaa
open Go.RowKit

/-- The word s is the kind kd. -/
def KindIs (s : ByteArray) (kd : Nat) : Prop :=
  (kd = 1 ∧ s = ⟨#[102, 105, 114, 115, 116]⟩) ∨ (kd = 2 ∧ s = ⟨#[115, 101, 99, 111, 110, 100]⟩) ∨ (kd = 3 ∧ s = ⟨#[116, 104, 105, 114, 100]⟩) ∨ (kd = 4 ∧ s = ⟨#[97, 108, 108]⟩)

/-- What a sale hands back. -/
def SaleIs (w : World) (xs : List Int) (kd : Nat) (r : Int) (e : Ending) (w' : World) : Prop :=
  ∃ g c, e = .returned (.tuple #[.int .i64 (atOf xs r), .slice (some ⟨g, 0, none⟩) xs.length c]) ∧ Own w' w.heap.size (some ⟨g, 0, none⟩) c (payOf kd xs r) ∧ Below w.heap.size w w'

end Go.Proofs.Ytnojlapjkdihmaa
