/-
  Chapter 1, the model: the contracts of greatest and withBid.
-/
import Derived.Test.YtnojlapjkdihmabG09
import Derived.Test.YtnojlapjkdihmabPl
import Derived.Deep.AppendLies
import Derived.Deep.RegionLaw
namespace Go.Proofs.Ytnojlapjkdihmab
open Go.RowKit

end Go.Proofs.Ytnojlapjkdihmab

/-
  Chapter 1, the model: the contract of nth.
-/
namespace Go.Proofs.Ytnojlapjkdihmab
open Go.RowKit

end Go.Proofs.Ytnojlapjkdihmab
