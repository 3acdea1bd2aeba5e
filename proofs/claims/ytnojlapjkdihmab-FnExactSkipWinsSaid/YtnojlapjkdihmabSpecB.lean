/-
  Chapter 1, the model: the contract of nth.
-/
import Derived.Test.YtnojlapjkdihmabG02
import Derived.Deep.AppendLies
import Derived.Deep.RegionLaw
namespace Go.Proofs.Ytnojlapjkdihmab
open Go.RowKit

end Go.Proofs.Ytnojlapjkdihmab
