/-
  Chapter 1, the model: the contract of nth.
-/
import Derived.Test.YtnojlapjkdihmaaG02
import Derived.Deep.AppendLies
import Derived.Deep.RegionLaw
namespace Go.Proofs.Ytnojlapjkdihmaa
open Go.RowKit

end Go.Proofs.Ytnojlapjkdihmaa
