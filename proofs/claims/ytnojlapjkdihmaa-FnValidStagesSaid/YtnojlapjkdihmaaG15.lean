/-
  Chapter 1, the model: the contracts of greatest and withBid.
-/
import Derived.Test.YtnojlapjkdihmaaG14
import Derived.Test.YtnojlapjkdihmaaPl
import Derived.Deep.AppendLies
import Derived.Deep.RegionLaw
namespace Go.Proofs.Ytnojlapjkdihmaa
open Go.RowKit

end Go.Proofs.Ytnojlapjkdihmaa

/-
  Chapter 1, the model: the contract of nth.
-/
namespace Go.Proofs.Ytnojlapjkdihmaa
open Go.RowKit

end Go.Proofs.Ytnojlapjkdihmaa
