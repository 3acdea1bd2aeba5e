/-
  Chapter 2, the program: the terms of VirtualRevenue and of BestRevenue.
-/
import Derived.Test.YtnojlapjkdihmaaDb
namespace Go.Proofs.Ytnojlapjkdihmaa
open Go.RowKit

end Go.Proofs.Ytnojlapjkdihmaa
