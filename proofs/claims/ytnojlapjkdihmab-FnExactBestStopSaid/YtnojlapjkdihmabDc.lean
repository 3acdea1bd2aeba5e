/-
  Chapter 2, the program: the terms of VirtualRevenue and of BestRevenue.
-/
import Derived.Test.YtnojlapjkdihmabDb
namespace Go.Proofs.Ytnojlapjkdihmab
open Go.RowKit

end Go.Proofs.Ytnojlapjkdihmab
