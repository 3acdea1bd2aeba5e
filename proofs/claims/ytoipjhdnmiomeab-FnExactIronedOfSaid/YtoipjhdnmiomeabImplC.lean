/-
  Chapter 1, the program: the contracts of SaleBy and isBidder.
-/
import Derived.Test.YtoipjhdnmiomeabImplB
import Derived.Lib.SliceRun
namespace Go.Proofs.Ytoipjhdnmiomeab
open Go.RowKit

end Go.Proofs.Ytoipjhdnmiomeab
