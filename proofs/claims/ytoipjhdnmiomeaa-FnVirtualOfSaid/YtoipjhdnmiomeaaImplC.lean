/-
  Chapter 1, the program: the contracts of SaleBy and isBidder.
-/
import Derived.Test.YtoipjhdnmiomeaaImplB
import Derived.Lib.SliceRun
namespace Go.Proofs.Ytoipjhdnmiomeaa
open Go.RowKit

end Go.Proofs.Ytoipjhdnmiomeaa
