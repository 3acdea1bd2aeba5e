/-
  Chapter 1, the program: the contracts of SaleBy and isBidder.
-/
import Derived.Test.YtpildecpabeanabImplB
import Derived.Lib.SliceRun
namespace Go.Proofs.Ytpildecpabeanab
open Go.RowKit

end Go.Proofs.Ytpildecpabeanab
