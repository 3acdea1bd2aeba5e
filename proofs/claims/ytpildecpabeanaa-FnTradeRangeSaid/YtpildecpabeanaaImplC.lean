/-
  Chapter 1, the program: the contracts of SaleBy and isBidder.
-/
import Derived.Test.YtpildecpabeanaaImplB
import Derived.Lib.SliceRun
namespace Go.Proofs.Ytpildecpabeanaa
open Go.RowKit

end Go.Proofs.Ytpildecpabeanaa
