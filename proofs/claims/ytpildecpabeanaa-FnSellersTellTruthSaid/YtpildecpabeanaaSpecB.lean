/-
  Chapter 1, the model: the contract of nth.
-/
import Derived.Test.YtpildecpabeanaaSpecA
import Derived.Deep.AppendLies
import Derived.Deep.RegionLaw
namespace Go.Proofs.Ytpildecpabeanaa
open Go.RowKit

end Go.Proofs.Ytpildecpabeanaa
