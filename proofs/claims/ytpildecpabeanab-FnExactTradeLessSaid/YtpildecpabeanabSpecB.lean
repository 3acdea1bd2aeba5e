/-
  Chapter 1, the model: the contract of nth.
-/
import Derived.Test.YtpildecpabeanabSpecA
import Derived.Deep.AppendLies
import Derived.Deep.RegionLaw
namespace Go.Proofs.Ytpildecpabeanab
open Go.RowKit

end Go.Proofs.Ytpildecpabeanab
