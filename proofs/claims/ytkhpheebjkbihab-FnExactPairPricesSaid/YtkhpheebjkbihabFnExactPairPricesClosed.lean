/-
  The exact law of PairPrices: for all rows the program's PairPrices answers as its model does, and writes into no argument.
-/
import Derived.Test.YtkhpheebjkbihabRows
import Derived.ProofKit
import Derived.OpenShut
import Derived.ShutString
import Derived.ChangeOld
namespace Go.Proofs.Ytkhpheebjkbihab.fnExactPairPrices
open Go.ChangeShapes Go.WideShapes Go.ChangeAt Go.RowKit
open Go.ChangeMaps (open_string shut_string)
set_option linter.unusedVariables false

theorem named : Try.pinned.checked.prog.funcNamed Rows.fnExactPairPricesRow.func = some 11 := by kernel_rfl
theorem closed : joinedFacts Try.pinned.checked.prog 11 Try.f11 Rows.fnExactPairPricesSpec Rows.fnExactPairPricesRow = true := by kernel_rfl
theorem inst : (Try.f11).isInstance Try.pinned.checked.prog Rows.fnExactPairPricesRow.origin Rows.fnExactPairPricesRow.targs := of_decide_eq_true (by kernel_rfl)
end Go.Proofs.Ytkhpheebjkbihab.fnExactPairPrices
