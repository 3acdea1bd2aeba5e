/-
  The exact law of PairPays: for all rows the program's PairPays answers as its model does, and writes into no argument.
-/
import Derived.Test.YtkhpheebjkbihabRows
import Derived.ProofKit
import Derived.OpenShut
import Derived.ShutString
import Derived.ChangeOld
namespace Go.Proofs.Ytkhpheebjkbihab.fnExactPairPays
open Go.ChangeShapes Go.WideShapes Go.ChangeAt Go.RowKit
open Go.ChangeMaps (open_string shut_string)
set_option linter.unusedVariables false

theorem named : Try.pinned.checked.prog.funcNamed Rows.fnExactPairPaysRow.func = some 12 := by kernel_rfl
theorem closed : joinedFacts Try.pinned.checked.prog 12 Try.f12 Rows.fnExactPairPaysSpec Rows.fnExactPairPaysRow = true := by kernel_rfl
theorem inst : (Try.f12).isInstance Try.pinned.checked.prog Rows.fnExactPairPaysRow.origin Rows.fnExactPairPaysRow.targs := of_decide_eq_true (by kernel_rfl)
end Go.Proofs.Ytkhpheebjkbihab.fnExactPairPays
