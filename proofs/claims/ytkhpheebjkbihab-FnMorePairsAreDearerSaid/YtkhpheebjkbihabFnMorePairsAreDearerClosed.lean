/-
  The law FnMorePairsAreDearer: for every code the program's PairPrices answers as its model does at the rows drawn, and PairPrices and MostPairPrices without the last bidder are no more.
-/
import Derived.Test.YtkhpheebjkbihabRows
import Derived.ProofKit
import Derived.OpenShut
import Derived.ShutString
import Derived.ChangeOld
namespace Go.Proofs.Ytkhpheebjkbihab.fnMorePairsAreDearer
open Go.ChangeShapes Go.WideShapes Go.ChangeAt Go.RowKit
open Go.ChangeMaps (open_string shut_string)
set_option linter.unusedVariables false

theorem named : Try.pinned.checked.prog.funcNamed Rows.fnMorePairsAreDearerRow.func = some 5 := by kernel_rfl
theorem closed : joinedFacts Try.pinned.checked.prog 5 Try.f5 Rows.fnMorePairsAreDearerSpec Rows.fnMorePairsAreDearerRow = true := by kernel_rfl
theorem inst : (Try.f5).isInstance Try.pinned.checked.prog Rows.fnMorePairsAreDearerRow.origin Rows.fnMorePairsAreDearerRow.targs := of_decide_eq_true (by kernel_rfl)
end Go.Proofs.Ytkhpheebjkbihab.fnMorePairsAreDearer
