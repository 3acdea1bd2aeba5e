/-
  The exact law of PairPays: for all rows the program's PairPays answers as its model does, and writes into no argument.
-/
import Derived.Test.YtkhpheebjkbihabRows
import Derived.Test.YtkhpheebjkbihabPairPaysLift
import Derived.Test.YtkhpheebjkbihabPairPaysClosed
import Derived.ProofKit
import Derived.OpenShut
import Derived.ShutString
import Derived.ChangeOld
namespace Go.Proofs.Ytkhpheebjkbihab.fnExactPairPays
open Go.ChangeShapes Go.WideShapes Go.ChangeAt Go.RowKit
open Go.ChangeMaps (open_string shut_string)
set_option linter.unusedVariables false

theorem over : Rows.fnExactPairPaysRow.holds Try.pinned (OpenSpec.ofChange Rows.fnExactPairPaysSpec) :=
  OpenClaim.holds_of_wide 12 Try.f12 rfl rfl rfl rfl rfl rfl rfl ⟨rfl, rfl, rfl, rfl, rfl⟩ rfl rfl rfl rfl rfl named Try.func12 closed
    inst (by unfold Func.isWrapper; first | (rw [if_pos (by decide +kernel)]; kernel_rfl) | (rw [if_neg (by decide +kernel)]; exact ⟨rfl, rfl⟩))
    (fun os started H enc _ => lifted os started H enc)

theorem proved : Rows.FnExactPairPaysSaid := over

end Go.Proofs.Ytkhpheebjkbihab.fnExactPairPays
