/-
  The exact law of PairPrices: for all rows the program's PairPrices answers as its model does, and writes into no argument.
-/
import Derived.Test.YtkhpheebjkbihabRows
import Derived.Test.YtkhpheebjkbihabFnExactPairPricesLift
import Derived.Test.YtkhpheebjkbihabFnExactPairPricesClosed
import Derived.ProofKit
import Derived.OpenShut
import Derived.ShutString
import Derived.ChangeOld
namespace Go.Proofs.Ytkhpheebjkbihab.fnExactPairPrices
open Go.ChangeShapes Go.WideShapes Go.ChangeAt Go.RowKit
open Go.ChangeMaps (open_string shut_string)
set_option linter.unusedVariables false

theorem over : Rows.fnExactPairPricesRow.holds Try.pinned (OpenSpec.ofChange Rows.fnExactPairPricesSpec) :=
  OpenClaim.holds_of_wide 11 Try.f11 rfl rfl rfl rfl rfl rfl rfl ⟨rfl, rfl, rfl, rfl, rfl⟩ rfl rfl rfl rfl rfl named Try.func11 closed
    inst (by unfold Func.isWrapper; first | (rw [if_pos (by decide +kernel)]; kernel_rfl) | (rw [if_neg (by decide +kernel)]; exact ⟨rfl, rfl⟩))
    (fun os started H enc _ => lifted os started H enc)

theorem proved : Rows.FnExactPairPricesSaid := over

end Go.Proofs.Ytkhpheebjkbihab.fnExactPairPrices
