/-
  The law FnMorePairsAreDearer: for every code the program's PairPrices answers as its model does at the rows drawn, and PairPrices and MostPairPrices without the last bidder are no more.
-/
import Derived.Test.YtkhpheebjkbihabRows
import Derived.Test.YtkhpheebjkbihabFnMorePairsAreDearerLift
import Derived.Test.YtkhpheebjkbihabFnMorePairsAreDearerClosed
import Derived.ProofKit
import Derived.OpenShut
import Derived.ShutString
import Derived.ChangeOld
namespace Go.Proofs.Ytkhpheebjkbihab.fnMorePairsAreDearer
open Go.ChangeShapes Go.WideShapes Go.ChangeAt Go.RowKit
open Go.ChangeMaps (open_string shut_string)
set_option linter.unusedVariables false

theorem over : Rows.fnMorePairsAreDearerRow.holds Try.pinned (OpenSpec.ofChange Rows.fnMorePairsAreDearerSpec) :=
  OpenClaim.holds_of_wide 5 Try.f5 rfl rfl rfl rfl rfl rfl rfl ⟨rfl, rfl, rfl, rfl, rfl⟩ rfl rfl rfl rfl rfl named Try.func5 closed
    inst (by unfold Func.isWrapper; first | (rw [if_pos (by decide +kernel)]; kernel_rfl) | (rw [if_neg (by decide +kernel)]; exact ⟨rfl, rfl⟩))
    (fun os started H enc _ => lifted os started H enc)

theorem proved : Rows.FnMorePairsAreDearerSaid := over

end Go.Proofs.Ytkhpheebjkbihab.fnMorePairsAreDearer
