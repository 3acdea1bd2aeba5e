/-
  The walk of the exact law of SkipWins.
-/
import Derived.Test.YtnojlapjkdihmabHj
namespace Go.Proofs.Ytnojlapjkdihmab
open Go.RowKit

set_option maxHeartbeats 800000 in
theorem fnExactSkipWins_walk {n k : Int} {w : World} (_hn : (Lit.int .i64 n).wf = true) (_hk : (Lit.int .i64 k).wf = true) :
    Calls Try.prog 8 #[.int .i64 n, .int .i64 k] w fun e w' => e = .returned (.bool true) ∧ Below w.heap.size w w' := by
  have HS := Lib.hid (SSkipWins_any n k w)
  have HI := Lib.hid (SkipWins_any n k w)
  obtain ⟨v, hv⟩ : ∃ v, v = swF n k := ⟨_, rfl⟩
  rw [← hv] at HS HI
  have hvv : (v != v) = false := by simp
  clear hv
  go_enter Try.func8, Try.ntmps8
  go_wp2_with fail
  refine HS.out.mono ?_
  rintro e w1 ⟨rfl, rfl⟩
  go_wp2_with fail
  refine HI.out.mono ?_
  rintro e w1 ⟨rfl, rfl⟩
  go_wp2
  go_ret
  exact ⟨rfl, Below.refl _ _⟩
end Go.Proofs.Ytnojlapjkdihmab
