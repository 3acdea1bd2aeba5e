/-
  The walk of the exact law of BestSkip.
-/
import Derived.Test.YtnojlapjkdihmabHj
namespace Go.Proofs.Ytnojlapjkdihmab
open Go.RowKit

set_option maxHeartbeats 800000 in
theorem fnExactBestSkip_walk {n : Int} {w : World} (_hn : (Lit.int .i64 n).wf = true) :
    Calls Try.prog 10 #[.int .i64 n] w fun e w' => e = .returned (.bool true) ∧ Below w.heap.size w w' := by
  have HS := Lib.hid (SBestSkip_any n w)
  have HI := Lib.hid (BestSkip_any n w)
  obtain ⟨v, hv⟩ : ∃ v, v = bsF n := ⟨_, rfl⟩
  rw [← hv] at HS HI
  have hvv : (v != v) = false := by simp
  clear hv
  go_enter Try.func10, Try.ntmps10
  go_wp2_with fail
  refine HS.out.mono ?_
  rintro e w1 ⟨rfl, rfl⟩
  go_wp2_with fail
  refine HI.out.mono ?_
  rintro e w1 ⟨rfl, rfl⟩
  go_wp2
  go_ret
  exact ⟨rfl, Below.refl _ _⟩
end Go.Proofs.Ytnojlapjkdihmab
