/-
  The walk of the exact law of IsTrue.
-/
import Derived.Test.YtcbhjcbbjegmiabRestF
namespace Go.Proofs.Ytcbhjcbbjegmiab
open Go.RowKit

set_option maxHeartbeats 800000 in
theorem fnExactIsTrue_walk {s : ByteArray} {n top : Int} {w : World} (hs : s.size ≤ maxLen) (_hn : (Lit.int .i64 n).wf = true) (_ht : (Lit.int .i64 top).wf = true) :
    Calls Try.prog 3 #[.string s, .int .i64 n, .int .i64 top] w fun e w' => e = .returned (.bool true) ∧ Below w.heap.size w w' := by
  unfold maxLen at hs
  by_cases hs1 : 1048576 < s.size
  · go_enter Try.func3, Try.ntmps3
    go_wp2
    go_ret
    exact ⟨rfl, Below.refl _ _⟩
  obtain ⟨b, hS, hI, _, _, _⟩ := IsTrue_both s n top
  have HS := Lib.hid hS
  have HI := Lib.hid hI
  clear hS hI
  have hbb : (b != b) = false := by simp
  go_enter Try.func3, Try.ntmps3
  go_wp2_with fail
  refine (HS.out _).mono ?_
  rintro e w2 ⟨rfl, b2⟩
  go_wp2_with fail
  refine (HI.out _).mono ?_
  rintro e w4 ⟨rfl, b4⟩
  have B4 := b2.trans (b4.mono b2.size)
  go_wp2
  go_ret
  exact ⟨rfl, B4⟩

end Go.Proofs.Ytcbhjcbbjegmiab
