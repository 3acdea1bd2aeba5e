/-
  The program: the contract of slices.Clone at ints.
-/
import Derived.Test.YtpildecpabeanaaMem
namespace Go.Proofs.Ytpildecpabeanaa
open Go.RowKit

theorem Clone_any (b off c : Nat) (xs : List Int) (w : World) (h : Rd w (some ⟨b, off, none⟩) c xs) (hl : xs.length ≤ 1099511627776) :
    Calls Try.prog 67 #[.slice (some ⟨b, off, none⟩) xs.length c] w (OutIs w xs) := by
  have hb0 := (Below.refl w.heap.size w).alloc (Nat.le_refl _) (.cells #[] 3)
  have h1 := h.below hb0
  have qT : ∀ (w : World) (a : Option Addr) (n c n' c' : Nat), (binOp .eql 23 (.slice a n c) (.slice none n' c')).run Try.prog w = .ok (.bool a.isNone) w := fun w a n c n' c' => Lib.run_eql_slice_nil w _ _ a n c n' c' Try.underlying23
  go_enter Try.func67, Try.ntmps67
  go_wp2_with (at_builtin; refine wpList_clone rfl _ _ rfl w.heap.size w.heap.size rfl (own_empty w) _ _ xs rfl h1 hl hb0.size ?_; intro g c1 w1 ho hb)
  go_ret
  exact ⟨g, c1, rfl, ho, hb0.trans hb⟩


end Go.Proofs.Ytpildecpabeanaa
