/-
  Chapter 1, the model: the contracts of greatest and withBid.
-/
import Derived.Test.YtpildecpabeanaaOne
import Derived.Test.YtpildecpabeanaaPl
namespace Go.Proofs.Ytpildecpabeanaa
open Go.RowKit

theorem withBid_any (A : Option Addr) (c : Nat) (xs : List Int) (i : Nat) (bid : Int) (w : World) (h : Rd w A c xs) (hi : i < xs.length) (hl : xs.length ≤ 1099511627776) :
    Calls Try.prog 70 #[.slice A xs.length c, .int .i64 i, .int .i64 bid] w (OutIs w (xs.set i bid)) := by
  have hb0 := (Below.refl w.heap.size w).alloc (Nat.le_refl _) (.cells #[] 3)
  have h1 := h.below hb0
  obtain ⟨x, hx⟩ := at_some hi
  have HX := Lib.hid hx
  clear hx
  go_enter Try.func70, Try.ntmps70
  go_wp2_with (at_builtin; refine wpList_clone rfl _ _ rfl w.heap.size w.heap.size rfl (own_empty w) A c xs rfl h1 hl hb0.size ?_; intro g c1 w1 ho hb; have hg1 := ho.cell HX.out; have hg2 := ho.free i)
  go_ret
  exact ⟨g, c1, by rw [List.length_set]; rfl, ho.set_ i bid, (hb0.trans hb).setCell ho.ge _⟩

end Go.Proofs.Ytpildecpabeanaa
