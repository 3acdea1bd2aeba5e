/-
  The laws of chapter 6: the draws of one table; the walks of FnIsSum, FnIsOne, FnSwapsByMoves.
-/
import Derived.Test.YtfjncipekjnbjaaQg
import Derived.Test.YtfjncipekjnbjaaWl
import Derived.Test.YtfjncipekjnbjaaGN
namespace Go.Proofs.Ytfjncipekjnbjaa
open Go.RowKit Go.Lib

theorem DrawSwapsByThrees_any (A : Option Addr) (c : Nat) (xs : List Int) (w : World) (h : Came .u8 w A c xs) :
    Calls Try.prog 30 #[.slice A xs.length c] w (DrawnT w) := by
  go_enter Try.func30, Try.ntmps30
  go_wp2_with fail
  refine (newReader_any A c xs w h).mono ?_
  rintro e w1 ⟨rb, rfl, hrb, hr1, hb1⟩
  go_wp2_with fail
  refine (someTable_any rb 0 w1 hr1 (by decide)).mono ?_
  rintro e w2 ⟨g, c2, t, rfl, ht, o2, _, hg2⟩
  have HB := Lib.hid (hb1.trans (gb_below hg2 hb1.size hrb))
  clear hg2
  go_wp2
  go_ret
  exact ⟨g, c2, t, rfl, o2.rd, ht, o2.cap.1, HB.out⟩

theorem byB_iff {t : List Int} {V : Nat → Int} : byB t V = true ↔ VT t ∧ ∀ s, s < 8 → T t s = V s := by unfold byB; simp only [decide_eq_true_eq]
theorem sum_goods {t : List Int} (h : byB t (fun s => sumAl t s 3) = true) : mdB t = true ∧ mvB t = true := by
  obtain ⟨hv, h1⟩ := byB_iff.1 h
  have m := sum_mv hv h1
  exact ⟨mdB_true hv m.modTri.1, mvB_true hv (m.mv hv)⟩
theorem one_goods {t : List Int} (h : byB t (fun s => mostAl t s 3) = true) : mdB t = true ∧ mvB t = true := by
  obtain ⟨hv, h1⟩ := byB_iff.1 h
  have m := one_mv hv h1
  exact ⟨mdB_true hv m.modTri.1, mvB_true hv (m.mv hv)⟩

end Go.Proofs.Ytfjncipekjnbjaa
