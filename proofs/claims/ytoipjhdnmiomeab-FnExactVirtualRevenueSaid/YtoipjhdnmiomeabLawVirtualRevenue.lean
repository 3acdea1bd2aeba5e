/-
  The walk of the exact law of VirtualRevenue.
-/
import Derived.Test.YtoipjhdnmiomeabGI
namespace Go.Proofs.Ytoipjhdnmiomeab
open Go.RowKit

set_option maxHeartbeats 800000 in
theorem fnExactVirtualRevenue_walk {A : Option Addr} {c : Nat} {xs : List Int} {n r : Int} {w : World} (h0 : Came .i64 w A c xs) (_hn : (Lit.int .i64 n).wf = true) (_hr : (Lit.int .i64 r).wf = true) :
    Calls Try.prog 8 #[.slice A xs.length c, .int .i64 n, .int .i64 r] w fun e w' => e = .returned (.bool true) ∧ Below w.heap.size w w' := by
  have h := h0.rd
  clear h0
  by_cases hlen : 1048576 < xs.length
  · go_enter Try.func8, Try.ntmps8
    go_wp2
    go_ret
    exact ⟨rfl, Below.refl _ _⟩
  have hl1 : xs.length ≤ 1048576 := by omega
  have hl : xs.length ≤ 1099511627776 := by omega
  clear hlen
  obtain ⟨x, y, v, hS, hI⟩ := VirtualRevenue_both xs n r hl1
  have HS := Lib.hid hS
  have HI := Lib.hid hI
  clear hS hI
  have hnn : (v != v) = false := by simp
  go_enter Try.func8, Try.ntmps8
  go_wp2_with fail
  refine (toIntS_any _ _ _ _ h hl).mono ?_
  rintro e w1 ⟨g1, c1, rfl, o1, b1⟩
  go_wp2_with fail
  refine (HS.out _ _ _ o1.rd).mono ?_
  rintro e w2 ⟨rfl, b2⟩
  unfold frV
  have hk2 := PairAt.new (w := w2) (x := x) (y := y)
  have B2 := below_up (b1.trans (b2.mono b1.size)) (below_al w2 (.cells #[.int .i64 x, .int .i64 y] 35))
  go_wp2_with fail
  refine (toIntS_any _ _ _ _ (h.below B2) hl).mono ?_
  rintro e w3 ⟨gx, cx, rfl, ox, b3⟩
  have hk3 := hk2.below b3
  have B3 := below_up B2 b3
  go_wp2_with fail
  refine (HI.out _ _ _ ox.rd ox.cap.1).mono ?_
  rintro e w4 ⟨rfl, b4⟩
  unfold frV
  have hk4 := (hk3.below b4).old (.cells #[.int .i64 x, .int .i64 y] 35)
  have hg4 := PairAt.new (w := w4) (x := x) (y := y)
  have ba4 := below_al w4 (.cells #[.int .i64 x, .int .i64 y] 35)
  have B4 := below_up (below_up B3 b4) ba4
  have ox4 := (ox.below b4).below ba4
  obtain ⟨c0, c1', f0, f1⟩ := hk4.facts
  obtain ⟨c2, c3, f2, f3⟩ := hg4.facts
  go_wp2_with fail
  refine (eqFrac_same _ _ _).mono ?_
  rintro e w5 ⟨rfl, b5⟩
  have ox5 := ox4.below b5
  have B5 := below_up B4 b5
  go_wp2_with fail
  refine (toIntS_any _ _ _ _ (h.below B5) hl).mono ?_
  rintro e w6 ⟨g6, c6, rfl, o6, b6⟩
  have B6 := below_up B5 b6
  go_wp2_with fail
  refine (eqIntS_any _ _ _ _ _ _ _ (ox5.below b6).rd o6.rd hl).mono ?_
  rw [eqB_self]
  rintro e w7 ⟨rfl, n7, rfl⟩
  go_wp2
  go_ret
  exact ⟨rfl, below_drewN' B6 n7⟩

end Go.Proofs.Ytoipjhdnmiomeab
