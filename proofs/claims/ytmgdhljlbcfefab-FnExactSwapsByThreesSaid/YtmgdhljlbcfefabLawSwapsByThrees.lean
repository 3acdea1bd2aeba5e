/-
  The walk of the exact law of SwapsByThrees.
-/
import Derived.Test.YtmgdhljlbcfefabUz
import Derived.Test.YtmgdhljlbcfefabJp
namespace Go.Proofs.Ytmgdhljlbcfefab
open Go.RowKit

set_option maxRecDepth 100000 in
set_option maxHeartbeats 4000000 in
theorem fnExactSwapsByThrees_walk {A0 : Option Addr} {c0 : Nat} {x0 : List Int} {w : World} (h0 : Came .i64 w A0 c0 x0) :
    Calls Try.prog 8 #[.slice A0 x0.length c0] w fun e w' => e = .returned (.bool true) ∧ Below w.heap.size w w' := by
  have r0 := h0.rd
  clear h0
  by_cases hlen0 : 1048576 < x0.length
  · go_enter Try.func8, Try.ntmps8
    go_wp2
    go_ret
    exact ⟨rfl, Below.refl _ _⟩
  have hs0 : x0.length ≤ 1048576 := by omega
  have hl0 : x0.length ≤ 1099511627776 := by omega
  obtain ⟨v, hS, hI⟩ := SwapsByThrees_both x0 hs0
  have hnn : (v != v) = false := by simp
  have HS := Lib.hid hS
  have HI := Lib.hid hI
  clear hS hI hlen0
  go_enter Try.func8, Try.ntmps8
  go_wp2_with fail
  refine (toIntS_any A0 c0 x0 w r0 hl0).mono ?_
  rintro e w_1 ⟨g_s0, k_s0, rfl, q_s0, b_1⟩
  have B_1 : Below w.heap.size w w_1 := b_1
  go_wp2_with fail
  refine (HS.out _ _ _ q_s0.rd).mono ?_
  rintro e w_2 ⟨rfl, b_2⟩
  have o_s0_2 := q_s0.below b_2
  have B_2 := B_1.trans (b_2.mono B_1.size)
  go_wp2_with fail
  refine (toIntS_any A0 c0 x0 w_2 (r0.below B_2) hl0).mono ?_
  rintro e w_3 ⟨g_x0, k_x0, rfl, q_x0, b_3⟩
  have B_3 := B_2.trans (b_3.mono B_2.size)
  go_wp2_with fail
  refine (HI.out _ _ _ q_x0.rd).mono ?_
  rintro e w_4 ⟨rfl, b_4⟩
  have o_x0_4 := q_x0.below b_4
  have B_4 := B_3.trans (b_4.mono B_3.size)
  go_wp2_with fail
  refine (toIntS_any A0 c0 x0 w_4 (r0.below B_4) hl0).mono ?_
  rintro e w_5 ⟨g_y0, k_y0, rfl, q_y0, b_5⟩
  have o_x0_5 := o_x0_4.below b_5
  have B_5 := B_4.trans (b_5.mono B_4.size)
  go_wp2_with fail
  refine (eqIntS_any (some ⟨g_x0, 0, none⟩) (some ⟨g_y0, 0, none⟩) k_x0 k_y0 x0 x0 w_5 o_x0_5.rd q_y0.rd hl0).mono ?_
  rw [eqB_self]
  rintro e u_6 ⟨rfl, m_6, rfl⟩
  have B_6 : Below w.heap.size w (w_5.drewN m_6) := below_drewN' B_5 m_6
  have o_x0_6 := o_x0_5.drewN m_6
  have o_y0_6 := q_y0.drewN m_6
  go_wp2
  go_ret
  exact ⟨rfl, B_6⟩

end Go.Proofs.Ytmgdhljlbcfefab
