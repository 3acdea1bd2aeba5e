/-
  The walk of the exact law of TradeLess.
-/
import Derived.Test.YtpildecpabeanabEo
namespace Go.Proofs.Ytpildecpabeanab
open Go.RowKit

set_option maxRecDepth 100000 in
set_option maxHeartbeats 4000000 in
theorem fnExactTradeLess_walk {A0 : Option Addr} {c0 : Nat} {x0 : List Int} {A1 : Option Addr} {c1 : Nat} {x1 : List Int} {w : World} (h0 : Came .i64 w A0 c0 x0) (h1 : Came .i64 w A1 c1 x1) :
    Calls Try.prog 5 #[.slice A0 x0.length c0, .slice A1 x1.length c1] w fun e w' => e = .returned (.bool true) ∧ Below w.heap.size w w' := by
  have r0 := h0.rd
  have r1 := h1.rd
  clear h0 h1
  by_cases hlen0 : 1048576 < x0.length
  · go_enter Try.func5, Try.ntmps5
    go_wp2
    go_ret
    exact ⟨rfl, Below.refl _ _⟩
  by_cases hlen1 : 1048576 < x1.length
  · go_enter Try.func5, Try.ntmps5
    go_wp2
    go_ret
    exact ⟨rfl, Below.refl _ _⟩
  have hs0 : x0.length ≤ 1048576 := by omega
  have hl0 : x0.length ≤ 1099511627776 := by omega
  have hs1 : x1.length ≤ 1048576 := by omega
  have hl1 : x1.length ≤ 1099511627776 := by omega
  obtain ⟨u, v, z, hS, hI⟩ := TradeLess_both x0 x1 hs0 hs1
  have hn0 : (u != u) = false := by simp
  have hn1 : (v != v) = false := by simp
  have hn2 : (z != z) = false := by simp
  have HS := Lib.hid hS
  have HI := Lib.hid hI
  clear hS hI hlen0 hlen1
  go_enter Try.func5, Try.ntmps5
  go_wp2_with fail
  refine (toIntS_any A0 c0 x0 w r0 hl0).mono ?_
  rintro e w_1 ⟨g_s0, k_s0, rfl, q_s0, b_1⟩
  have B_1 : Below w.heap.size w w_1 := b_1
  go_wp2_with fail
  refine (toIntS_any A1 c1 x1 w_1 (r1.below B_1) hl1).mono ?_
  rintro e w_2 ⟨g_s1, k_s1, rfl, q_s1, b_2⟩
  have o_s0_2 := q_s0.below b_2
  have B_2 := B_1.trans (b_2.mono B_1.size)
  go_wp2_with fail
  refine (HS.out _ _ _ _ _ o_s0_2.rd q_s1.rd).mono ?_
  rintro e w_3 ⟨rfl, b_3⟩
  have o_s0_3 := o_s0_2.below b_3
  have o_s1_3 := q_s1.below b_3
  have B_3 := B_2.trans (b_3.mono B_2.size)
  go_wp2_with fail
  refine (toIntS_any A0 c0 x0 w_3 (r0.below B_3) hl0).mono ?_
  rintro e w_4 ⟨g_x0, k_x0, rfl, q_x0, b_4⟩
  have B_4 := B_3.trans (b_4.mono B_3.size)
  go_wp2_with fail
  refine (toIntS_any A1 c1 x1 w_4 (r1.below B_4) hl1).mono ?_
  rintro e w_5 ⟨g_x1, k_x1, rfl, q_x1, b_5⟩
  have o_x0_5 := q_x0.below b_5
  have B_5 := B_4.trans (b_5.mono B_4.size)
  go_wp2_with fail
  refine (HI.out _ _ _ _ _ o_x0_5.rd q_x1.rd).mono ?_
  rintro e w_6 ⟨rfl, b_6⟩
  have o_x0_6 := o_x0_5.below b_6
  have o_x1_6 := q_x1.below b_6
  have B_6 := B_5.trans (b_6.mono B_5.size)
  go_wp2_with fail
  refine (toIntS_any A0 c0 x0 w_6 (r0.below B_6) hl0).mono ?_
  rintro e w_7 ⟨g_y0, k_y0, rfl, q_y0, b_7⟩
  have o_x0_7 := o_x0_6.below b_7
  have o_x1_7 := o_x1_6.below b_7
  have B_7 := B_6.trans (b_7.mono B_6.size)
  go_wp2_with fail
  refine (eqIntS_any (some ⟨g_x0, 0, none⟩) (some ⟨g_y0, 0, none⟩) k_x0 k_y0 x0 x0 w_7 o_x0_7.rd q_y0.rd hl0).mono ?_
  rw [eqB_self]
  rintro e u_8 ⟨rfl, m_8, rfl⟩
  have B_8 : Below w.heap.size w (w_7.drewN m_8) := below_drewN' B_7 m_8
  have o_x0_8 := o_x0_7.drewN m_8
  have o_x1_8 := o_x1_7.drewN m_8
  have o_y0_8 := q_y0.drewN m_8
  go_wp2_with fail
  refine (toIntS_any A1 c1 x1 (w_7.drewN m_8) (r1.below B_8) hl1).mono ?_
  rintro e w_9 ⟨g_y1, k_y1, rfl, q_y1, b_9⟩
  have o_x0_9 := o_x0_8.below b_9
  have o_x1_9 := o_x1_8.below b_9
  have B_9 := B_8.trans (b_9.mono B_8.size)
  go_wp2_with fail
  refine (eqIntS_any (some ⟨g_x1, 0, none⟩) (some ⟨g_y1, 0, none⟩) k_x1 k_y1 x1 x1 w_9 o_x1_9.rd q_y1.rd hl1).mono ?_
  rw [eqB_self]
  rintro e u_10 ⟨rfl, m_10, rfl⟩
  have B_10 : Below w.heap.size w (w_9.drewN m_10) := below_drewN' B_9 m_10
  have o_x0_10 := o_x0_9.drewN m_10
  have o_x1_10 := o_x1_9.drewN m_10
  have o_y1_10 := q_y1.drewN m_10
  go_wp2
  go_ret
  exact ⟨rfl, B_10⟩

end Go.Proofs.Ytpildecpabeanab

