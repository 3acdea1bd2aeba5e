/-
  The walk of the exact law of KeepsDemand.
-/
import Derived.Test.YtfjncipekjnbjabUz
import Derived.Test.YtfjncipekjnbjabJv
namespace Go.Proofs.Ytfjncipekjnbjab
open Go.RowKit

set_option maxRecDepth 100000 in
set_option maxHeartbeats 4000000 in
theorem fnExactKeepsDemand_walk {A0 : Option Addr} {c0 : Nat} {x0 : List Int} {A1 : Option Addr} {c1 : Nat} {x1 : List Int} {A2 : Option Addr} {c2 : Nat} {x2 : List Int} {w : World} (h0 : Came .i64 w A0 c0 x0) (h1 : Came .i64 w A1 c1 x1) (h2 : Came .i64 w A2 c2 x2) :
    Calls Try.prog 8 #[.slice A0 x0.length c0, .slice A1 x1.length c1, .slice A2 x2.length c2] w fun e w' => e = .returned (.bool true) ∧ Below w.heap.size w w' := by
  have r0 := h0.rd
  have r1 := h1.rd
  have r2 := h2.rd
  clear h0 h1 h2
  by_cases hlen0 : 1048576 < x0.length
  · go_enter Try.func8, Try.ntmps8
    go_wp2
    go_ret
    exact ⟨rfl, Below.refl _ _⟩
  by_cases hlen1 : 1048576 < x1.length
  · go_enter Try.func8, Try.ntmps8
    go_wp2
    go_ret
    exact ⟨rfl, Below.refl _ _⟩
  by_cases hlen2 : 1048576 < x2.length
  · go_enter Try.func8, Try.ntmps8
    go_wp2
    go_ret
    exact ⟨rfl, Below.refl _ _⟩
  have hs0 : x0.length ≤ 1048576 := by omega
  have hl0 : x0.length ≤ 1099511627776 := by omega
  have hs1 : x1.length ≤ 1048576 := by omega
  have hl1 : x1.length ≤ 1099511627776 := by omega
  have hs2 : x2.length ≤ 1048576 := by omega
  have hl2 : x2.length ≤ 1099511627776 := by omega
  obtain ⟨v, hS, hI⟩ := KeepsDemand_both x0 x1 x2 hs0 hs1 hs2
  have hnn : (v != v) = false := by simp
  have HS := Lib.hid hS
  have HI := Lib.hid hI
  clear hS hI hlen0 hlen1 hlen2
  go_enter Try.func8, Try.ntmps8
  go_wp2_with fail
  refine (toIntS_any A0 c0 x0 w r0 hl0).mono ?_
  rintro e w_1 ⟨g_s0, k_s0, rfl, q_s0, b_1⟩
  have B_1 : Below w.heap.size w w_1 := b_1
  go_wp2_with fail
  refine (toIntS_any A1 c1 x1 w_1 (r1.below B_1) hl1).mono ?_
  rintro e w_2 ⟨g_s1, k_s1, rfl, q_s1, b_2⟩
  have o_s0_2 := q_s0.below b_2
  have B_2 := B_1.trans (b_2.mono B_1.size)
  go_wp2_with fail
  refine (toIntS_any A2 c2 x2 w_2 (r2.below B_2) hl2).mono ?_
  rintro e w_3 ⟨g_s2, k_s2, rfl, q_s2, b_3⟩
  have o_s0_3 := o_s0_2.below b_3
  have o_s1_3 := q_s1.below b_3
  have B_3 := B_2.trans (b_3.mono B_2.size)
  go_wp2_with fail
  refine (HS.out _ _ _ _ _ _ _ o_s0_3.rd o_s1_3.rd q_s2.rd).mono ?_
  rintro e w_4 ⟨rfl, b_4⟩
  have o_s0_4 := o_s0_3.below b_4
  have o_s1_4 := o_s1_3.below b_4
  have o_s2_4 := q_s2.below b_4
  have B_4 := B_3.trans (b_4.mono B_3.size)
  go_wp2_with fail
  refine (toIntS_any A0 c0 x0 w_4 (r0.below B_4) hl0).mono ?_
  rintro e w_5 ⟨g_x0, k_x0, rfl, q_x0, b_5⟩
  have B_5 := B_4.trans (b_5.mono B_4.size)
  go_wp2_with fail
  refine (toIntS_any A1 c1 x1 w_5 (r1.below B_5) hl1).mono ?_
  rintro e w_6 ⟨g_x1, k_x1, rfl, q_x1, b_6⟩
  have o_x0_6 := q_x0.below b_6
  have B_6 := B_5.trans (b_6.mono B_5.size)
  go_wp2_with fail
  refine (toIntS_any A2 c2 x2 w_6 (r2.below B_6) hl2).mono ?_
  rintro e w_7 ⟨g_x2, k_x2, rfl, q_x2, b_7⟩
  have o_x0_7 := o_x0_6.below b_7
  have o_x1_7 := q_x1.below b_7
  have B_7 := B_6.trans (b_7.mono B_6.size)
  go_wp2_with fail
  refine (HI.out _ _ _ _ _ _ _ o_x0_7.rd o_x1_7.rd q_x2.rd).mono ?_
  rintro e w_8 ⟨rfl, b_8⟩
  have o_x0_8 := o_x0_7.below b_8
  have o_x1_8 := o_x1_7.below b_8
  have o_x2_8 := q_x2.below b_8
  have B_8 := B_7.trans (b_8.mono B_7.size)
  go_wp2_with fail
  refine (toIntS_any A0 c0 x0 w_8 (r0.below B_8) hl0).mono ?_
  rintro e w_9 ⟨g_y0, k_y0, rfl, q_y0, b_9⟩
  have o_x0_9 := o_x0_8.below b_9
  have o_x1_9 := o_x1_8.below b_9
  have o_x2_9 := o_x2_8.below b_9
  have B_9 := B_8.trans (b_9.mono B_8.size)
  go_wp2_with fail
  refine (eqIntS_any (some ⟨g_x0, 0, none⟩) (some ⟨g_y0, 0, none⟩) k_x0 k_y0 x0 x0 w_9 o_x0_9.rd q_y0.rd hl0).mono ?_
  rw [eqB_self]
  rintro e u_10 ⟨rfl, m_10, rfl⟩
  have B_10 : Below w.heap.size w (w_9.drewN m_10) := below_drewN' B_9 m_10
  have o_x0_10 := o_x0_9.drewN m_10
  have o_x1_10 := o_x1_9.drewN m_10
  have o_x2_10 := o_x2_9.drewN m_10
  have o_y0_10 := q_y0.drewN m_10
  go_wp2_with fail
  refine (toIntS_any A1 c1 x1 (w_9.drewN m_10) (r1.below B_10) hl1).mono ?_
  rintro e w_11 ⟨g_y1, k_y1, rfl, q_y1, b_11⟩
  have o_x0_11 := o_x0_10.below b_11
  have o_x1_11 := o_x1_10.below b_11
  have o_x2_11 := o_x2_10.below b_11
  have B_11 := B_10.trans (b_11.mono B_10.size)
  go_wp2_with fail
  refine (eqIntS_any (some ⟨g_x1, 0, none⟩) (some ⟨g_y1, 0, none⟩) k_x1 k_y1 x1 x1 w_11 o_x1_11.rd q_y1.rd hl1).mono ?_
  rw [eqB_self]
  rintro e u_12 ⟨rfl, m_12, rfl⟩
  have B_12 : Below w.heap.size w (w_11.drewN m_12) := below_drewN' B_11 m_12
  have o_x0_12 := o_x0_11.drewN m_12
  have o_x1_12 := o_x1_11.drewN m_12
  have o_x2_12 := o_x2_11.drewN m_12
  have o_y1_12 := q_y1.drewN m_12
  go_wp2_with fail
  refine (toIntS_any A2 c2 x2 (w_11.drewN m_12) (r2.below B_12) hl2).mono ?_
  rintro e w_13 ⟨g_y2, k_y2, rfl, q_y2, b_13⟩
  have o_x0_13 := o_x0_12.below b_13
  have o_x1_13 := o_x1_12.below b_13
  have o_x2_13 := o_x2_12.below b_13
  have B_13 := B_12.trans (b_13.mono B_12.size)
  go_wp2_with fail
  refine (eqIntS_any (some ⟨g_x2, 0, none⟩) (some ⟨g_y2, 0, none⟩) k_x2 k_y2 x2 x2 w_13 o_x2_13.rd q_y2.rd hl2).mono ?_
  rw [eqB_self]
  rintro e u_14 ⟨rfl, m_14, rfl⟩
  have B_14 : Below w.heap.size w (w_13.drewN m_14) := below_drewN' B_13 m_14
  have o_x0_14 := o_x0_13.drewN m_14
  have o_x1_14 := o_x1_13.drewN m_14
  have o_x2_14 := o_x2_13.drewN m_14
  have o_y2_14 := q_y2.drewN m_14
  go_wp2
  go_ret
  exact ⟨rfl, B_14⟩

end Go.Proofs.Ytfjncipekjnbjab
