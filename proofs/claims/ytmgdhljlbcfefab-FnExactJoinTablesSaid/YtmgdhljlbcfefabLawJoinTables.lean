/-
  The walk of the exact law of JoinTables.
-/
import Derived.Test.YtmgdhljlbcfefabUz
import Derived.Test.YtmgdhljlbcfefabJr
namespace Go.Proofs.Ytmgdhljlbcfefab
open Go.RowKit

set_option maxRecDepth 100000 in
set_option maxHeartbeats 4000000 in
theorem fnExactJoinTables_walk {A0 : Option Addr} {c0 : Nat} {x0 : List Int} {A1 : Option Addr} {c1 : Nat} {x1 : List Int} {w : World} (h0 : Came .i64 w A0 c0 x0) (h1 : Came .i64 w A1 c1 x1) :
    Calls Try.prog 10 #[.slice A0 x0.length c0, .slice A1 x1.length c1] w fun e w' => e = .returned (.bool true) ∧ Below w.heap.size w w' := by
  have r0 := h0.rd
  have r1 := h1.rd
  clear h0 h1
  by_cases hlen0 : 1048576 < x0.length
  · go_enter Try.func10, Try.ntmps10
    go_wp2
    go_ret
    exact ⟨rfl, Below.refl _ _⟩
  by_cases hlen1 : 1048576 < x1.length
  · go_enter Try.func10, Try.ntmps10
    go_wp2
    go_ret
    exact ⟨rfl, Below.refl _ _⟩
  have hs0 : x0.length ≤ 1048576 := by omega
  have hl0 : x0.length ≤ 1099511627776 := by omega
  have hs1 : x1.length ≤ 1048576 := by omega
  have hl1 : x1.length ≤ 1099511627776 := by omega
  obtain ⟨zs, hzl, hS, hI⟩ := JoinTables_both x0 x1 hs0 hs1
  have hzl2 : zs.length ≤ 1099511627776 := by omega
  have HS := Lib.hid hS
  have HI := Lib.hid hI
  clear hS hI hlen0 hlen1
  go_enter Try.func10, Try.ntmps10
  go_wp2_with fail
  refine (toIntS_any A0 c0 x0 w r0 hl0).mono ?_
  rintro e w_1 ⟨g_s0, k_s0, rfl, q_s0, b_1⟩
  have B_1 : Below w.heap.size w w_1 := b_1
  go_wp2_with fail
  refine (toIntS_any A1 c1 x1 w_1 (r1.below B_1) hl1).mono ?_
  rintro e w_2 ⟨g_s1, k_s1, rfl, q_s1, b_2⟩
  have o_s0_2 := q_s0.below b_2
  have B_2 := B_1.trans (b_2.mono B_1.size)
  go_wp2_with fail
  refine (HS.out _ _ _ _ _ o_s0_2.rd q_s1.rd o_s0_2.cap.1 q_s1.cap.1).mono ?_
  rintro e w_3 ⟨D_W, d_W, rfl, q_W, b_3⟩
  have ap_s0_W := Own.apart (o_s0_2) q_W (Nat.le_refl _)
  have ap_s1_W := Own.apart (q_s1) q_W (Nat.le_refl _)
  have o_W := q_W.base B_2.size
  have o_s0_3 := o_s0_2.below b_3
  have o_s1_3 := q_s1.below b_3
  have B_3 := B_2.trans (b_3.mono B_2.size)
  go_wp2_with fail
  refine (toIntS_any A0 c0 x0 w_3 (r0.below B_3) hl0).mono ?_
  rintro e w_4 ⟨g_x0, k_x0, rfl, q_x0, b_4⟩
  have ap_W_x0 := Own.apart (o_W) q_x0 (Nat.le_refl _)
  have o_x0 := q_x0.base B_3.size
  have o_W_4 := o_W.below b_4
  have B_4 := B_3.trans (b_4.mono B_3.size)
  go_wp2_with fail
  refine (toIntS_any A1 c1 x1 w_4 (r1.below B_4) hl1).mono ?_
  rintro e w_5 ⟨g_x1, k_x1, rfl, q_x1, b_5⟩
  have ap_W_x1 := Own.apart (o_W_4) q_x1 (Nat.le_refl _)
  have ap_x0_x1 := Own.apart (o_x0) q_x1 (Nat.le_refl _)
  have o_x1 := q_x1.base B_4.size
  have o_W_5 := o_W_4.below b_5
  have o_x0_5 := o_x0.below b_5
  have B_5 := B_4.trans (b_5.mono B_4.size)
  go_wp2_with fail
  refine (HI.out _ _ _ _ _ o_x0_5.rd o_x1.rd).mono ?_
  rintro e w_6 ⟨D_G, d_G, rfl, q_G, b_6⟩
  have ap_W_G := Own2.apart (Or.inl (o_W_5) : Own2 _ _ _ _ _) q_G (Nat.le_refl _)
  have ap_x0_G := Own2.apart (Or.inl (o_x0_5) : Own2 _ _ _ _ _) q_G (Nat.le_refl _)
  have ap_x1_G := Own2.apart (Or.inl (o_x1) : Own2 _ _ _ _ _) q_G (Nat.le_refl _)
  have o_G := q_G.base B_5.size
  have o_W_6 := o_W_5.below b_6
  have o_x0_6 := o_x0_5.below b_6
  have o_x1_6 := o_x1.below b_6
  have B_6 := B_5.trans (b_6.mono B_5.size)
  go_wp2_with fail
  refine (eqIntS_any D_G D_W d_G d_W zs zs w_6 o_G.rd o_W_6.rd hzl2).mono ?_
  rw [eqB_self]
  rintro e u_7 ⟨rfl, m_7, rfl⟩
  have B_7 : Below w.heap.size w (w_6.drewN m_7) := below_drewN' B_6 m_7
  have o_W_7 := o_W_6.drewN m_7
  have o_x0_7 := o_x0_6.drewN m_7
  have o_x1_7 := o_x1_6.drewN m_7
  have o_G_7 := o_G.drewN m_7
  go_wp2_with fail
  refine (toIntS_any A0 c0 x0 (w_6.drewN m_7) (r0.below B_7) hl0).mono ?_
  rintro e w_8 ⟨g_y0, k_y0, rfl, q_y0, b_8⟩
  have o_W_8 := o_W_7.below b_8
  have o_x0_8 := o_x0_7.below b_8
  have o_x1_8 := o_x1_7.below b_8
  have o_G_8 := o_G_7.below b_8
  have B_8 := B_7.trans (b_8.mono B_7.size)
  go_wp2_with fail
  refine (eqIntS_any (some ⟨g_x0, 0, none⟩) (some ⟨g_y0, 0, none⟩) k_x0 k_y0 x0 x0 w_8 o_x0_8.rd q_y0.rd hl0).mono ?_
  rw [eqB_self]
  rintro e u_9 ⟨rfl, m_9, rfl⟩
  have B_9 : Below w.heap.size w (w_8.drewN m_9) := below_drewN' B_8 m_9
  have o_W_9 := o_W_8.drewN m_9
  have o_x0_9 := o_x0_8.drewN m_9
  have o_x1_9 := o_x1_8.drewN m_9
  have o_G_9 := o_G_8.drewN m_9
  have o_y0_9 := q_y0.drewN m_9
  go_wp2_with fail
  refine (toIntS_any A1 c1 x1 (w_8.drewN m_9) (r1.below B_9) hl1).mono ?_
  rintro e w_10 ⟨g_y1, k_y1, rfl, q_y1, b_10⟩
  have o_W_10 := o_W_9.below b_10
  have o_x0_10 := o_x0_9.below b_10
  have o_x1_10 := o_x1_9.below b_10
  have o_G_10 := o_G_9.below b_10
  have B_10 := B_9.trans (b_10.mono B_9.size)
  go_wp2_with fail
  refine (eqIntS_any (some ⟨g_x1, 0, none⟩) (some ⟨g_y1, 0, none⟩) k_x1 k_y1 x1 x1 w_10 o_x1_10.rd q_y1.rd hl1).mono ?_
  rw [eqB_self]
  rintro e u_11 ⟨rfl, m_11, rfl⟩
  have B_11 : Below w.heap.size w (w_10.drewN m_11) := below_drewN' B_10 m_11
  have o_W_11 := o_W_10.drewN m_11
  have o_x0_11 := o_x0_10.drewN m_11
  have o_x1_11 := o_x1_10.drewN m_11
  have o_G_11 := o_G_10.drewN m_11
  have o_y1_11 := q_y1.drewN m_11
  go_wp2_with fail
  refine (markIntS_any (some ⟨g_x0, 0, none⟩) k_x0 x0 1 w.heap.size (w_10.drewN m_11) o_x0_11 hl0 (by omega) (by omega)).mono ?_
  rintro e w_12 ⟨rfl, qx0_12, g_12⟩
  have B_12 : Below w.heap.size w w_12 := Own.grownBelow0 B_11 o_x0_11 B_11.size g_12
  have o_W_12 := Own.kept_ (w := (w_10.drewN m_11)) o_W_11 g_12 ap_W_x0.1
  have o_x1_12 := Own.kept_ (w := (w_10.drewN m_11)) o_x1_11 g_12 ap_x0_x1.2
  have o_G_12 := Own2.kept_ (w := (w_10.drewN m_11)) o_G_11 g_12 ap_x0_G.2
  go_wp2_with fail
  refine (markIntS_any (some ⟨g_x1, 0, none⟩) k_x1 x1 (1 + (x0.length : Int)) w.heap.size w_12 o_x1_12 hl1 (by omega) (by omega)).mono ?_
  rintro e w_13 ⟨rfl, qx1_13, g_13⟩
  have B_13 : Below w.heap.size w w_13 := Own.grownBelow0 B_12 o_x1_12 B_12.size g_13
  have o_W_13 := Own.kept_ (w := w_12) o_W_12 g_13 ap_W_x1.1
  have o_G_13 := Own2.kept_ (w := w_12) o_G_12 g_13 ap_x1_G.2
  have hneg : decide (((1 + (x0.length : Int)) + (x1.length : Int)) < 0) = false := by simp; omega
  go_wp2_with fail
  refine (eqIntS_any D_G D_W d_G d_W zs zs w_13 o_G_13.rd o_W_13.rd hzl2).mono ?_
  rw [eqB_self]
  rintro e u_14 ⟨rfl, m_14, rfl⟩
  have B_14 : Below w.heap.size w (w_13.drewN m_14) := below_drewN' B_13 m_14
  have o_W_14 := o_W_13.drewN m_14
  have o_G_14 := o_G_13.drewN m_14
  go_wp2_with fail
  refine (markIntS2_any D_G d_G zs 1 w.heap.size (w_13.drewN m_14) o_G_14 hzl2 (by omega) (by omega)).mono ?_
  rintro e w_15 ⟨rfl, qG_15, g_15⟩
  have B_15 : Below w.heap.size w w_15 := Own2.grownBelow0 B_14 o_G_14 B_14.size g_15
  have o_W_15 := Own.kept_ (w := (w_13.drewN m_14)) o_W_14 g_15 ap_W_G.1
  have hneg2 : decide (1 + (zs.length : Int) < 0) = false := by simp; omega
  have hmm : ((1 + (zs.length : Int)) != (1 + (zs.length : Int))) = false := by simp
  go_wp2_with fail
  refine (heldIntS_any D_G d_G zs.length 1 w_15 qG_15.rd hzl2 (by decide) (by decide)).mono ?_
  rintro e u_h ⟨rfl, rfl⟩
  go_wp2_with fail
  refine (toIntS_any A0 c0 x0 w_15 (r0.below B_15) hl0).mono ?_
  rintro e w_16 ⟨g_z0, k_z0, rfl, q_z0, b_16⟩
  have o_W_16 := o_W_15.below b_16
  have o_M_16 := qG_15.below b_16
  have B_16 := B_15.trans (b_16.mono B_15.size)
  go_wp2_with fail
  refine (toIntS_any A1 c1 x1 w_16 (r1.below B_16) hl1).mono ?_
  rintro e w_17 ⟨g_z1, k_z1, rfl, q_z1, b_17⟩
  have o_W_17 := o_W_16.below b_17
  have o_M_17 := o_M_16.below b_17
  have o_z0_17 := q_z0.below b_17
  have B_17 := B_16.trans (b_17.mono B_16.size)
  go_wp2_with fail
  refine (HI.out _ _ _ _ _ o_z0_17.rd q_z1.rd).mono ?_
  rintro e w_18 ⟨D_H, d_H, rfl, q_H, b_18⟩
  have ap_W_H := Own2.apart (Or.inl (o_W_17) : Own2 _ _ _ _ _) q_H (Nat.le_refl _)
  have ap_M_H := Own2.apart o_M_17 q_H (Nat.le_refl _)
  have ap_z0_H := Own2.apart (Or.inl (o_z0_17) : Own2 _ _ _ _ _) q_H (Nat.le_refl _)
  have ap_z1_H := Own2.apart (Or.inl (q_z1) : Own2 _ _ _ _ _) q_H (Nat.le_refl _)
  have o_H := q_H.base B_17.size
  have o_W_18 := o_W_17.below b_18
  have o_M_18 := o_M_17.below b_18
  have o_z0_18 := o_z0_17.below b_18
  have o_z1_18 := q_z1.below b_18
  have B_18 := B_17.trans (b_18.mono B_17.size)
  go_wp2_with fail
  refine (eqIntS_any D_H D_W d_H d_W zs zs w_18 o_H.rd o_W_18.rd hzl2).mono ?_
  rw [eqB_self]
  rintro e u_19 ⟨rfl, m_19, rfl⟩
  have B_19 : Below w.heap.size w (w_18.drewN m_19) := below_drewN' B_18 m_19
  have o_W_19 := o_W_18.drewN m_19
  have o_M_19 := o_M_18.drewN m_19
  have o_H_19 := o_H.drewN m_19
  go_wp2_with fail
  refine (heldIntS_any D_G d_G zs.length 1 (w_18.drewN m_19) o_M_19.rd hzl2 (by decide) (by decide)).mono ?_
  rintro e u_i ⟨rfl, rfl⟩
  go_wp2
  go_ret
  exact ⟨rfl, B_19⟩

end Go.Proofs.Ytmgdhljlbcfefab
