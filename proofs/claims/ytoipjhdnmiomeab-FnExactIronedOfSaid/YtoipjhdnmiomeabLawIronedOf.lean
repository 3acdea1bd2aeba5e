/-
  The walk of the exact law of IronedOf.
-/
import Derived.Test.YtoipjhdnmiomeabCn
namespace Go.Proofs.Ytoipjhdnmiomeab
open Go.RowKit

set_option maxHeartbeats 2000000 in
theorem fnExactIronedOf_walk {A : Option Addr} {c : Nat} {xs : List Int} {w : World} (h0 : Came .i64 w A c xs) :
    Calls Try.prog 5 #[.slice A xs.length c] w fun e w' => e = .returned (.bool true) ∧ Below w.heap.size w w' := by
  have h := h0.rd
  clear h0
  by_cases hlen : 1048576 < xs.length
  · go_enter Try.func5, Try.ntmps5
    go_wp2
    go_ret
    exact ⟨rfl, Below.refl _ _⟩
  have hl1 : xs.length ≤ 1048576 := by omega
  have hl : xs.length ≤ 1099511627776 := by omega
  clear hlen
  obtain ⟨P, hPl6, hS, hI⟩ := IronedOf_both xs hl1
  have hPl : P.length ≤ 1099511627776 := by omega
  have HS := Lib.hid hS
  have HI := Lib.hid hI
  clear hS hI
  have hq : ((1 : Int) + 2 * (P.length : Int) != 1 + 2 * (P.length : Int)) = false := by simp
  go_enter Try.func5, Try.ntmps5
  go_wp2_with fail
  refine (toIntS_any _ _ _ _ h hl).mono ?_
  rintro e w1 ⟨g1, c1, rfl, o1, b1⟩
  go_wp2_with fail
  refine (HS.out _ _ _ o1.rd).mono ?_
  rintro e w2 ⟨Aw, cw, rfl, ow, b2⟩
  have B2 := b1.trans (b2.mono b1.size)
  -- the program's answer
  go_wp2_with fail
  refine (toIntS_any _ _ _ _ (h.below B2) hl).mono ?_
  rintro e w3 ⟨gx, cx, rfl, ox, b3⟩
  have B3 := B2.trans (b3.mono B2.size)
  go_wp2_with fail
  refine (HI.out _ _ _ ox.rd ox.cap.1).mono ?_
  rintro e w4 ⟨Ag, cg, rfl, og, b4⟩
  have B4 := B3.trans (b4.mono B3.size)
  have ow4 := (ow.below b3).below b4
  have ox4 := ox.below b4
  go_wp2_with fail
  refine (eqFracS_same _ _ _ _ _ _ og.rd ow4.rd hPl).mono ?_
  rintro e w5 ⟨rfl, b5⟩
  have B5 := B4.trans (b5.mono B4.size)
  -- the argument is as it was
  go_wp2_with fail
  refine (toIntS_any _ _ _ _ (h.below B5) hl).mono ?_
  rintro e w6 ⟨g6, c6, rfl, o6, b6⟩
  have B6 := B5.trans (b6.mono B5.size)
  have ox6 := (ox4.below b5).below b6
  have ow6 := (ow4.below b5).below b6
  have og6 := (og.below b5).below b6
  go_wp2_with fail
  refine (eqIntS_any _ _ _ _ _ _ _ ox6.rd o6.rd hl).mono ?_
  rw [eqB_self]
  rintro e w7 ⟨rfl, n7, rfl⟩
  have B7 := below_drewN' B6 n7
  have ap_xw := Lib.hid (rows_apart ow ox (Nat.le_refl _))
  have ap_xg := Lib.hid (rows_apart ox og (Nat.le_refl _))
  -- the argument is marked
  go_wp2_with fail
  refine (markIntS_any _ _ _ _ _ _ (ox6.drewN n7) hl (by decide) (by decide)).mono ?_
  rintro e w8 ⟨rfl, ox8, gr8⟩
  have ow8 := (ow6.drewN n7).kept_ gr8 ap_xw.out.1
  have og8 := (og6.drewN n7).kept_ gr8 ap_xg.out.2
  have B8 := ox6.drewN n7 |>.grownBelow B7 (Nat.le_trans B2.size (Nat.le_refl _)) B7.size gr8
  go_wp2_with fail
  refine (eqFracS_same _ _ _ _ _ _ og8.rd ow8.rd hPl).mono ?_
  rintro e w9 ⟨rfl, b9⟩
  have B9 := B8.trans (b9.mono B8.size)
  have og9 := og8.below b9
  have ow9 := ow8.below b9
  -- the answer is marked
  go_wp2_with fail
  refine (markFracS_any _ _ _ _ _ _ og9 hPl (by decide) (by decide)).mono ?_
  rintro e w10 ⟨rfl, og10, gr10⟩
  have hne := Lib.hid ((rows_apart ow og (Nat.le_trans b3.size (Nat.le_refl _))).1)
  have ow10 := ow9.kept_ gr10 hne.out
  have B10 := og9.grownBelow B9 B3.size B9.size gr10
  have rg10 : RdF w10 Ag cg (upP 1 P.length) := by
    have := og10.rd
    exact this
  go_wp2_with fail
  refine (heldFracS_any _ _ _ _ _ rg10 hPl (by decide) (by decide)).mono ?_
  rintro e w11 ⟨rfl, rfl⟩
  -- once more
  go_wp2_with fail
  refine (toIntS_any _ _ _ _ (h.below B10) hl).mono ?_
  rintro e w12 ⟨g12, c12, rfl, o12, b12⟩
  have B12 := B10.trans (b12.mono B10.size)
  go_wp2_with fail
  refine (HI.out _ _ _ o12.rd o12.cap.1).mono ?_
  rintro e w13 ⟨Ah, ch, rfl, oh, b13⟩
  have B13 := B12.trans (b13.mono B12.size)
  have ow13 := (ow10.below b12).below b13
  have rg13 := (rg10.below b12).below b13
  go_wp2_with fail
  refine (eqFracS_same _ _ _ _ _ _ oh.rd ow13.rd hPl).mono ?_
  rintro e w14 ⟨rfl, b14⟩
  have B14 := B13.trans (b14.mono B13.size)
  go_wp2_with fail
  refine (heldFracS_any _ _ _ _ _ (rg13.below b14) hPl (by decide) (by decide)).mono ?_
  rintro e w15 ⟨rfl, rfl⟩
  go_wp2
  go_ret
  exact ⟨rfl, B14⟩

end Go.Proofs.Ytoipjhdnmiomeab
