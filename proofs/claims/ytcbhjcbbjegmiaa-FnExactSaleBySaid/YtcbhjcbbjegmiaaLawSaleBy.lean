/-
  The walk of the exact law of SaleBy.
-/
import Derived.Test.YtcbhjcbbjegmiaaImplD
namespace Go.Proofs.Ytcbhjcbbjegmiaa
open Go.RowKit

set_option maxRecDepth 100000 in
set_option maxHeartbeats 2000000 in
theorem fnExactSaleBy_walk {s : ByteArray} {A : Option Addr} {c : Nat} {xs : List Int} {r : Int} {w : World} (hs : s.size ≤ maxLen) (h0 : Came .i64 w A c xs) (_hr : (Lit.int .i64 r).wf = true) :
    Calls Try.prog 11 #[.string s, .slice A xs.length c, .int .i64 r] w fun e w' => e = .returned (.bool true) ∧ Below w.heap.size w w' := by
  have h := h0.rd
  clear h0
  unfold maxLen at hs
  by_cases hs1 : 1048576 < s.size
  · go_enter Try.func11, Try.ntmps11
    go_wp2
    go_ret
    exact ⟨rfl, Below.refl _ _⟩
  by_cases hlen : 1048576 < xs.length
  · go_enter Try.func11, Try.ntmps11
    go_wp2
    go_ret
    exact ⟨rfl, Below.refl _ _⟩
  have hl1 : xs.length ≤ 1048576 := by omega
  have hl : xs.length ≤ 1099511627776 := by omega
  have hs2 : s.size ≤ 1048576 := by omega
  clear hlen hs1 hs
  obtain ⟨a, P, hP, hS, hI⟩ := SaleBy_both s xs r hl1
  have HS := Lib.hid hS
  have HI := Lib.hid hI
  clear hS hI
  have hPl : P.length ≤ 1099511627776 := by omega
  have haa : (a != a) = false := by simp
  have hmk : ((1 : Int) + (P.length : Int) != 1 + (P.length : Int)) = false := by simp
  go_enter Try.func11, Try.ntmps11
  -- the model's answer
  go_wp2_with fail
  refine (toIntS_any _ _ _ _ h hl).mono ?_
  rintro e w1 ⟨g1, c1, rfl, o1, b1⟩
  go_wp2_with fail
  refine (HS.out _ _ _ o1.rd).mono ?_
  rintro e w2 ⟨Aw, cw, rfl, ow, b2⟩
  have B2 := b1.trans (b2.mono b1.size)
  -- the program's answer
  go_wp2_with fail
  refine (toIntS_any _ _ _ _ (h.below B2) hl).mono ?_
  rintro e w3 ⟨gx, cx, rfl, ox, b3⟩
  have B3 := B2.trans (b3.mono B2.size)
  go_wp2_with fail
  refine (HI.out _ _ _ ox.rd).mono ?_
  rintro e w4 ⟨Ag, cg, rfl, og, b4⟩
  have B4 := B3.trans (b4.mono B3.size)
  have ow4 := (ow.below b3).below b4
  have ox4 := ox.below b4
  go_wp2_with fail
  refine (eqIntS_any _ _ _ _ _ _ _ og.rd ow4.rd hPl).mono ?_
  rw [eqB_self]
  rintro e w5 ⟨rfl, n5, rfl⟩
  have B5 := below_drewN' B4 n5
  -- the argument is as it was
  go_wp2_with fail
  refine (toIntS_any _ _ _ _ (h.below B5) hl).mono ?_
  rintro e w6 ⟨g6, c6, rfl, o6, b6⟩
  have B6 := B5.trans (b6.mono B5.size)
  have ox6 := (ox4.drewN n5).below b6
  have ow6 := (ow4.drewN n5).below b6
  have og6 := (og.drewN n5).below b6
  go_wp2_with fail
  refine (eqIntS_any _ _ _ _ _ _ _ ox6.rd o6.rd hl).mono ?_
  rw [eqB_self]
  rintro e w7 ⟨rfl, n7, rfl⟩
  have B7 := below_drewN' B6 n7
  have ap_xw := Lib.hid (ow.apart ox (Nat.le_refl _))
  have ap_xg := Lib.hid (ox.apart og (Nat.le_refl _))
  -- the argument is marked
  go_wp2_with fail
  refine (markIntS_any _ _ _ _ _ _ (ox6.drewN n7) hl (by decide) (by decide)).mono ?_
  rintro e w8 ⟨rfl, ox8, gr8⟩
  have ow8 := (ow6.drewN n7).kept_ gr8 ap_xw.out.1
  have og8 := (og6.drewN n7).kept_ gr8 ap_xg.out.2
  have B8 := ox6.drewN n7 |>.grownBelow B7 (Nat.le_trans B2.size (Nat.le_refl _)) B7.size gr8
  have S28 : w2.heap.size ≤ w8.heap.size := Nat.le_trans (Nat.le_trans (Nat.le_trans b3.size b4.size) b6.size) gr8.size
  go_wp2_with fail
  refine (eqIntS_any _ _ _ _ _ _ _ og8.rd ow8.rd hPl).mono ?_
  rw [eqB_self]
  rintro e w9 ⟨rfl, n9, rfl⟩
  have B9 := below_drewN' B8 n9
  -- the answer is marked
  go_wp2_with fail
  refine (markIntS_any _ _ _ _ _ _ (og8.drewN n9) hPl (by decide) (by decide)).mono ?_
  rintro e w10 ⟨rfl, og10, gr10⟩
  have hne := Lib.hid ((ow.apart og (Nat.le_trans b3.size (Nat.le_refl _))).1)
  have ow10 := (ow8.drewN n9).kept_ gr10 hne.out
  have B10 := (og8.drewN n9).grownBelow B9 B3.size B9.size gr10
  have rg10 : Rd w10 Ag cg (upF 1 P.length) := by
    have := og10.rd
    exact this
  go_wp2_with fail
  refine (heldIntS_any _ _ _ _ _ rg10 hPl (by decide) (by decide)).mono ?_
  rintro e w11 ⟨rfl, rfl⟩
  -- once more
  go_wp2_with fail
  refine (toIntS_any _ _ _ _ (h.below B10) hl).mono ?_
  rintro e w12 ⟨g12, c12, rfl, o12, b12⟩
  have B12 := B10.trans (b12.mono B10.size)
  go_wp2_with fail
  refine (HI.out _ _ _ o12.rd).mono ?_
  rintro e w13 ⟨Ah, ch, rfl, oh, b13⟩
  have B13 := B12.trans (b13.mono B12.size)
  have ow13 := (ow10.below b12).below b13
  have rg13 := (rg10.below b12).below b13
  go_wp2_with fail
  refine (eqIntS_any _ _ _ _ _ _ _ oh.rd ow13.rd hPl).mono ?_
  rw [eqB_self]
  rintro e w14 ⟨rfl, n14, rfl⟩
  go_wp2_with fail
  refine (heldIntS_any _ _ _ _ _ (rg13.drewN n14) hPl (by decide) (by decide)).mono ?_
  rintro e w15 ⟨rfl, rfl⟩
  go_wp2
  go_ret
  exact ⟨rfl, below_drewN' B13 n14⟩

end Go.Proofs.Ytcbhjcbbjegmiaa
