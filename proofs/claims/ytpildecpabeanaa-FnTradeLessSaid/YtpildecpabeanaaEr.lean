/-
  The laws of chapter 10: the walk of FnTradeLess.
-/
import Derived.Test.YtpildecpabeanaaEo
import Derived.Test.YtpildecpabeanaaEc
namespace Go.Proofs.Ytpildecpabeanaa
open Go.RowKit

set_option maxRecDepth 100000 in
set_option maxHeartbeats 4000000 in
theorem fnTradeLess_walk {A : Option Addr} {c : Nat} {xs : List Int} {w : World} (h : Came .u8 w A c xs) :
    Calls Try.prog 5 #[.slice A xs.length c] w fun e w' => e = .returned (.bool true) ∧ Below w.heap.size w w' := by
  by_cases hlen : 1048576 < xs.length
  · go_enter Try.func5, Try.ntmps5
    go_wp2
    go_ret
    exact ⟨rfl, Below.refl _ _⟩
  have HD := Lib.hid (DrawTradeLess_any A c xs w h)
  clear h
  go_enter Try.func5, Try.ntmps5
  go_wp2_with fail
  refine HD.out.mono ?_
  rintro e w1 ⟨A1, c1, b, A2, c2, s, rfl, hR1, hR2, hl1, hl2, b1⟩
  clear hlen
  cases hv : vB b && vB s with
  | false =>
    have HI := Lib.hid (TradeLess_no A1 A2 c1 c2 b s w1 hR1 hR2 (by omega) (by omega) hv)
    have HS := Lib.hid (fun (w2 : World) (hb : Below w1.heap.size w1 w2) => STradeLess_no A1 A2 c1 c2 b s w2 (hR1.below hb) (hR2.below hb) (by omega) (by omega) hv)
    clear hv hR1 hR2 HD
    go_wp2_with fail
    refine HI.out.mono ?_
    rintro e w2 ⟨rfl, b2⟩
    have B2 := b1.trans (b2.mono b1.size)
    go_wp2_with fail
    refine (HS.out w2 b2).mono ?_
    rintro e w3 ⟨rfl, b3⟩
    go_wp2
    go_ret
    exact ⟨rfl, B2.trans (b3.mono B2.size)⟩
  | true =>
    simp only [Bool.and_eq_true] at hv
    have HBb := Lib.hid (vB_Bd hv.1)
    have HBs := Lib.hid (vB_Bd hv.2)
    have HI := Lib.hid (TradeLess_yes A1 A2 c1 c2 b s w1 hR1 hR2 hv.1 hv.2)
    have HS := Lib.hid (fun (w2 : World) (hb : Below w1.heap.size w1 w2) => STradeLess_yes A1 A2 c1 c2 b s w2 (hR1.below hb) (hR2.below hb) hv.1 hv.2)
    have HT := Lib.hid (fun (w2 : World) (hb : Below w1.heap.size w1 w2) => TradesOf_yes A1 A2 c1 c2 b s w2 (hR1.below hb) (hR2.below hb) hv.1 hv.2)
    have HR := Lib.hid (fun (w2 : World) (hb : Below w1.heap.size w1 w2) => TradeRange_yes A1 A2 c1 c2 b s w2 (hR1.below hb) (hR2.below hb) hv.1 hv.2)
    obtain ⟨n, hn⟩ : ∃ n, n = trOf b s := ⟨_, rfl⟩
    obtain ⟨gg, hg⟩ : ∃ g, g = gnOf b s := ⟨_, rfl⟩
    obtain ⟨lo, hlo⟩ : ∃ g, g = (rgOf b s).1 := ⟨_, rfl⟩
    obtain ⟨hi, hhi⟩ : ∃ g, g = (rgOf b s).2 := ⟨_, rfl⟩
    rw [← hn, ← hg] at HT
    rw [← hlo, ← hhi] at HR
    have hnl := trOf_le b s
    rw [← hn] at hnl
    have hn7 : n ≤ 7 := by omega
    by_cases hn0 : n = 0
    · have HE : tlF b s = (0, 0, 0) := by unfold tlF; rw [if_pos (by rw [← hn]; exact hn0)]
      rw [HE] at HI HS
      have hnn : ((n : Int) == 0) = true := by simp; omega
      obtain ⟨z, hz⟩ : ∃ z : Int, z = -1 := ⟨_, rfl⟩
      have hw1 : IntKind.i64.wrap ((n : Int) - 1) = z := by rw [show (n : Int) - 1 = z by omega]; exact IntWalk.i64_in _ (by omega)
      have hmx : max z 0 = 0 := by omega
      clear hv hR1 hR2 HD HE hn hg hlo hhi HBb HBs hnl hn0 hz
      go_wp2_with fail
      refine HI.out.mono ?_
      rintro e w2 ⟨rfl, b2⟩
      have B2 := Lib.hid (b1.trans (b2.mono b1.size))
      go_wp2_with fail
      refine (HS.out w2 b2).mono ?_
      rintro e w3 ⟨rfl, b3⟩
      have C3 := Lib.hid (b2.trans (b3.mono b2.size))
      have B3 := Lib.hid (B2.out.trans (b3.mono B2.out.size))
      clear b2 b3
      go_wp2_with fail
      refine (HT.out w3 C3.out).mono ?_
      rintro e w4 ⟨rfl, b4⟩
      have C4 := Lib.hid (C3.out.trans (b4.mono C3.out.size))
      have B4 := Lib.hid (B3.out.trans (b4.mono B3.out.size))
      clear b4
      go_wp2_with fail
      refine (HR.out w4 C4.out).mono ?_
      rintro e w5 ⟨rfl, b5⟩
      have B5 := Lib.hid (B4.out.trans (b5.mono B4.out.size))
      clear b5
      go_wp2
      go_ret
      exact ⟨rfl, B5.out⟩
    · obtain ⟨m, hm⟩ : ∃ m, n = m + 1 := ⟨n - 1, by omega⟩
      obtain ⟨x, y, hds, hx, hy, hle, hy0, hx30⟩ := deals_at HBb.out HBs.out (show m < trOf b s by omega)
      have HE : tlF b s = (m, x, y) := by unfold tlF; rw [if_neg (by rw [← hn]; exact hn0), ← hn, hm, Nat.add_sub_cancel, List.getD_eq_getElem?_getD, List.getD_eq_getElem?_getD, hx, hy]; rfl
      rw [HE] at HI HS
      obtain ⟨h1, h2, h3⟩ := range_ends HBb.out.2 HBs.out.2 (by rw [← hn]; exact hm) hx hy
      rw [← hhi] at h2
      rw [← hlo] at h3
      have hmm : ((m : Int) != (m : Int)) = false := by simp
      have hxx : (x != x) = false := by simp
      have hyy : (y != y) = false := by simp
      have hw1 : IntKind.i64.wrap ((n : Int) - 1) = (m : Int) := by rw [show (n : Int) - 1 = (m : Int) by omega]; exact IntWalk.i64_in _ (by omega)
      have hnn : ((n : Int) == 0) = false := by simp; omega
      have hn1 : (0 : Int) < (n : Int) := by omega
      have hmx : max (m : Int) 0 = (m : Int) := by omega
      have d1 : decide (y ≤ x) = true := decide_eq_true h1
      have d2 : decide (hi ≤ x) = true := decide_eq_true h2
      have d3 : decide (y ≤ lo) = true := decide_eq_true h3
      clear hv hR1 hR2 HD HE hn hg hlo hhi HBb HBs hnl hds hx hy hn0 hm
      go_wp2_with fail
      refine HI.out.mono ?_
      rintro e w2 ⟨rfl, b2⟩
      have B2 := Lib.hid (b1.trans (b2.mono b1.size))
      go_wp2_with fail
      refine (HS.out w2 b2).mono ?_
      rintro e w3 ⟨rfl, b3⟩
      have C3 := Lib.hid (b2.trans (b3.mono b2.size))
      have B3 := Lib.hid (B2.out.trans (b3.mono B2.out.size))
      clear b2 b3
      go_wp2_with fail
      refine (HT.out w3 C3.out).mono ?_
      rintro e w4 ⟨rfl, b4⟩
      have C4 := Lib.hid (C3.out.trans (b4.mono C3.out.size))
      have B4 := Lib.hid (B3.out.trans (b4.mono B3.out.size))
      clear b4
      go_wp2_with fail
      refine (HR.out w4 C4.out).mono ?_
      rintro e w5 ⟨rfl, b5⟩
      have B5 := Lib.hid (B4.out.trans (b5.mono B4.out.size))
      clear b5
      go_wp2
      go_ret
      exact ⟨rfl, B5.out⟩

end Go.Proofs.Ytpildecpabeanaa
