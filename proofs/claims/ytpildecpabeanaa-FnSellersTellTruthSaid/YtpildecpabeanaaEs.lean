/-
  The laws of chapter 10: the walk of FnTradeGain.
-/
import Derived.Test.YtpildecpabeanaaEo
import Derived.Test.YtpildecpabeanaaEc
namespace Go.Proofs.Ytpildecpabeanaa
open Go.RowKit

theorem bid_in {b : List Int} {j : Nat} {v : Int} (hb : vB b = true) (hv : b[j]? = some v) : inR v 0 30 = true := inR_true.2 ((vB_Bd hb).2 v (List.mem_of_getElem? hv))
theorem set_self {b : List Int} {j : Nat} {v : Int} (hv : b[j]? = some v) : b.set j v = b := by
  obtain ⟨hj, rfl⟩ := List.getElem?_eq_some_iff.1 hv
  exact List.set_getElem_self hj

set_option maxRecDepth 100000 in
set_option maxHeartbeats 4000000 in
theorem fnTradeGain_walk {A : Option Addr} {c : Nat} {xs : List Int} {w : World} (h : Came .u8 w A c xs) :
    Calls Try.prog 6 #[.slice A xs.length c] w fun e w' => e = .returned (.bool true) ∧ Below w.heap.size w w' := by
  by_cases hlen : 1048576 < xs.length
  · go_enter Try.func6, Try.ntmps6
    go_wp2
    go_ret
    exact ⟨rfl, Below.refl _ _⟩
  have HD := Lib.hid (DrawTradeGain_any A c xs w h)
  clear h
  go_enter Try.func6, Try.ntmps6
  go_wp2_with fail
  refine HD.out.mono ?_
  rintro e w1 ⟨A1, c1, b, A2, c2, s, i, t, rfl, hR1, hR2, hl1, hl2, b1⟩
  clear hlen HD
  rcases TradeGain_cases b s i t (by omega) (by omega) with ⟨j, v, rfl, hv, hb, hs, ht, hS, hI⟩ | ⟨hS, hI⟩
  · have hT := truth_best (s := s) hv t
    have HTR := Lib.hid (fun (w2 : World) (h : Rd w2 A1 c1 b) (h2 : Rd w2 A2 c2 s) => (by
      have := TradeGain_yes A1 A2 c1 c2 b s j v v w2 h h2 hb hs hv (bid_in hb hv)
      rwa [set_self hv] at this : Calls Try.prog 24 #[.slice A1 b.length c1, .slice A2 s.length c2, .int .i64 (j : Int), .int .i64 v] w2 (TwoIs w2 (tgF b s j v) true)))
    obtain ⟨gt, hgt⟩ : ∃ g, g = tgF (b.set j t) s j v := ⟨_, rfl⟩
    obtain ⟨gv, hgv⟩ : ∃ g, g = tgF b s j v := ⟨_, rfl⟩
    rw [← hgt] at hS hI hT
    rw [← hgv] at HTR hT
    have HI := Lib.hid (hI A1 c1 A2 c2)
    have HS := Lib.hid (hS A1 c1 A2 c2)
    have hgg : (gt != gt) = false := by simp
    have d1 : decide (gt ≤ gv) = true := decide_eq_true hT.1
    have d2 : decide (0 ≤ gv) = true := decide_eq_true hT.2
    have hj := (List.getElem?_eq_some_iff.1 hv).1
    have HV := Lib.hid hv
    clear hS hI hT hgt hgv hb hs ht hv
    go_wp2_with fail
    refine (HI.out w1 hR1 hR2).mono ?_
    rintro e w2 ⟨rfl, b2⟩
    have B2 := Lib.hid (b1.trans (b2.mono b1.size))
    have HR1 := Lib.hid (hR1.below b2)
    have HR2 := Lib.hid (hR2.below b2)
    clear b2 hR1 hR2
    go_wp2_with fail
    refine (HS.out w2 HR1.out HR2.out).mono ?_
    rintro e w3 ⟨rfl, b3⟩
    have B3 := Lib.hid (B2.out.trans (b3.mono B2.out.size))
    have HR1' := Lib.hid (HR1.out.below b3)
    have HR2' := Lib.hid (HR2.out.below b3)
    clear b3
    obtain ⟨bb, ob, x, rfl, _, hx, hcx⟩ := HR1'.out.at_ hj
    obtain rfl : x = v := by have := hx.out; rw [HV.out] at this; exact (Option.some.inj this).symm
    clear hx
    go_wp2_with fail
    refine (HTR.out w3 HR1'.out HR2'.out).mono ?_
    rintro e w4 ⟨rfl, b4⟩
    have B4 := Lib.hid (B3.out.trans (b4.mono B3.out.size))
    clear b4
    go_wp2
    go_ret
    exact ⟨rfl, B4.out⟩
  · have HI := Lib.hid (hI A1 c1 A2 c2)
    have HS := Lib.hid (hS A1 c1 A2 c2)
    clear hS hI
    go_wp2_with fail
    refine (HI.out w1 hR1 hR2).mono ?_
    rintro e w2 ⟨rfl, b2⟩
    have B2 := Lib.hid (b1.trans (b2.mono b1.size))
    have HR1 := Lib.hid (hR1.below b2)
    have HR2 := Lib.hid (hR2.below b2)
    clear b2 hR1 hR2
    go_wp2_with fail
    refine (HS.out w2 HR1.out HR2.out).mono ?_
    rintro e w3 ⟨rfl, b3⟩
    have B3 := Lib.hid (B2.out.trans (b3.mono B2.out.size))
    clear b3
    go_wp2
    go_ret
    exact ⟨rfl, B3.out⟩

end Go.Proofs.Ytpildecpabeanaa
