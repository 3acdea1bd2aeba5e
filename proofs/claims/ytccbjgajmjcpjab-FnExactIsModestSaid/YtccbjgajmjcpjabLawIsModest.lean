/-
  The walk of the exact law of IsModest.
-/
import Derived.Test.YtccbjgajmjcpjabWh
namespace Go.Proofs.Ytccbjgajmjcpjab
open Go.RowKit

set_option maxHeartbeats 800000 in
theorem fnExactIsModest_walk {A : Option Addr} {c : Nat} {xs : List Int} {w : World} (h0 : Came .i64 w A c xs) :
    Calls Try.prog 6 #[.slice A xs.length c] w fun e w' => e = .returned (.bool true) ∧ Below w.heap.size w w' := by
  have h := h0.rd
  clear h0
  by_cases hlen : 1048576 < xs.length
  · go_enter Try.func6, Try.ntmps6
    go_wp2
    go_ret
    exact ⟨rfl, Below.refl _ _⟩
  have hl1 : xs.length ≤ 1048576 := by omega
  have hl : xs.length ≤ 1099511627776 := by omega
  clear hlen
  obtain ⟨v, hS, hI⟩ := IsModest_both xs hl1
  have HS := Lib.hid hS
  have HI := Lib.hid hI
  clear hS hI
  have hnn : (v != v) = false := by simp
  go_enter Try.func6, Try.ntmps6
  go_wp2_with fail
  refine (toIntS_any _ _ _ _ h hl).mono ?_
  rintro e w1 ⟨g1, c1, rfl, o1, b1⟩
  go_wp2_with fail
  refine (HS.out _ _ _ o1.rd).mono ?_
  rintro e w2 ⟨rfl, b2⟩
  have B2 := b1.trans (b2.mono b1.size)
  go_wp2_with fail
  refine (toIntS_any _ _ _ _ (h.below B2) hl).mono ?_
  rintro e w3 ⟨gx, cx, rfl, ox, b3⟩
  have B3 := B2.trans (b3.mono B2.size)
  go_wp2_with fail
  refine (HI.out _ _ _ ox.rd ox.cap.1).mono ?_
  rintro e w4 ⟨rfl, b4⟩
  have B4 := B3.trans (b4.mono B3.size)
  go_wp2_with fail
  refine (toIntS_any _ _ _ _ (h.below B4) hl).mono ?_
  rintro e w6 ⟨g6, c6, rfl, o6, b6⟩
  have B6 := B4.trans (b6.mono B4.size)
  go_wp2_with fail
  refine (eqIntS_any _ _ _ _ _ _ _ ((ox.below b4).below b6).rd o6.rd hl).mono ?_
  rw [eqB_self]
  rintro e w7 ⟨rfl, n7, rfl⟩
  go_wp2
  go_ret
  exact ⟨rfl, below_drewN' B6 n7⟩

end Go.Proofs.Ytccbjgajmjcpjab
