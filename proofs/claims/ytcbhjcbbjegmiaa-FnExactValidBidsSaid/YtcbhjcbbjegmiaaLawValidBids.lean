/-
  The walk of the exact law of ValidBids.
-/
import Derived.Test.YtcbhjcbbjegmiaaOne
namespace Go.Proofs.Ytcbhjcbbjegmiaa
open Go.RowKit

theorem fnExactValidBids_walk {A : Option Addr} {c : Nat} {xs : List Int} {w : World} (h0 : Came .i64 w A c xs) :
    Calls Try.prog 10 #[.slice A xs.length c] w fun e w' => e = .returned (.bool true) ∧ Below w.heap.size w w' := by
  have h := h0.rd
  clear h0
  by_cases hlen : 1048576 < xs.length
  · go_enter Try.func10, Try.ntmps10
    go_wp2
    go_ret
    exact ⟨rfl, Below.refl _ _⟩
  · have hl : xs.length ≤ 1099511627776 := by omega
    go_enter Try.func10, Try.ntmps10
    go_wp2_with fail
    refine (toIntS_any _ _ _ _ h hl).mono ?_
    rintro e w1 ⟨g1, c1, rfl, o1, b1⟩
    go_wp2_with fail
    refine (SValidBids_any _ _ _ _ o1.rd hl).mono ?_
    rintro e w1' ⟨rfl, rfl⟩
    go_wp2_with fail
    refine (toIntS_any _ _ _ _ (h.below b1) hl).mono ?_
    rintro e w2 ⟨g2, c2, rfl, o2, b2⟩
    go_wp2_with fail
    refine (ValidBids_any _ _ _ _ o2.rd hl).mono ?_
    rintro e w2' ⟨rfl, rfl⟩
    have hq : (vB xs != vB xs) = false := by simp
    have B2 := b1.trans (b2.mono b1.size)
    go_wp2_with fail
    refine (toIntS_any _ _ _ _ (h.below B2) hl).mono ?_
    rintro e w3 ⟨g3, c3, rfl, o3, b3⟩
    go_wp2_with fail
    refine (eqIntS_any _ _ _ _ _ _ _ (o2.rd.below b3) o3.rd hl).mono ?_
    rintro e w4 ⟨rfl, n, rfl⟩
    have HE := eqB_self xs
    rw [HE]
    clear HE
    go_wp2
    go_ret
    exact ⟨rfl, below_drewN' (B2.trans (b3.mono B2.size)) n⟩

end Go.Proofs.Ytcbhjcbbjegmiaa
