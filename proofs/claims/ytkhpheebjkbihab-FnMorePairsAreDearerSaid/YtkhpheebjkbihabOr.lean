/-
  Chapter 8: the walk of FnValidRows.
-/
import Derived.Test.YtkhpheebjkbihabGR
import Derived.Test.YtkhpheebjkbihabGO
namespace Go.Proofs.Ytkhpheebjkbihab
open Go.RowKit

theorem six_lenM {rows : List (List Int)} (h : ∀ r ∈ rows, r.length ≤ 6) : ∀ r ∈ rows, r.length ≤ 1099511627776 := fun r hr => by have := h r hr; omega
theorem VR.take_ {rows : List (List Int)} (h : VR rows) {m : Nat} (h1 : 1 ≤ m) (hm : m ≤ rows.length) : VR (rows.take m) := by
  have hl : (rows.take m).length = m := by rw [List.length_take]; omega
  have h0 : RW (rows.take m) 0 = RW rows 0 := by
    unfold RW
    rw [List.getD_eq_getElem?_getD, List.getD_eq_getElem?_getD, List.getElem?_take, if_pos (by omega)]
  have := h.1
  refine ⟨by omega, fun r hr => ?_⟩
  rw [h0]
  exact h.2 r (List.mem_of_mem_take hr)
/-- Both ValidRows. -/
theorem VR_both (rows : List (List Int)) (hl : rows.length ≤ 4) (hl2 : ∀ r ∈ rows, r.length ≤ 6) :
    (∀ A c w, RdR w A c rows → Calls Try.prog 53 #[.slice A rows.length c] w fun e w' => e = .returned (.bool (vrB rows)) ∧ Below w.heap.size w w') ∧
    (∀ A c w, RdR w A c rows → Calls Try.prog 36 #[.slice A rows.length c] w fun e w' => e = .returned (.bool (vrB rows)) ∧ Below w.heap.size w w') :=
  ⟨fun A c w h => (SValidRows_any A c rows w h (by omega) (six_lenM hl2)).mono fun e w' ⟨he, n, hn⟩ => ⟨he, by rw [hn]; exact below_drewN' (Below.refl _ _) n⟩,
   fun A c w h => ValidRows_any A c rows w h (by omega) (six_lenM hl2)⟩

end Go.Proofs.Ytkhpheebjkbihab
