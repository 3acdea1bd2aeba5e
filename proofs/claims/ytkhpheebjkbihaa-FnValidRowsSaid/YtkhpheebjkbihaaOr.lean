/-
  Chapter 8: the walk of FnValidRows.
-/
import Derived.Test.YtkhpheebjkbihaaOq
import Derived.Test.YtkhpheebjkbihaaOf
namespace Go.Proofs.Ytkhpheebjkbihaa
open Go.RowKit

theorem six_lenM {rows : List (List Int)} (h : ∀ r ∈ rows, r.length ≤ 6) : ∀ r ∈ rows, r.length ≤ 1099511627776 := fun r hr => by have := h r hr; omega
theorem VR.take_ {rows : List (List Int)} (h : VR rows) {m : Nat} (h1 : 1 ≤ m) (hm : m ≤ rows.length) : VR (rows.take m) := by
  have hl : (rows.take m).length = m := by rw [List.length_take]; omega
  have h0 : RW (rows.take m) 0 = RW rows 0 := by
    unfold RW
    rw [List.getD_eq_getElem?_getD, List.getD_eq_getElem?_getD, List.getElem?_take, if_pos (by omega)]
  have := h.1
  refine ⟨by omega, fun r hr => ?_⟩
  rw [h0]
  exact h.2 r (List.mem_of_mem_take hr)
/-- Both ValidRows. -/
theorem VR_both (rows : List (List Int)) (hl : rows.length ≤ 4) (hl2 : ∀ r ∈ rows, r.length ≤ 6) :
    (∀ A c w, RdR w A c rows → Calls Try.prog 42 #[.slice A rows.length c] w fun e w' => e = .returned (.bool (vrB rows)) ∧ Below w.heap.size w w') ∧
    (∀ A c w, RdR w A c rows → Calls Try.prog 41 #[.slice A rows.length c] w fun e w' => e = .returned (.bool (vrB rows)) ∧ Below w.heap.size w w') :=
  ⟨fun A c w h => (SValidRows_any A c rows w h (by omega) (six_lenM hl2)).mono fun e w' ⟨he, n, hn⟩ => ⟨he, by rw [hn]; exact below_drewN' (Below.refl _ _) n⟩,
   fun A c w h => ValidRows_any A c rows w h (by omega) (six_lenM hl2)⟩

set_option maxHeartbeats 2000000 in
theorem fnValidRows_walk {A : Option Addr} {c : Nat} {xs : List Int} {w : World} (h : Came .u8 w A c xs) :
    Calls Try.prog 7 #[.slice A xs.length c] w fun e w' => e = .returned (.bool true) ∧ Below w.heap.size w w' := by
  by_cases hlen : 1048576 < xs.length
  · go_enter Try.func7, Try.ntmps7
    go_wp2
    go_ret
    exact ⟨rfl, Below.refl _ _⟩
  have hl1 : xs.length ≤ 1048576 := by omega
  have HD := Lib.hid (DrawValidRows_any A c xs w h)
  clear hlen h
  go_enter Try.func7, Try.ntmps7
  go_wp2_with fail
  refine HD.out.mono ?_
  rintro e w1 ⟨A1, c1, rows, rfl, hR, hl4, hl6, b1⟩
  obtain ⟨hS, hI⟩ := VR_both rows hl4 hl6
  cases hv : vrB rows with
  | false =>
    rw [hv] at hS hI
    have HS := Lib.hid hS
    have HI := Lib.hid hI
    have hbb : (false != false) = false := rfl
    clear hS hI hv HD hl6
    go_wp2_with fail
    refine (HI.out A1 c1 w1 hR).mono ?_
    rintro e w2 ⟨rfl, b2⟩
    have B2 := b1.trans (b2.mono b1.size)
    go_wp2_with fail
    refine (HS.out A1 c1 w2 (hR.below b2)).mono ?_
    rintro e w3 ⟨rfl, b3⟩
    have B3 := B2.trans (b3.mono B2.size)
    go_wp2_with fail
    refine (HS.out A1 c1 w3 ((hR.below b2).below b3)).mono ?_
    rintro e w4 ⟨rfl, b4⟩
    have B4 := B3.trans (b4.mono B3.size)
    go_wp2
    go_ret
    exact ⟨rfl, B4⟩
  | true =>
    have hvd := vr_iff.1 hv
    have h1l := hvd.1.1
    obtain ⟨b, off, rfl, hcap, _⟩ := hR.open_ h1l
    rw [hv] at hS hI
    have HS := Lib.hid hS
    have HI := Lib.hid hI
    have HVD := Lib.hid hvd
    have H6 := Lib.hid hl6
    have hbb : (true != true) = false := rfl
    clear hS hI hv HD hl6 hvd
    go_wp2_with fail
    refine (HI.out _ c1 w1 hR).mono ?_
    rintro e w2 ⟨rfl, b2⟩
    have B2 := b1.trans (b2.mono b1.size)
    have hR2 := hR.below b2
    go_wp2_with fail
    refine (HS.out _ c1 w2 hR2).mono ?_
    rintro e w3 ⟨rfl, b3⟩
    have B3 := B2.trans (b3.mono B2.size)
    have hR3 := hR2.below b3
    by_cases hn1 : rows.length = 1
    · have hnb : ((rows.length : Int) == 1) = true := by simp [hn1]
      clear hn1
      go_wp2
      go_ret
      exact ⟨rfl, B3⟩
    · have hnb : ((rows.length : Int) == 1) = false := by simp; omega
      obtain ⟨m, hm⟩ : ∃ m, rows.length = m + 1 := ⟨rows.length - 1, by omega⟩
      have hm1 : 1 ≤ m := by omega
      have hvt := HVD.out.take_ hm1 (by omega)
      have hlt : (rows.take m).length = m := by rw [List.length_take]; omega
      have hIT := (VR_both (rows.take m) (by omega) (fun r hr => H6.out r (List.mem_of_mem_take hr))).2 (some ⟨b, off, none⟩) c1 w3 (hR3.take_ (c2 := c1) m (by omega))
      rw [vr_true hvt, hlt] at hIT
      have HIT := Lib.hid hIT
      have hmi : (rows.length : Int) - 1 = (m : Int) := by omega
      have hmc : (m : Int) ≤ (c1 : Int) := by omega
      have hwm : IntKind.i64.wrap (m : Int) = (m : Int) := IntWalk.i64_in _ (by omega)
      clear hn1 hm hvt hlt hIT hR hR2 hR3
      go_wp2_with fail
      refine HIT.out.mono ?_
      rintro e w4 ⟨rfl, b4⟩
      have B4 := B3.trans (b4.mono B3.size)
      go_wp2
      go_ret
      exact ⟨rfl, B4⟩


end Go.Proofs.Ytkhpheebjkbihaa
