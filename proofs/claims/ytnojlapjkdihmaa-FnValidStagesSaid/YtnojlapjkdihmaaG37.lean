/-
  Chapter 11: ValidStages, of the program and of the model, at whatever rows.
-/
import Derived.Test.YtnojlapjkdihmaaCa
import Derived.Test.YtnojlapjkdihmaaG24
import Derived.Test.YtnojlapjkdihmaaG05
import Derived.Test.YtnojlapjkdihmaaHb
import Derived.Test.YtnojlapjkdihmaaG14
namespace Go.Proofs.Ytnojlapjkdihmaa
open Go.RowKit

/-- Stages. -/
def vsB (rows : List (List Int)) : Bool := inR rows.length 1 4 && rows.all vW
theorem vs_len {rows : List (List Int)} (h : ¬ (1 ≤ rows.length ∧ rows.length ≤ 4)) : vsB rows = false := by
  unfold vsB
  rw [inR_false.2 (by omega), Bool.false_and]
theorem vs_no {rows : List (List Int)} {k : Nat} {r : List Int} (hr : rows[k]? = some r) (h : vW r = false) : vsB rows = false := by
  unfold vsB
  rw [show rows.all vW = false by rw [List.all_eq_false]; exact ⟨r, List.mem_of_getElem? hr, by simp [h]⟩, Bool.and_false]
def stTo (rows : List (List Int)) (k : Nat) : Prop := (rows.take k).all vW = true
theorem stTo_zero (rows : List (List Int)) : stTo rows 0 := rfl
theorem stTo_step {rows : List (List Int)} {k : Nat} {r : List Int} (h : stTo rows k) (hr : rows[k]? = some r) (hb : vW r = true) : stTo rows (k + 1) := by
  unfold stTo at *
  rw [List.take_add_one, hr]; simp at h ⊢; exact ⟨h, hb⟩
theorem stTo_all {rows : List (List Int)} (h : stTo rows rows.length) : vsB rows = inR rows.length 1 4 := by
  unfold stTo at h
  rw [List.take_length] at h
  unfold vsB
  rw [h, Bool.and_true]
theorem vs_in {rows : List (List Int)} (h1 : 1 ≤ rows.length) (h4 : rows.length ≤ 4) (h : stTo rows rows.length) : vsB rows = true := by
  rw [stTo_all h, inR_true]; omega
theorem vs_is {rows : List (List Int)} (h : vsB rows = true) : (1 ≤ rows.length ∧ rows.length ≤ 4) ∧ ∀ r ∈ rows, vW r = true := by
  simp only [vsB, Bool.and_eq_true, inR_true, List.all_eq_true] at h
  exact ⟨by omega, h.2⟩
theorem vs_VS {rows : List (List Int)} (h : vsB rows = true) : VS rows := fun r hr => vW_valid ((vs_is h).2 r hr)

set_option maxHeartbeats 400000 in
/-- areAll at stages. -/
theorem areStages_any (A : Option Addr) (c : Nat) (rows : List (List Int)) (w : World) (h : RdR w A c rows) (hl : rows.length ≤ 1099511627776) (hl2 : ∀ r ∈ rows, r.length ≤ 1099511627776) :
    Calls Try.prog 101 #[.slice A rows.length c, .int .i64 4, .func (.func 102) #[] #[]] w fun e w' => e = .returned (.bool (vsB rows)) ∧ ∃ n, w' = w.drewN n := by
  by_cases h1 : rows.length < 1
  · have HE := Lib.hid (vs_len (rows := rows) (by omega))
    go_enter Try.func101, Try.ntmps101
    go_wp2
    go_ret
    exact ⟨by rw [HE.out]; rfl, 0, rfl⟩
  by_cases h4 : 4 < rows.length
  · have HE := Lib.hid (vs_len (rows := rows) (by omega))
    go_enter Try.func101, Try.ntmps101
    go_wp2
    go_ret
    exact ⟨by rw [HE.out]; rfl, 0, rfl⟩
  have h1' : 1 ≤ rows.length := by omega
  have h4' : rows.length ≤ 4 := by omega
  clear h1 h4
  go_enter Try.func101, Try.ntmps101
  go_wp2
  go_loopw [20] (fun i wr => ∃ k n : Nat, k ≤ rows.length ∧ i = .int .i64 k ∧ wr = w.drewN n ∧ Hid (stTo rows k)) (fun i _ => rows.length - (intOf i).toNat)
  case atStart => exact ⟨0, 0, Nat.zero_le _, rfl, rfl, Lib.hid (stTo_zero rows)⟩
  case round =>
    obtain ⟨k, n, hk, rfl, rfl, HT⟩ := hrel
    by_cases hlt : k < rows.length
    · obtain ⟨b, off, r, A', c', rfl, hr, hc, hcap, hrd⟩ := h.at_ hlt
      have hrl : r.length ≤ 1099511627776 := hl2 r (List.mem_of_getElem? hr.out)
      have HC : Hid (∀ n, Calls Try.prog 102 #[.slice A' r.length c'] (w.drewN n) fun e w' => e = .returned (.bool (vW r)) ∧ w.drewN n = w') := Lib.hid (fun n => ValidWeights_any A' c' r (w.drewN n) (hrd.out.drewN n) hrl)
      rcases hbk : vW r with _ | _
      · have HE := Lib.hid (vs_no hr.out hbk)
        rw [hbk] at HC
        clear hbk hr hrd hrl
        go_wp2_with (go_at_call 102; refine (HC.out _).mono ?_; rintro e w1 ⟨rfl, rfl⟩)
        go_ret
        exact ⟨by rw [HE.out]; rfl, _, rfl⟩
      · have HT' := Lib.hid (stTo_step HT.out hr.out hbk)
        rw [hbk] at HC
        clear hbk hr hrd hrl
        go_wp2_with (go_at_call 102; refine (HC.out _).mono ?_; rintro e w1 ⟨rfl, rfl⟩)
        go_roundw
        case rel => exact ⟨k + 1, _, by omega, by go_num, rfl, HT'⟩
        case measure => simp [intOf]; omega
    · obtain rfl : k = rows.length := by omega
      have HE := Lib.hid (vs_in h1' h4' HT.out)
      go_wp2
      go_ret
      exact ⟨by rw [HE.out]; rfl, _, rfl⟩

set_option maxHeartbeats 400000 in
theorem ValidStages_any (A : Option Addr) (c : Nat) (rows : List (List Int)) (w : World) (h : RdR w A c rows) (hl : rows.length ≤ 1099511627776) (hl2 : ∀ r ∈ rows, r.length ≤ 1099511627776) :
    Calls Try.prog 27 #[.slice A rows.length c] w fun e w' => e = .returned (.bool (vsB rows)) ∧ ∃ n, w' = w.drewN n := by
  have HC := Lib.hid (areStages_any A c rows w h hl hl2)
  go_enter Try.func27, Try.ntmps27
  go_wp2_with (go_at_call 101; refine HC.out.mono ?_; rintro e w1 ⟨rfl, m, rfl⟩)
  go_ret
  exact ⟨rfl, m, rfl⟩

set_option maxHeartbeats 800000 in
theorem validStages_any (A : Option Addr) (c : Nat) (rows : List (List Int)) (w : World) (h : RdR w A c rows) (hl : rows.length ≤ 1099511627776) (hl2 : ∀ r ∈ rows, r.length ≤ 1099511627776) :
    Calls Try.prog 103 #[.slice A rows.length c] w fun e w' => e = .returned (.bool (vsB rows)) ∧ ∃ n, w' = w.drewN n := by
  go_enter Try.func103, Try.ntmps103
  go_wp2
  go_loopw [3] (fun i wr => ∃ k n : Nat, k ≤ rows.length ∧ i = .int .i64 k ∧ wr = w.drewN n ∧ Hid (stTo rows k)) (fun i _ => rows.length - (intOf i).toNat)
  case atStart => exact ⟨0, 0, Nat.zero_le _, rfl, rfl, Lib.hid (stTo_zero rows)⟩
  case round =>
    obtain ⟨k, n, hk, rfl, rfl, HT⟩ := hrel
    by_cases hlt : k < rows.length
    · obtain ⟨b, off, r, A', c', rfl, hr, hc, hcap, hrd⟩ := h.at_ hlt
      have hrl : r.length ≤ 1099511627776 := hl2 r (List.mem_of_getElem? hr.out)
      have HC : Hid (∀ n, Calls Try.prog 162 #[.slice A' r.length c'] (w.drewN n) fun e w' => e = .returned (.bool (vW r)) ∧ w.drewN n = w') := Lib.hid (fun n => validWeights_any A' c' r (w.drewN n) (hrd.out.drewN n) hrl)
      rcases hbk : vW r with _ | _
      · have HE := Lib.hid (vs_no hr.out hbk)
        rw [hbk] at HC
        clear hbk hr hrd hrl
        go_wp2_with (go_at_call 162; refine (HC.out _).mono ?_; rintro e w1 ⟨rfl, rfl⟩)
        go_ret
        exact ⟨by rw [HE.out]; rfl, _, rfl⟩
      · have HT' := Lib.hid (stTo_step HT.out hr.out hbk)
        rw [hbk] at HC
        clear hbk hr hrd hrl
        go_wp2_with (go_at_call 162; refine (HC.out _).mono ?_; rintro e w1 ⟨rfl, rfl⟩)
        go_roundw
        case rel => exact ⟨k + 1, _, by omega, by go_num, rfl, HT'⟩
        case measure => simp [intOf]; omega
    · obtain rfl : k = rows.length := by omega
      have HE := Lib.hid (stTo_all HT.out)
      have HI := Lib.hid (fun w1 => inRange_any (rows.length : Int) 1 4 w1)
      go_wp2_with (go_at_call 116; refine (HI.out _).mono ?_; rintro e w1 ⟨rfl, rfl⟩)
      go_ret
      exact ⟨by rw [HE.out]; rfl, _, rfl⟩

set_option maxHeartbeats 400000 in
theorem SValidStages_any (A : Option Addr) (c : Nat) (rows : List (List Int)) (w : World) (h : RdR w A c rows) (hl : rows.length ≤ 1099511627776) (hl2 : ∀ r ∈ rows, r.length ≤ 1099511627776) :
    Calls Try.prog 28 #[.slice A rows.length c] w fun e w' => e = .returned (.bool (vsB rows)) ∧ ∃ n, w' = w.drewN n := by
  have HC := Lib.hid (validStages_any A c rows w h hl hl2)
  go_enter Try.func28, Try.ntmps28
  go_wp2_with (go_at_call 103; refine HC.out.mono ?_; rintro e w1 ⟨rfl, m, rfl⟩)
  go_ret
  exact ⟨rfl, m, rfl⟩
end Go.Proofs.Ytnojlapjkdihmaa

/-
  The walk of the law of ValidStages.
-/
namespace Go.Proofs.Ytnojlapjkdihmaa
open Go.RowKit

theorem VSt_both (rows : List (List Int)) (hl : rows.length ≤ 4) (hl2 : ∀ r ∈ rows, r.length ≤ 6) :
    (∀ A c w, RdR w A c rows → Calls Try.prog 28 #[.slice A rows.length c] w fun e w' => e = .returned (.bool (vsB rows)) ∧ Below w.heap.size w w') ∧
    (∀ A c w, RdR w A c rows → Calls Try.prog 27 #[.slice A rows.length c] w fun e w' => e = .returned (.bool (vsB rows)) ∧ Below w.heap.size w w') :=
  ⟨fun A c w h => (SValidStages_any A c rows w h (by omega) (fun r hr => by have := hl2 r hr; omega)).mono fun e w' ⟨he, n, hn⟩ => ⟨he, by rw [hn]; exact below_drewN' (Below.refl _ _) n⟩,
   fun A c w h => (ValidStages_any A c rows w h (by omega) (fun r hr => by have := hl2 r hr; omega)).mono fun e w' ⟨he, n, hn⟩ => ⟨he, by rw [hn]; exact below_drewN' (Below.refl _ _) n⟩⟩
theorem vs_take {rows : List (List Int)} (h : (1 ≤ rows.length ∧ rows.length ≤ 4) ∧ ∀ r ∈ rows, vW r = true) {m : Nat} (hm : 1 ≤ m) : vsB (rows.take m) = true := by
  simp only [vsB, Bool.and_eq_true, inR_true, List.all_eq_true, List.length_take]
  exact ⟨by omega, fun r hr => h.2 r (List.mem_of_mem_take hr)⟩

theorem fnValidStages_walk {A : Option Addr} {c : Nat} {xs : List Int} {w : World} (h : Came .u8 w A c xs) :
    Calls Try.prog 5 #[.slice A xs.length c] w fun e w' => e = .returned (.bool true) ∧ Below w.heap.size w w' := by
  by_cases hlen : 1048576 < xs.length
  · go_enter Try.func5, Try.ntmps5
    go_wp2
    go_ret
    exact ⟨rfl, Below.refl _ _⟩
  have hl1 : xs.length ≤ 1048576 := by omega
  have HD := Lib.hid (DrawValidStages_any A c xs w h)
  clear hlen h
  go_enter Try.func5, Try.ntmps5
  go_wp2_with fail
  refine HD.out.mono ?_
  rintro e w1 ⟨A1, c1, rows, rfl, hR, hl4, hl6, b1⟩
  obtain ⟨hS, hI⟩ := VSt_both rows hl4 hl6
  cases hv : vsB rows with
  | false =>
    rw [hv] at hS hI
    have HS := Lib.hid hS
    have HI := Lib.hid hI
    have hbb : (false != false) = false := rfl
    clear hS hI hv HD hl6
    go_wp2_with fail
    refine (HI.out A1 c1 w1 hR).mono ?_
    rintro e w2 ⟨rfl, b2⟩
    have B2 := b1.trans (b2.mono b1.size)
    go_wp2_with fail
    refine (HS.out A1 c1 w2 (hR.below b2)).mono ?_
    rintro e w3 ⟨rfl, b3⟩
    have B3 := B2.trans (b3.mono B2.size)
    go_wp2_with fail
    refine (HS.out A1 c1 w3 ((hR.below b2).below b3)).mono ?_
    rintro e w4 ⟨rfl, b4⟩
    have B4 := B3.trans (b4.mono B3.size)
    go_wp2
    go_ret
    exact ⟨rfl, B4⟩
  | true =>
    have hvd := vs_is hv
    have h1l := hvd.1.1
    obtain ⟨b, off, rfl, hcap, _⟩ := hR.open_ h1l
    rw [hv] at hS hI
    have HS := Lib.hid hS
    have HI := Lib.hid hI
    have HVD := Lib.hid hvd
    have H6 := Lib.hid hl6
    have hbb : (true != true) = false := rfl
    clear hS hI hv HD hl6 hvd
    go_wp2_with fail
    refine (HI.out _ c1 w1 hR).mono ?_
    rintro e w2 ⟨rfl, b2⟩
    have B2 := b1.trans (b2.mono b1.size)
    have hR2 := hR.below b2
    go_wp2_with fail
    refine (HS.out _ c1 w2 hR2).mono ?_
    rintro e w3 ⟨rfl, b3⟩
    have B3 := B2.trans (b3.mono B2.size)
    have hR3 := hR2.below b3
    by_cases hn1 : rows.length = 1
    · have hnb : ((rows.length : Int) == 1) = true := by simp [hn1]
      clear hn1
      go_wp2
      go_ret
      exact ⟨rfl, B3⟩
    · have hnb : ((rows.length : Int) == 1) = false := by simp; omega
      obtain ⟨m, hm⟩ : ∃ m, rows.length = m + 1 := ⟨rows.length - 1, by omega⟩
      have hm1 : 1 ≤ m := by omega
      have hvt := vs_take HVD.out hm1
      have hlt : (rows.take m).length = m := by rw [List.length_take]; omega
      have hIT := (VSt_both (rows.take m) (by omega) (fun r hr => H6.out r (List.mem_of_mem_take hr))).2 (some ⟨b, off, none⟩) c1 w3 (hR3.take_ (c2 := c1) m (by omega))
      rw [hvt, hlt] at hIT
      have HIT := Lib.hid hIT
      have hmi : (rows.length : Int) - 1 = (m : Int) := by omega
      have hmc : (m : Int) ≤ (c1 : Int) := by omega
      have hwm : IntKind.i64.wrap (m : Int) = (m : Int) := IntWalk.i64_in _ (by omega)
      clear hn1 hm hvt hlt hIT hR hR2 hR3
      go_wp2_with fail
      refine HIT.out.mono ?_
      rintro e w4 ⟨rfl, b4⟩
      have B4 := B3.trans (b4.mono B3.size)
      go_wp2
      go_ret
      exact ⟨rfl, B4⟩


end Go.Proofs.Ytnojlapjkdihmaa
