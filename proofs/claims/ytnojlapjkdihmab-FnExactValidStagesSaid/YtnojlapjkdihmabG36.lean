/-
  Chapter 11: ValidStages, of the program and of the model, at whatever rows.
-/
import Derived.Test.YtnojlapjkdihmabCa
import Derived.Test.YtnojlapjkdihmabG20
import Derived.Test.YtnojlapjkdihmabUc
import Derived.Test.YtnojlapjkdihmabHb
import Derived.Test.YtnojlapjkdihmabG09
namespace Go.Proofs.Ytnojlapjkdihmab
open Go.RowKit

/-- Stages. -/
def vsB (rows : List (List Int)) : Bool := inR rows.length 1 4 && rows.all vW
theorem vs_len {rows : List (List Int)} (h : ¬ (1 ≤ rows.length ∧ rows.length ≤ 4)) : vsB rows = false := by
  unfold vsB
  rw [inR_false.2 (by omega), Bool.false_and]
theorem vs_no {rows : List (List Int)} {k : Nat} {r : List Int} (hr : rows[k]? = some r) (h : vW r = false) : vsB rows = false := by
  unfold vsB
  rw [show rows.all vW = false by rw [List.all_eq_false]; exact ⟨r, List.mem_of_getElem? hr, by simp [h]⟩, Bool.and_false]
def stTo (rows : List (List Int)) (k : Nat) : Prop := (rows.take k).all vW = true
theorem stTo_zero (rows : List (List Int)) : stTo rows 0 := rfl
theorem stTo_step {rows : List (List Int)} {k : Nat} {r : List Int} (h : stTo rows k) (hr : rows[k]? = some r) (hb : vW r = true) : stTo rows (k + 1) := by
  unfold stTo at *
  rw [List.take_add_one, hr]; simp at h ⊢; exact ⟨h, hb⟩
theorem stTo_all {rows : List (List Int)} (h : stTo rows rows.length) : vsB rows = inR rows.length 1 4 := by
  unfold stTo at h
  rw [List.take_length] at h
  unfold vsB
  rw [h, Bool.and_true]
theorem vs_in {rows : List (List Int)} (h1 : 1 ≤ rows.length) (h4 : rows.length ≤ 4) (h : stTo rows rows.length) : vsB rows = true := by
  rw [stTo_all h, inR_true]; omega
theorem vs_is {rows : List (List Int)} (h : vsB rows = true) : (1 ≤ rows.length ∧ rows.length ≤ 4) ∧ ∀ r ∈ rows, vW r = true := by
  simp only [vsB, Bool.and_eq_true, inR_true, List.all_eq_true] at h
  exact ⟨by omega, h.2⟩
theorem vs_VS {rows : List (List Int)} (h : vsB rows = true) : VS rows := fun r hr => vW_valid ((vs_is h).2 r hr)

set_option maxHeartbeats 400000 in
/-- areAll at stages. -/
theorem areStages_any (A : Option Addr) (c : Nat) (rows : List (List Int)) (w : World) (h : RdR w A c rows) (hl : rows.length ≤ 1099511627776) (hl2 : ∀ r ∈ rows, r.length ≤ 1099511627776) :
    Calls Try.prog 34 #[.slice A rows.length c, .int .i64 4, .func (.func 35) #[] #[]] w fun e w' => e = .returned (.bool (vsB rows)) ∧ ∃ n, w' = w.drewN n := by
  by_cases h1 : rows.length < 1
  · have HE := Lib.hid (vs_len (rows := rows) (by omega))
    go_enter Try.func34, Try.ntmps34
    go_wp2
    go_ret
    exact ⟨by rw [HE.out]; rfl, 0, rfl⟩
  by_cases h4 : 4 < rows.length
  · have HE := Lib.hid (vs_len (rows := rows) (by omega))
    go_enter Try.func34, Try.ntmps34
    go_wp2
    go_ret
    exact ⟨by rw [HE.out]; rfl, 0, rfl⟩
  have h1' : 1 ≤ rows.length := by omega
  have h4' : rows.length ≤ 4 := by omega
  clear h1 h4
  go_enter Try.func34, Try.ntmps34
  go_wp2
  go_loopw [20] (fun i wr => ∃ k n : Nat, k ≤ rows.length ∧ i = .int .i64 k ∧ wr = w.drewN n ∧ Hid (stTo rows k)) (fun i _ => rows.length - (intOf i).toNat)
  case atStart => exact ⟨0, 0, Nat.zero_le _, rfl, rfl, Lib.hid (stTo_zero rows)⟩
  case round =>
    obtain ⟨k, n, hk, rfl, rfl, HT⟩ := hrel
    by_cases hlt : k < rows.length
    · obtain ⟨b, off, r, A', c', rfl, hr, hc, hcap, hrd⟩ := h.at_ hlt
      have hrl : r.length ≤ 1099511627776 := hl2 r (List.mem_of_getElem? hr.out)
      have HC : Hid (∀ n, Calls Try.prog 35 #[.slice A' r.length c'] (w.drewN n) fun e w' => e = .returned (.bool (vW r)) ∧ w.drewN n = w') := Lib.hid (fun n => ValidWeights_any A' c' r (w.drewN n) (hrd.out.drewN n) hrl)
      rcases hbk : vW r with _ | _
      · have HE := Lib.hid (vs_no hr.out hbk)
        rw [hbk] at HC
        clear hbk hr hrd hrl
        go_wp2_with (go_at_call 35; refine (HC.out _).mono ?_; rintro e w1 ⟨rfl, rfl⟩)
        go_ret
        exact ⟨by rw [HE.out]; rfl, _, rfl⟩
      · have HT' := Lib.hid (stTo_step HT.out hr.out hbk)
        rw [hbk] at HC
        clear hbk hr hrd hrl
        go_wp2_with (go_at_call 35; refine (HC.out _).mono ?_; rintro e w1 ⟨rfl, rfl⟩)
        go_roundw
        case rel => exact ⟨k + 1, _, by omega, by go_num, rfl, HT'⟩
        case measure => simp [intOf]; omega
    · obtain rfl : k = rows.length := by omega
      have HE := Lib.hid (vs_in h1' h4' HT.out)
      go_wp2
      go_ret
      exact ⟨by rw [HE.out]; rfl, _, rfl⟩

set_option maxHeartbeats 400000 in
theorem ValidStages_any (A : Option Addr) (c : Nat) (rows : List (List Int)) (w : World) (h : RdR w A c rows) (hl : rows.length ≤ 1099511627776) (hl2 : ∀ r ∈ rows, r.length ≤ 1099511627776) :
    Calls Try.prog 14 #[.slice A rows.length c] w fun e w' => e = .returned (.bool (vsB rows)) ∧ ∃ n, w' = w.drewN n := by
  have HC := Lib.hid (areStages_any A c rows w h hl hl2)
  go_enter Try.func14, Try.ntmps14
  go_wp2_with (go_at_call 34; refine HC.out.mono ?_; rintro e w1 ⟨rfl, m, rfl⟩)
  go_ret
  exact ⟨rfl, m, rfl⟩

set_option maxHeartbeats 800000 in
theorem validStages_any (A : Option Addr) (c : Nat) (rows : List (List Int)) (w : World) (h : RdR w A c rows) (hl : rows.length ≤ 1099511627776) (hl2 : ∀ r ∈ rows, r.length ≤ 1099511627776) :
    Calls Try.prog 32 #[.slice A rows.length c] w fun e w' => e = .returned (.bool (vsB rows)) ∧ ∃ n, w' = w.drewN n := by
  go_enter Try.func32, Try.ntmps32
  go_wp2
  go_loopw [3] (fun i wr => ∃ k n : Nat, k ≤ rows.length ∧ i = .int .i64 k ∧ wr = w.drewN n ∧ Hid (stTo rows k)) (fun i _ => rows.length - (intOf i).toNat)
  case atStart => exact ⟨0, 0, Nat.zero_le _, rfl, rfl, Lib.hid (stTo_zero rows)⟩
  case round =>
    obtain ⟨k, n, hk, rfl, rfl, HT⟩ := hrel
    by_cases hlt : k < rows.length
    · obtain ⟨b, off, r, A', c', rfl, hr, hc, hcap, hrd⟩ := h.at_ hlt
      have hrl : r.length ≤ 1099511627776 := hl2 r (List.mem_of_getElem? hr.out)
      have HC : Hid (∀ n, Calls Try.prog 55 #[.slice A' r.length c'] (w.drewN n) fun e w' => e = .returned (.bool (vW r)) ∧ w.drewN n = w') := Lib.hid (fun n => validWeights_any A' c' r (w.drewN n) (hrd.out.drewN n) hrl)
      rcases hbk : vW r with _ | _
      · have HE := Lib.hid (vs_no hr.out hbk)
        rw [hbk] at HC
        clear hbk hr hrd hrl
        go_wp2_with (go_at_call 55; refine (HC.out _).mono ?_; rintro e w1 ⟨rfl, rfl⟩)
        go_ret
        exact ⟨by rw [HE.out]; rfl, _, rfl⟩
      · have HT' := Lib.hid (stTo_step HT.out hr.out hbk)
        rw [hbk] at HC
        clear hbk hr hrd hrl
        go_wp2_with (go_at_call 55; refine (HC.out _).mono ?_; rintro e w1 ⟨rfl, rfl⟩)
        go_roundw
        case rel => exact ⟨k + 1, _, by omega, by go_num, rfl, HT'⟩
        case measure => simp [intOf]; omega
    · obtain rfl : k = rows.length := by omega
      have HE := Lib.hid (stTo_all HT.out)
      have HI := Lib.hid (fun w1 => inRange_any (rows.length : Int) 1 4 w1)
      go_wp2_with (go_at_call 45; refine (HI.out _).mono ?_; rintro e w1 ⟨rfl, rfl⟩)
      go_ret
      exact ⟨by rw [HE.out]; rfl, _, rfl⟩

set_option maxHeartbeats 400000 in
theorem SValidStages_any (A : Option Addr) (c : Nat) (rows : List (List Int)) (w : World) (h : RdR w A c rows) (hl : rows.length ≤ 1099511627776) (hl2 : ∀ r ∈ rows, r.length ≤ 1099511627776) :
    Calls Try.prog 12 #[.slice A rows.length c] w fun e w' => e = .returned (.bool (vsB rows)) ∧ ∃ n, w' = w.drewN n := by
  have HC := Lib.hid (validStages_any A c rows w h hl hl2)
  go_enter Try.func12, Try.ntmps12
  go_wp2_with (go_at_call 32; refine HC.out.mono ?_; rintro e w1 ⟨rfl, m, rfl⟩)
  go_ret
  exact ⟨rfl, m, rfl⟩
end Go.Proofs.Ytnojlapjkdihmab

/-
  The walk of the exact law of ValidStages.
-/
namespace Go.Proofs.Ytnojlapjkdihmab
open Go.RowKit

set_option maxRecDepth 100000 in
set_option maxHeartbeats 4000000 in
theorem fnExactValidStages_walk {A : Option Addr} {c : Nat} {rows : List (List Int)} {w : World} (h0 : CameR w A c rows) :
    Calls Try.prog 3 #[.slice A rows.length c] w fun e w' => e = .returned (.bool true) ∧ Below w.heap.size w w' := by
  have h := h0.1
  have HSZ := Lib.hid (szIntSS_any A c rows w h h0.2.1 h0.2.2)
  obtain ⟨v, hv⟩ : ∃ v, v = vsB rows := ⟨_, rfl⟩
  have HS : Hid (rows.length ≤ 1099511627776 → (∀ r ∈ rows, r.length ≤ 1099511627776) → ∀ A c w, RdR w A c rows → Calls Try.prog 12 #[.slice A rows.length c] w fun e w' => e = .returned (.bool v) ∧ Below w.heap.size w w') :=
    Lib.hid (fun h1 h2 A c w hR => by rw [hv]; exact (SValidStages_any A c rows w hR h1 h2).mono fun e w' ⟨he, n, hn⟩ => ⟨he, by rw [hn]; exact below_drewN' (Below.refl _ _) n⟩)
  have HI : Hid (rows.length ≤ 1099511627776 → (∀ r ∈ rows, r.length ≤ 1099511627776) → ∀ A c w, RdR w A c rows → Calls Try.prog 14 #[.slice A rows.length c] w fun e w' => e = .returned (.bool v) ∧ Below w.heap.size w w') :=
    Lib.hid (fun h1 h2 A c w hR => by rw [hv]; exact (ValidStages_any A c rows w hR h1 h2).mono fun e w' ⟨he, n, hn⟩ => ⟨he, by rw [hn]; exact below_drewN' (Below.refl _ _) n⟩)
  have hvv : (v != v) = false := by simp
  clear h0 hv
  go_enter Try.func3, Try.ntmps3
  go_wp2_with fail
  refine HSZ.out.mono ?_
  rintro e w1 ⟨⟨z, rfl, hz⟩, n1, rfl⟩
  rcases hz with ⟨rfl, _⟩ | ⟨hz0, hs⟩
  · go_wp2
    go_ret
    exact ⟨rfl, below_drewN' (Below.refl _ _) n1⟩
  have hzn : decide (z < 0) = false := by simp; omega
  have HZ := Lib.hid hs
  have HS := Lib.hid (HS.out (by have := szR_len hs; omega) (szR_each hs))
  have HI := Lib.hid (HI.out (by have := szR_len hs; omega) (szR_each hs))
  clear hs HSZ hz0
  go_wp2_with fail
  refine (toIntSS_any A c rows (w.drewN n1) (h.drewN n1) HZ.out).mono ?_
  rintro e w2 ⟨v2, ps2, rfl, R2, hm2, b2⟩
  have B2 : Below w.heap.size w w2 := (below_drewN' (Below.refl _ w) n1).trans b2
  obtain ⟨A2, c2, rfl, hR2⟩ := R2.rdr hm2
  go_wp2_with fail
  refine (HS.out A2 c2 w2 hR2).mono ?_
  rintro e w3 ⟨rfl, b3⟩
  have B3 := B2.trans (b3.mono B2.size)
  clear R2 hm2 hR2 b2 b3 B2
  go_wp2_with fail
  refine (toIntSS_any A c rows w3 (h.below B3) HZ.out).mono ?_
  rintro e w4 ⟨v4, ps4, rfl, R4, hm4, b4⟩
  have B4 := B3.trans (b4.mono B3.size)
  obtain ⟨hpl, hps, hpe⟩ := nums_sz hm4 HZ.out
  have HPE := Lib.hid hpe
  have HM4 := Lib.hid hm4
  have hlen4 : ps4.length = rows.length := by have := congrArg List.length hm4; simpa using this
  obtain ⟨A4, c4, rfl, hR4⟩ := R4.rdr hm4
  clear hpe hm4
  go_wp2_with fail
  refine (HI.out A4 c4 w4 hR4).mono ?_
  rintro e w5 ⟨rfl, b5⟩
  have B5 := B4.trans (b5.mono B4.size)
  have R5 := R4.below b5
  clear R4 b5 hR4 b4 B4
  go_wp2_with fail
  refine (toIntSS_any A c rows w5 (h.below B5) HZ.out).mono ?_
  rintro e w7 ⟨v7, ps7, rfl, R7, hm7, b7⟩
  have B7 := B5.trans (b7.mono B5.size)
  have R57 := R5.below b7
  have HEQ : Hid (ps4.map (·.2.2) = ps7.map (·.2.2)) := Lib.hid (by rw [HM4.out, hm7])
  clear R5 B5 b7 hm7
  go_wp2_with fail
  refine (eqIntSSU w7 R57 R7 HEQ.out hpl HPE.out).mono ?_
  rintro e w8 ⟨rfl, b8⟩
  have B8 := B7.trans (b8.mono B7.size)
  go_wp2
  go_ret
  exact ⟨rfl, B8⟩

end Go.Proofs.Ytnojlapjkdihmab
