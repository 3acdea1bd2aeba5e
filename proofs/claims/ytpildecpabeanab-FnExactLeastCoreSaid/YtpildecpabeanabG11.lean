/-
  Chapter 8: markets of pairs: ValidRows of the program.
-/
import Derived.Test.YtpildecpabeanabG07
import Derived.Test.YtpildecpabeanabG02
import Derived.Test.YtpildecpabeanabMem
namespace Go.Proofs.Ytpildecpabeanab
open Go.RowKit

/-- A row of worths. -/
def wB (xs : List Int) : Bool := inR xs.length 1 4 && xs.all (fun x => inR x 0 12)
def VR (rows : List (List Int)) : Prop := (1 ≤ rows.length ∧ rows.length ≤ 4) ∧ ∀ r ∈ rows, r.length = (RW rows 0).length ∧ wB r = true
noncomputable def vrB (rows : List (List Int)) : Bool := @decide (VR rows) (Classical.propDecidable _)
theorem vr_true {rows : List (List Int)} (h : VR rows) : vrB rows = true := by unfold vrB; simp [h]
theorem vr_false {rows : List (List Int)} (h : ¬ VR rows) : vrB rows = false := by unfold vrB; simp [h]
theorem vr_iff {rows : List (List Int)} : vrB rows = true ↔ VR rows := by unfold vrB; simp
theorem vr_len {rows : List (List Int)} (h : ¬ (1 ≤ rows.length ∧ rows.length ≤ 4)) : vrB rows = false := vr_false (fun ho => h ho.1)
/-- What a row is asked. -/
def rokB (m : Nat) (r : List Int) : Bool := decide (r.length = m) && wB r
theorem vr_no {rows : List (List Int)} {k : Nat} {r : List Int} (hr : rows[k]? = some r) (h : rokB (RW rows 0).length r = false) : vrB rows = false := vr_false (fun ho => by
  have := ho.2 r (List.mem_of_getElem? hr)
  simp [rokB, this.1, this.2] at h)
def rokTo (rows : List (List Int)) (k : Nat) : Prop := ∀ (j : Nat) (r : List Int), j < k → rows[j]? = some r → rokB (RW rows 0).length r = true
theorem rokTo_step {rows : List (List Int)} {k : Nat} {r : List Int} (h : rokTo rows k) (hr : rows[k]? = some r) (hb : rokB (RW rows 0).length r = true) : rokTo rows (k + 1) := by
  intro j x hj hx
  rcases Nat.lt_or_ge j k with h' | h'
  · exact h j x h' hx
  · obtain rfl : j = k := by omega
    rw [hr] at hx; cases hx; exact hb
theorem rokTo_zero (rows : List (List Int)) : rokTo rows 0 := fun j r hj => absurd hj (by omega)
theorem rokTo_all {rows : List (List Int)} (h : rokTo rows rows.length) (hl : 1 ≤ rows.length ∧ rows.length ≤ 4) : vrB rows = true := vr_true (⟨hl, fun r hr => by
  obtain ⟨k, hk, rfl⟩ := List.getElem_of_mem hr
  have := h k _ hk (List.getElem?_eq_getElem hk)
  simp only [rokB, Bool.and_eq_true, decide_eq_true_eq] at this
  exact this⟩)
theorem wB_bad {xs : List Int} (h : xs.all (fun x => inR x 0 12) = false) : wB xs = false := by simp only [wB, h, Bool.and_false]
theorem wB_all {xs : List Int} (h : (xs.take xs.length).all (fun x => inR x 0 12) = true) : wB xs = inR xs.length 1 4 := by
  rw [List.take_length] at h; simp only [wB, h, Bool.and_true]
theorem wB_len {xs : List Int} (h : inR xs.length 1 4 = false) : wB xs = false := by simp only [wB, h, Bool.false_and]

theorem isWorth_any (n : Int) (w : World) :
    Calls Try.prog 88 #[.int .i64 n] w fun e w' => e = .returned (.bool (inR n 0 12)) ∧ w = w' := by
  by_cases h1 : 0 ≤ n
  · by_cases h2 : n ≤ 12
    · have HE := Lib.hid (inR_true.2 ⟨h1, h2⟩)
      go_enter Try.func88, Try.ntmps88
      go_wp2
      go_ret
      exact ⟨by rw [HE.out]; rfl, rfl⟩
    · have HE := Lib.hid (inR_false.2 (fun h : 0 ≤ n ∧ n ≤ 12 => h2 h.2))
      go_enter Try.func88, Try.ntmps88
      go_wp2
      go_ret
      exact ⟨by rw [HE.out]; rfl, rfl⟩
  · have HE := Lib.hid (inR_false.2 (fun h : 0 ≤ n ∧ n ≤ 12 => h1 h.1))
    go_enter Try.func88, Try.ntmps88
    go_wp2
    go_ret
    exact ⟨by rw [HE.out]; rfl, rfl⟩

set_option maxHeartbeats 400000 in
/-- areAll at worths. -/
theorem areWorths_any (A : Option Addr) (c : Nat) (xs : List Int) (w : World) (h : Rd w A c xs) (hl : xs.length ≤ 1099511627776) :
    Calls Try.prog 55 #[.slice A xs.length c, .int .i64 4, .func (.func 88) #[] #[]] w fun e w' => e = .returned (.bool (wB xs)) ∧ w = w' := by
  by_cases h1 : 1 ≤ xs.length
  · by_cases h2 : xs.length ≤ 4
    · have HR := Lib.hid (inR_true (n := (xs.length : Int)) (lo := 1) (hi := 4) |>.2 ⟨by omega, by omega⟩)
      go_enter Try.func55, Try.ntmps55
      go_wp2
      go_loop [20] (fun i => ∃ k : Nat, k ≤ xs.length ∧ i = .int .i64 k ∧ Hid ((xs.take k).all (fun x => inR x 0 12) = true)) (fun i => xs.length - (intOf i).toNat)
      case atStart => exact ⟨0, Nat.zero_le _, rfl, Lib.hid rfl⟩
      case round =>
        obtain ⟨k, hk, rfl, HT⟩ := hrel
        by_cases hlt : k < xs.length
        · obtain ⟨b, off, x, rfl, _, hx, hc⟩ := h.at_ hlt
          go_wp2_with fail
          refine (isWorth_any _ _).mono ?_
          rintro e w' ⟨rfl, rfl⟩
          cases hb : inR x 0 12 with
          | true =>
            have HT' := Lib.hid (all_step hx.out hb HT.out)
            clear hb
            go_wp2
            go_round
            case rel => exact ⟨k + 1, by omega, by go_num, HT'⟩
            case measure => simp [intOf]; omega
          | false =>
            have HE := Lib.hid (wB_bad (all_at (p := fun x => inR x 0 12) hx.out hb))
            clear hb
            go_wp2
            go_ret
            exact ⟨by rw [HE.out]; rfl, rfl⟩
        · obtain rfl : k = xs.length := by omega
          have HE := Lib.hid (wB_all HT.out)
          go_wp2
          go_ret
          exact ⟨by rw [HE.out, HR.out]; rfl, rfl⟩
    · have HE := Lib.hid (wB_len (inR_false (n := (xs.length : Int)) (lo := 1) (hi := 4) |>.2 (by omega)))
      go_enter Try.func55, Try.ntmps55
      go_wp2
      go_ret
      exact ⟨by rw [HE.out]; rfl, rfl⟩
  · have HE := Lib.hid (wB_len (inR_false (n := (xs.length : Int)) (lo := 1) (hi := 4) |>.2 (by omega)))
    go_enter Try.func55, Try.ntmps55
    go_wp2
    go_ret
    exact ⟨by rw [HE.out]; rfl, rfl⟩

set_option maxHeartbeats 400000 in
theorem rowOk_any (A A' : Option Addr) (c c' p : Nat) (rows : List (List Int)) (r : List Int) (w : World) (hR : RdR w A c rows) (h1 : 1 ≤ rows.length) (hb : w.cell? ⟨p, 0, none⟩ = some (.slice A rows.length c)) (h : Rd w A' c' r) (hl : rows.length ≤ 4) (hl2 : ∀ r ∈ rows, r.length ≤ 1099511627776) (hrl : r.length ≤ 1099511627776) :
    Calls Try.prog 87 #[.slice A' r.length c', .pointer (some ⟨p, 0, none⟩)] w fun e w' => e = .returned (.bool (rokB (RW rows 0).length r)) ∧ ∃ n, w' = w.drewN n := by
  obtain ⟨b, off, r0, A0, c0, rfl, hr0, hc0, hcap0, hrd0⟩ := hR.at_ (k := 0) h1
  have e0 : RW rows 0 = r0 := rw_of hr0.out
  have hr0l : r0.length ≤ 1099511627776 := hl2 r0 (List.mem_of_getElem? hr0.out)
  have HC := Lib.hid (areWorths_any A' c' r w h hrl)
  rw [e0]
  rw [Nat.add_zero] at hc0
  clear e0 hr0 hrd0
  by_cases he : r.length = r0.length
  · have HE : Hid (rokB r0.length r = wB r) := Lib.hid (by simp [rokB, he])
    have he' : (r.length : Int) = (r0.length : Int) := by omega
    clear he
    go_enter Try.func87, Try.ntmps87
    go_wp2_with (go_at_call 55; refine HC.out.mono ?_; rintro e w1 ⟨rfl, rfl⟩)
    go_ret
    exact ⟨by rw [HE.out]; rfl, 0, rfl⟩
  · have HE : Hid (rokB r0.length r = false) := Lib.hid (by simp [rokB, he])
    have he' : ¬ (r.length : Int) = (r0.length : Int) := by omega
    clear he
    go_enter Try.func87, Try.ntmps87
    go_wp2_with (go_at_call 55; refine HC.out.mono ?_; rintro e w1 ⟨rfl, rfl⟩)
    go_ret
    exact ⟨by rw [HE.out]; rfl, 0, rfl⟩

set_option maxHeartbeats 400000 in
theorem areMarket_any (A : Option Addr) (c p : Nat) (rows : List (List Int)) (w : World) (h : RdR w A c rows) (hb : w.cell? ⟨p, 0, none⟩ = some (.slice A rows.length c)) (hl : rows.length ≤ 1099511627776) (hl2 : ∀ r ∈ rows, r.length ≤ 1099511627776) :
    Calls Try.prog 76 #[.slice A rows.length c, .int .i64 4, .func (.func 87) #[] #[.pointer (some ⟨p, 0, none⟩)]] w fun e w' => e = .returned (.bool (vrB rows)) ∧ ∃ n, w' = w.drewN n := by
  by_cases h1 : rows.length < 1
  · have HE := Lib.hid (vr_len (rows := rows) (by omega))
    go_enter Try.func76, Try.ntmps76
    go_wp2
    go_ret
    exact ⟨by rw [HE.out]; rfl, 0, rfl⟩
  by_cases h4 : 4 < rows.length
  · have HE := Lib.hid (vr_len (rows := rows) (by omega))
    go_enter Try.func76, Try.ntmps76
    go_wp2
    go_ret
    exact ⟨by rw [HE.out]; rfl, 0, rfl⟩
  have h1' : 1 ≤ rows.length := by omega
  have h4' : rows.length ≤ 4 := by omega
  clear h1 h4
  go_enter Try.func76, Try.ntmps76
  go_wp2
  go_loopw [20] (fun i wr => ∃ k n : Nat, k ≤ rows.length ∧ i = .int .i64 k ∧ wr = w.drewN n ∧ Hid (rokTo rows k)) (fun i _ => rows.length - (intOf i).toNat)
  case atStart => exact ⟨0, 0, Nat.zero_le _, rfl, rfl, Lib.hid (rokTo_zero rows)⟩
  case round =>
    obtain ⟨k, n, hk, rfl, rfl, HT⟩ := hrel
    by_cases hlt : k < rows.length
    · obtain ⟨b, off, r, A', c', rfl, hr, hc, hcap, hrd⟩ := h.at_ hlt
      have hrl : r.length ≤ 1099511627776 := hl2 r (List.mem_of_getElem? hr.out)
      have HC : Hid (∀ n, Calls Try.prog 87 #[.slice A' r.length c', .pointer (some ⟨p, 0, none⟩)] (w.drewN n) fun e w' => e = .returned (.bool (rokB (RW rows 0).length r)) ∧ ∃ m, w' = (w.drewN n).drewN m) := Lib.hid (fun n => rowOk_any (some ⟨b, off, none⟩) A' c c' p rows r (w.drewN n) (h.drewN n) h1' hb (hrd.out.drewN n) h4' hl2 hrl)
      rcases hbk : rokB (RW rows 0).length r with _ | _
      · have HE := Lib.hid (vr_no hr.out hbk)
        rw [hbk] at HC
        clear hbk hr hrd hrl
        go_wp2_with (go_at_call 87; refine (HC.out _).mono ?_; rintro e w1 ⟨rfl, m, rfl⟩)
        go_ret
        exact ⟨by rw [HE.out]; rfl, _, rfl⟩
      · have HT' := Lib.hid (rokTo_step HT.out hr.out hbk)
        rw [hbk] at HC
        clear hbk hr hrd hrl
        go_wp2_with (go_at_call 87; refine (HC.out _).mono ?_; rintro e w1 ⟨rfl, m, rfl⟩)
        go_roundw
        case rel => exact ⟨k + 1, _, by omega, by go_num, rfl, HT'⟩
        case measure => simp [intOf]; omega
    · obtain rfl : k = rows.length := by omega
      have HE := Lib.hid (rokTo_all HT.out ⟨h1', h4'⟩)
      go_wp2
      go_ret
      exact ⟨by rw [HE.out]; rfl, _, rfl⟩

set_option maxHeartbeats 400000 in
theorem ValidRows_any (A : Option Addr) (c : Nat) (rows : List (List Int)) (w : World) (h : RdR w A c rows) (hl : rows.length ≤ 1099511627776) (hl2 : ∀ r ∈ rows, r.length ≤ 1099511627776) :
    Calls Try.prog 54 #[.slice A rows.length c] w fun e w' => e = .returned (.bool (vrB rows)) ∧ Below w.heap.size w w' := by
  have b1 := (Below.refl w.heap.size w).alloc (Nat.le_refl _) (.cells #[.slice A rows.length c] 32)
  have hc : (w.alloc (.cells #[.slice A rows.length c] 32)).cell? ⟨w.heap.size, 0, none⟩ = some (.slice A rows.length c) := by rw [World.cell?_alloc_new]; rfl
  have HC := Lib.hid (areMarket_any A c w.heap.size rows _ (h.below b1) hc hl hl2)
  have HB := Lib.hid b1
  clear b1 hc
  go_enter Try.func54, Try.ntmps54
  go_wp2_with (go_at_call 76; refine HC.out.mono ?_; rintro e w1 ⟨rfl, m, rfl⟩)
  go_ret
  exact ⟨rfl, below_drewN' HB.out m⟩
end Go.Proofs.Ytpildecpabeanab

/-
  Chapter 8: markets of pairs: validRows and ValidRows of the model.
-/
namespace Go.Proofs.Ytpildecpabeanab
open Go.RowKit

def sokTo (rows : List (List Int)) (k : Nat) : Prop := ∀ (j : Nat) (r : List Int), j < k → rows[j]? = some r → r.length = (RW rows 0).length ∧ r.all (fun x => inR x 0 12) = true
theorem sokTo_zero (rows : List (List Int)) : sokTo rows 0 := fun j r hj => absurd hj (by omega)
theorem sokTo_step {rows : List (List Int)} {k : Nat} {r : List Int} (h : sokTo rows k) (hr : rows[k]? = some r) (h1 : r.length = (RW rows 0).length) (h2 : (r.take r.length).all (fun x => inR x 0 12) = true) : sokTo rows (k + 1) := by
  intro j x hj hx
  rcases Nat.lt_or_ge j k with h' | h'
  · exact h j x h' hx
  · obtain rfl : j = k := by omega
    rw [hr] at hx; cases hx
    rw [List.take_length] at h2
    exact ⟨h1, h2⟩
theorem vr_bad {rows : List (List Int)} {k : Nat} {r : List Int} (hr : rows[k]? = some r) (h : r.all (fun x => inR x 0 12) = false) : vrB rows = false := vr_no hr (by simp [rokB, wB_bad h])
theorem vr_row {rows : List (List Int)} {k : Nat} {r : List Int} (hr : rows[k]? = some r) (h : ¬ r.length = (RW rows 0).length) : vrB rows = false := vr_no hr (by simp [rokB, h])
theorem sokTo_all {rows : List (List Int)} (h : sokTo rows rows.length) (h1 : 1 ≤ rows.length ∧ rows.length ≤ 4) : vrB rows = inR ((RW rows 0).length : Int) 1 4 := by
  cases hb : inR ((RW rows 0).length : Int) 1 4 with
  | true =>
    refine vr_true ⟨h1, fun r hr => ?_⟩
    obtain ⟨k, hk, rfl⟩ := List.getElem_of_mem hr
    obtain ⟨a, b⟩ := h k _ hk (List.getElem?_eq_getElem hk)
    refine ⟨a, ?_⟩
    simp only [wB, a, b, hb]; rfl
  | false =>
    refine vr_false (fun ho => ?_)
    have := (ho.2 _ (rw_mem (rows := rows) (i := 0) (by omega))).2
    simp only [wB, hb, Bool.false_and] at this
    cases this

set_option maxHeartbeats 800000 in
theorem validRows_any (A : Option Addr) (c : Nat) (rows : List (List Int)) (w : World) (h : RdR w A c rows) (hl : rows.length ≤ 1099511627776) (hl2 : ∀ r ∈ rows, r.length ≤ 1099511627776) :
    Calls Try.prog 84 #[.slice A rows.length c] w fun e w' => e = .returned (.bool (vrB rows)) ∧ ∃ n, w' = w.drewN n := by
  go_enter Try.func84, Try.ntmps84
  go_wp2
  go_loopw [3] (fun i wr => ∃ k n : Nat, k ≤ rows.length ∧ i = .int .i64 k ∧ wr = w.drewN n ∧ Hid (sokTo rows k)) (fun i _ => rows.length - (intOf i).toNat)
  case atStart => exact ⟨0, 0, Nat.zero_le _, rfl, rfl, Lib.hid (sokTo_zero rows)⟩
  case round =>
    obtain ⟨k, n, hk, rfl, rfl, HT⟩ := hrel
    by_cases hlt : k < rows.length
    · obtain ⟨b, off, r, A', c', rfl, hr, hc, hcap, hrd⟩ := h.at_ hlt
      obtain ⟨b0, off0, r0, A0, c0, hA0, hr0, hc0, hcap0, hrd0⟩ := h.at_ (k := 0) (by omega)
      cases hA0
      have e0 := Lib.hid (rw_of hr0.out)
      rw [Nat.add_zero] at hc0
      clear hr0 hrd0
      have hrl : r.length ≤ 1099511627776 := hl2 r (List.mem_of_getElem? hr.out)
      by_cases he : r.length = r0.length
      · have he' : (r.length : Int) = (r0.length : Int) := by omega
        have HEQ : Hid (r.length = (RW rows 0).length) := Lib.hid (by rw [e0.out]; exact he)
        clear he
        go_wp2_with fail
        go_quiet (fail)
        go_wp2
        go_loopw [4] (fun i wr => ∃ j m : Nat, j ≤ r.length ∧ i = .int .i64 j ∧ wr = w.drewN m ∧ Hid ((r.take j).all (fun x => inR x 0 12) = true)) (fun i _ => r.length - (intOf i).toNat)
        case atStart => exact ⟨0, _, Nat.zero_le _, rfl, World.drewN_drewN _ _ _, Lib.hid rfl⟩
        case round =>
          clear he' hc0 hcap0
          obtain ⟨j, m, hj, rfl, rfl, HJ⟩ := hrel
          by_cases hjl : j < r.length
          · obtain ⟨b2, o2, x, rfl, _, hx, hcx⟩ := hrd.out.at_ hjl
            cases hb : inR x 0 12 with
            | true =>
              have HB : Hid (∀ w1, Calls Try.prog 35 #[.int .i64 x, .int .i64 0, .int .i64 12] w1 fun e w' => e = .returned (.bool true) ∧ w1 = w') := Lib.hid (fun w1 => by have := inRange_any x 0 12 w1; rwa [hb] at this)
              have HT' := Lib.hid (all_step hx.out hb HJ.out)
              clear hb
              go_wp2_with (go_at_call 35; refine (HB.out _).mono ?_; rintro e w1 ⟨rfl, rfl⟩)
              go_roundw
              case rel => exact ⟨j + 1, _, by omega, by go_num, rfl, HT'⟩
              case measure => simp [intOf]; omega
            | false =>
              have HB : Hid (∀ w1, Calls Try.prog 35 #[.int .i64 x, .int .i64 0, .int .i64 12] w1 fun e w' => e = .returned (.bool false) ∧ w1 = w') := Lib.hid (fun w1 => by have := inRange_any x 0 12 w1; rwa [hb] at this)
              have HE := Lib.hid (vr_bad hr.out (all_at (p := fun x => inR x 0 12) hx.out hb))
              clear hb
              go_wp2_with (go_at_call 35; refine (HB.out _).mono ?_; rintro e w1 ⟨rfl, rfl⟩)
              go_ret
              exact ⟨by rw [HE.out]; rfl, _, rfl⟩
          · obtain rfl : j = r.length := by omega
            have HT' := Lib.hid (sokTo_step HT.out hr.out HEQ.out HJ.out)
            go_wp2
            go_roundw
            case rel => exact ⟨k + 1, _, by omega, by go_num, rfl, HT'⟩
            case measure => simp [intOf]; omega
      · have he' : ¬ (r.length : Int) = (r0.length : Int) := by omega
        have HE := Lib.hid (vr_row hr.out (by rw [e0.out]; exact he))
        clear he
        go_wp2_with fail
        go_quiet (fail)
        go_wp2
        go_ret
        exact ⟨by rw [HE.out]; rfl, _, World.drewN_drewN _ _ _⟩
    · obtain rfl : k = rows.length := by omega
      have HB := Lib.hid (inRange_any (rows.length : Int) 1 4)
      by_cases hlen : 1 ≤ rows.length ∧ rows.length ≤ 4
      · have HE := Lib.hid (sokTo_all HT.out hlen)
        have HI : Hid (inR (rows.length : Int) 1 4 = true) := Lib.hid (inR_true.2 (by omega))
        rw [HI.out] at HB
        obtain ⟨b0, off0, r0, A0, c0, hA0, hr0, hc0, hcap0, hrd0⟩ := h.at_ (k := 0) (by omega)
        have e0 := rw_of hr0.out
        rw [e0] at HE
        subst hA0
        rw [Nat.add_zero] at hc0
        have HB0 := Lib.hid (inRange_any (r0.length : Int) 1 4)
        have h1l : 1 ≤ rows.length := hlen.1
        clear hlen e0 hr0 hrd0 HI
        go_wp2_with (go_at_call 35; first | ((with_reducible refine (HB.out _).mono ?_); rintro e w1 ⟨rfl, rfl⟩) | ((with_reducible refine (HB0.out _).mono ?_); rintro e w1 ⟨rfl, rfl⟩))
        go_ret
        exact ⟨by rw [HE.out]; rfl, _, rfl⟩
      · have HE := Lib.hid (vr_len hlen)
        have HI : Hid (inR (rows.length : Int) 1 4 = false) := Lib.hid (inR_false.2 (by omega))
        rw [HI.out] at HB
        clear hlen HI
        go_wp2_with (go_at_call 35; refine (HB.out _).mono ?_; rintro e w1 ⟨rfl, rfl⟩)
        go_ret
        exact ⟨by rw [HE.out]; rfl, _, rfl⟩

end Go.Proofs.Ytpildecpabeanab

/-
  Chapter 8, plain: the best pairs of bidders and things.
-/
namespace Go.Proofs.Ytpildecpabeanab

/-- What is taken when a thing is had, too: the number of things is none. -/
def nxU (m u j : Nat) : Nat := if j < m then u + 2 ^ j else u
/-- A thing is taken. -/
def isTk (m u j : Nat) : Bool := decide (j < m ∧ u / 2 ^ j % 2 = 1)
def optP (rest : Nat → Int × List Nat) (r : List Int) (u j : Nat) : Int × List Nat := (r.getD j 0 + (rest (nxU r.length u j)).1, j :: (rest (nxU r.length u j)).2)
/-- The best of the first k things of a bidder. -/
def pbTo (rest : Nat → Int × List Nat) (r : List Int) (u : Nat) : Nat → Int × List Nat
  | 0 => (-1, [])
  | k + 1 => if isTk r.length u k = true then pbTo rest r u k else if (pbTo rest r u k).1 < (optP rest r u k).1 then optP rest r u k else pbTo rest r u k
/-- The best pairs of bidders without the things that are taken: the sum, and who has what. -/
def pb : List (List Int) → Nat → Int × List Nat
  | [], _ => (0, [])
  | r :: rs, u => pbTo (pb rs) r u (r.length + 1)

/-- Rows of as many numbers, none below 0. -/
def Rk (m : Nat) (rows : List (List Int)) : Prop := ∀ r ∈ rows, r.length = m ∧ ∀ j, 0 ≤ r.getD j 0
theorem Rk.head {m : Nat} {r : List Int} {rs : List (List Int)} (h : Rk m (r :: rs)) : r.length = m ∧ ∀ j, 0 ≤ r.getD j 0 := h r (by simp)
theorem Rk.tail {m : Nat} {r : List Int} {rs : List (List Int)} (h : Rk m (r :: rs)) : Rk m rs := fun x hx => h x (by simp [hx])

theorem pbTo_is (rest : Nat → Int × List Nat) (r : List Int) (u k : Nat) (h0 : ∀ j u', 0 ≤ r.getD j 0 + (rest u').1) :
    ((pbTo rest r u k = (-1, []) ∧ ∀ j, j < k → isTk r.length u j = true) ∨ ∃ j, j < k ∧ isTk r.length u j = false ∧ pbTo rest r u k = optP rest r u j) ∧
    ∀ j, j < k → isTk r.length u j = false → (optP rest r u j).1 ≤ (pbTo rest r u k).1 := by
  induction k with
  | zero => exact ⟨.inl ⟨rfl, fun j hj => absurd hj (by omega)⟩, fun j hj => absurd hj (by omega)⟩
  | succ k ih =>
    obtain ⟨a, b⟩ := ih
    unfold pbTo
    cases ht : isTk r.length u k with
    | true =>
      rw [if_pos rfl]
      refine ⟨?_, fun j hj hf => ?_⟩
      · rcases a with ⟨a1, a2⟩ | ⟨j, hj, hf, e⟩
        · refine .inl ⟨a1, fun j hj => ?_⟩
          rcases Nat.lt_or_ge j k with h | h
          · exact a2 j h
          · obtain rfl : j = k := by omega
            exact ht
        · exact .inr ⟨j, by omega, hf, e⟩
      · rcases Nat.lt_or_ge j k with h | h
        · exact b j h hf
        · obtain rfl : j = k := by omega
          rw [ht] at hf; exact absurd hf (by simp)
    | false =>
      rw [if_neg (by simp)]
      have hn : 0 ≤ (optP rest r u k).1 := h0 k _
      by_cases hlt : (pbTo rest r u k).1 < (optP rest r u k).1
      · rw [if_pos hlt]
        refine ⟨.inr ⟨k, by omega, ht, rfl⟩, fun j hj hf => ?_⟩
        rcases Nat.lt_or_ge j k with h | h
        · have := b j h hf; omega
        · obtain rfl : j = k := by omega
          exact Int.le_refl _
      · rw [if_neg hlt]
        refine ⟨?_, fun j hj hf => ?_⟩
        · rcases a with ⟨a1, a2⟩ | ⟨j, hj, hf, e⟩
          · rw [a1] at hlt; simp only at hlt; omega
          · exact .inr ⟨j, by omega, hf, e⟩
        · rcases Nat.lt_or_ge j k with h | h
          · exact b j h hf
          · obtain rfl : j = k := by omega
            omega

theorem pb_nonneg {m : Nat} {rows : List (List Int)} (h : Rk m rows) : ∀ u, 0 ≤ (pb rows u).1 := by
  induction rows with
  | nil => intro u; simp [pb]
  | cons r rs ih =>
    intro u
    have hr := h.head
    have i1 := ih h.tail
    have h0 : ∀ j u', 0 ≤ r.getD j 0 + (pb rs u').1 := fun j u' => by have := hr.2 j; have := i1 u'; omega
    have := (pbTo_is (pb rs) r u (r.length + 1) h0).2 r.length (by omega) (by simp [isTk])
    have h2 := h0 r.length (nxU r.length u r.length)
    simp only [optP] at this
    show 0 ≤ (pbTo (pb rs) r u (r.length + 1)).1
    omega
theorem pb_step {m : Nat} {r : List Int} {rs : List (List Int)} (h : Rk m (r :: rs)) (u : Nat) :
    (∃ j, j ≤ m ∧ isTk m u j = false ∧ pb (r :: rs) u = (r.getD j 0 + (pb rs (nxU m u j)).1, j :: (pb rs (nxU m u j)).2)) ∧
    ∀ j, j ≤ m → isTk m u j = false → r.getD j 0 + (pb rs (nxU m u j)).1 ≤ (pb (r :: rs) u).1 := by
  have hr := h.head
  have i1 := pb_nonneg h.tail
  have h0 : ∀ j u', 0 ≤ r.getD j 0 + (pb rs u').1 := fun j u' => by have := hr.2 j; have := i1 u'; omega
  have hm := hr.1
  obtain ⟨a, b⟩ := pbTo_is (pb rs) r u (r.length + 1) h0
  rw [hm] at a b
  constructor
  · rcases a with ⟨_, a2⟩ | ⟨j, hj, hf, e⟩
    · have := a2 m (by omega); simp [isTk] at this
    · refine ⟨j, by omega, hf, ?_⟩
      have e' : pb (r :: rs) u = pbTo (pb rs) r u (m + 1) := by rw [pb, hm]
      rw [e', e, optP, hm]
  · intro j hj hf
    have := b j (by omega) hf
    have e' : pb (r :: rs) u = pbTo (pb rs) r u (m + 1) := by rw [pb, hm]
    rw [e']
    simp only [optP, hm] at this
    exact this
/-- What a bidder more brings when it takes none: nothing less. -/
theorem pb_none {m : Nat} {r : List Int} {rs : List (List Int)} (h : Rk m (r :: rs)) (u : Nat) : (pb rs u).1 ≤ (pb (r :: rs) u).1 := by
  have := (pb_step h u).2 m (Nat.le_refl _) (by simp [isTk])
  have h2 := h.head.2 m
  simp only [nxU, Nat.lt_irrefl, if_false] at this
  omega

/-- Who has what: no thing that is taken, and none twice. -/
def Mt (m : Nat) : List (List Int) → Nat → List Nat → Prop
  | [], _, js => js = []
  | _ :: rs, u, js => ∃ j js', js = j :: js' ∧ j ≤ m ∧ isTk m u j = false ∧ Mt m rs (nxU m u j) js'
/-- What it is worth. -/
def vl : List (List Int) → List Nat → Int
  | r :: rs, j :: js => r.getD j 0 + vl rs js
  | _, _ => 0
theorem pb_mt {m : Nat} {rows : List (List Int)} (h : Rk m rows) : ∀ u, Mt m rows u (pb rows u).2 ∧ vl rows (pb rows u).2 = (pb rows u).1 := by
  induction rows with
  | nil => intro u; simp [pb, Mt, vl]
  | cons r rs ih =>
    intro u
    obtain ⟨⟨j, hj, hf, e⟩, _⟩ := pb_step h u
    obtain ⟨a, b⟩ := ih h.tail (nxU m u j)
    rw [e]
    exact ⟨⟨j, _, rfl, hj, hf, a⟩, by simp only [vl]; rw [b]⟩
theorem mt_le {m : Nat} {rows : List (List Int)} (h : Rk m rows) : ∀ u js, Mt m rows u js → vl rows js ≤ (pb rows u).1 := by
  induction rows with
  | nil => intro u js _; simp [pb, vl]
  | cons r rs ih =>
    intro u js hm
    obtain ⟨j, js', rfl, hj, hf, hm'⟩ := hm
    have a := ih h.tail _ _ hm'
    have b := (pb_step h u).2 j hj hf
    simp only [vl]
    omega
theorem mt_len {m : Nat} {rows : List (List Int)} : ∀ (u : Nat) (js : List Nat), Mt m rows u js → js.length = rows.length := by
  induction rows with
  | nil => intro u js h; rw [Mt] at h; rw [h]; rfl
  | cons r rs ih =>
    intro u js h
    obtain ⟨j, js', rfl, _, _, h'⟩ := h
    simp [ih _ _ h']
theorem mt_each {m : Nat} {rows : List (List Int)} : ∀ u js, Mt m rows u js → ∀ j ∈ js, j ≤ m := by
  induction rows with
  | nil => intro u js h j hj; rw [Mt] at h; rw [h] at hj; exact absurd hj (by simp)
  | cons r rs ih =>
    intro u js h j hj
    obtain ⟨i, js', rfl, hi, _, h'⟩ := h
    rcases List.mem_cons.1 hj with rfl | hj
    · exact hi
    · exact ih _ _ h' j hj
theorem pb_len {m : Nat} {rows : List (List Int)} (h : Rk m rows) (u : Nat) : (pb rows u).2.length = rows.length := mt_len _ _ (pb_mt h u).1

/-- Numbers of up to four things. -/
theorem nx_tk {m u j : Nat} (hm : m ≤ 4) (hu : u < 16) (_ : j ≤ m) (hf : isTk m u j = false) : nxU m u j < 16 ∧ ∀ k, isTk m (nxU m u j) k = (isTk m u k || decide (j < m ∧ k = j)) := by
  unfold nxU
  by_cases hjm : j < m
  · rw [if_pos hjm]
    have hb : u / 2 ^ j % 2 = 0 := by
      simp only [isTk, decide_eq_false_iff_not, hjm, true_and] at hf; omega
    have key : ∀ (u : Fin 16) (j : Fin 4), u.1 / 2 ^ j.1 % 2 = 0 → u.1 + 2 ^ j.1 < 16 ∧ ∀ k : Fin 4, ((u.1 + 2 ^ j.1) / 2 ^ k.1 % 2 = 1 ↔ (u.1 / 2 ^ k.1 % 2 = 1 ∨ k.1 = j.1)) := by decide
    obtain ⟨a, b⟩ := key ⟨u, hu⟩ ⟨j, by omega⟩ hb
    refine ⟨a, fun k => ?_⟩
    by_cases hk : k < m
    · have := b ⟨k, by omega⟩
      simp only at this
      simp only [isTk, hk, true_and, hjm]
      by_cases h1 : u / 2 ^ k % 2 = 1 <;> by_cases h2 : k = j <;> simp_all
    · have : k ≠ j := by omega
      simp [isTk, hk, this]
  · rw [if_neg hjm]
    exact ⟨hu, fun k => by simp [hjm]⟩

theorem mt_no {m : Nat} (hm : m ≤ 4) {rows : List (List Int)} : ∀ (u : Nat) (js : List Nat), u < 16 → Mt m rows u js → ∀ j ∈ js, isTk m u j = false := by
  induction rows with
  | nil => intro u js _ h j hj; rw [Mt] at h; rw [h] at hj; exact absurd hj (by simp)
  | cons r rs ih =>
    intro u js hu h j hj
    obtain ⟨i, js', rfl, hi, hf, h'⟩ := h
    rcases List.mem_cons.1 hj with rfl | hj
    · exact hf
    · obtain ⟨h1, h2⟩ := nx_tk hm hu hi hf
      have := ih _ _ h1 h' j hj
      rw [h2 j] at this
      simp only [Bool.or_eq_false_iff] at this
      exact this.1
/-- No thing is had twice. -/
theorem mt_once {m : Nat} (hm : m ≤ 4) {rows : List (List Int)} : ∀ (u : Nat) (js : List Nat), u < 16 → Mt m rows u js → ∀ (i k x y : Nat), i < k → js[i]? = some x → js[k]? = some y → x = y → m ≤ x := by
  induction rows with
  | nil => intro u js _ h i k x y _ hx; rw [Mt] at h; rw [h] at hx; simp at hx
  | cons r rs ih =>
    intro u js hu h i k x y hik hx hy hxy
    obtain ⟨j, js', rfl, hj, hf, h'⟩ := h
    obtain ⟨h1, h2⟩ := nx_tk hm hu hj hf
    obtain ⟨k', rfl⟩ : ∃ k', k = k' + 1 := ⟨k - 1, by omega⟩
    rw [List.getElem?_cons_succ] at hy
    cases i with
    | zero =>
      rw [List.getElem?_cons_zero] at hx
      obtain rfl : j = x := by simpa using hx
      have := mt_no hm _ _ h1 h' y (List.mem_of_getElem? hy)
      rw [h2 y, ← hxy] at this
      simp only [Bool.or_eq_false_iff, decide_eq_false_iff_not] at this
      exact Nat.le_of_not_lt (fun hlt => this.2 ⟨by omega, trivial⟩)
    | succ i' =>
      rw [List.getElem?_cons_succ] at hx
      exact ih _ _ h1 h' i' k' x y (by omega) hx hy hxy

/-- Less may be had where more is taken. -/
theorem mt_less {m : Nat} (hm : m ≤ 4) {rows : List (List Int)} : ∀ (u v : Nat) (js : List Nat), u < 16 → v < 16 → (∀ k, isTk m v k = true → isTk m u k = true) → Mt m rows u js → Mt m rows v js := by
  induction rows with
  | nil => intro u v js _ _ _ h; exact h
  | cons r rs ih =>
    intro u v js hu hv hs h
    obtain ⟨j, js', rfl, hj, hf, h'⟩ := h
    have hf' : isTk m v j = false := by
      cases hv' : isTk m v j with
      | false => rfl
      | true => rw [hs j hv'] at hf; exact absurd hf (by simp)
    obtain ⟨h1, h2⟩ := nx_tk hm hu hj hf
    obtain ⟨h3, h4⟩ := nx_tk hm hv hj hf'
    refine ⟨j, js', rfl, hj, hf', ih _ _ _ h1 h3 (fun k hk => ?_) h'⟩
    rw [h4 k] at hk; rw [h2 k]
    simp only [Bool.or_eq_true] at hk ⊢
    rcases hk with hk | hk
    · exact .inl (hs k hk)
    · exact .inr hk
/-- Without a bidder. -/
theorem mt_erase {m : Nat} (hm : m ≤ 4) {rows : List (List Int)} : ∀ (u : Nat) (js : List Nat) (i : Nat), u < 16 → Mt m rows u js → Mt m (rows.eraseIdx i) u (js.eraseIdx i) := by
  induction rows with
  | nil => intro u js i _ h; rw [Mt] at h; rw [h]; simp [Mt]
  | cons r rs ih =>
    intro u js i hu h
    obtain ⟨j, js', rfl, hj, hf, h'⟩ := h
    obtain ⟨h1, h2⟩ := nx_tk hm hu hj hf
    cases i with
    | zero =>
      simp only [List.eraseIdx_cons_zero]
      exact mt_less hm _ _ _ h1 hu (fun k hk => by rw [h2 k, hk]; rfl) h'
    | succ i =>
      simp only [List.eraseIdx_cons_succ]
      exact ⟨j, _, rfl, hj, hf, ih _ _ i h1 h'⟩
theorem vl_erase {rows : List (List Int)} : ∀ (js : List Nat) (i : Nat), js.length = rows.length → vl rows js = (if i < rows.length then (rows.getD i []).getD (js.getD i 0) 0 else 0) + vl (rows.eraseIdx i) (js.eraseIdx i) := by
  induction rows with
  | nil => intro js i h; simp [vl]
  | cons r rs ih =>
    intro js i h
    cases js with
    | nil => simp at h
    | cons j js =>
      cases i with
      | zero => simp [vl]
      | succ i =>
        have := ih js i (by simpa using h)
        simp only [List.eraseIdx_cons_succ, vl, List.length_cons, Nat.add_lt_add_iff_right, List.getD_cons_succ]
        omega
theorem rk_erase {m : Nat} {rows : List (List Int)} (h : Rk m rows) (i : Nat) : Rk m (rows.eraseIdx i) := fun r hr => h r (List.mem_of_mem_eraseIdx hr)
/-- A bidder less brings no more. -/
theorem pb_erase {m : Nat} (hm : m ≤ 4) {rows : List (List Int)} (h : Rk m rows) : ∀ u i, u < 16 → (pb (rows.eraseIdx i) u).1 ≤ (pb rows u).1 := by
  induction rows with
  | nil => intro u i _; simp
  | cons r rs ih =>
    intro u i hu
    cases i with
    | zero => exact pb_none h u
    | succ i =>
      simp only [List.eraseIdx_cons_succ]
      have hk : Rk m (r :: rs.eraseIdx i) := fun x hx => by
        rcases List.mem_cons.1 hx with rfl | hx
        · exact h.head
        · exact rk_erase h.tail i x hx
      obtain ⟨⟨j, hj, hf, e⟩, _⟩ := pb_step hk u
      obtain ⟨h1, _⟩ := nx_tk hm hu hj hf
      have a := ih h.tail _ i h1
      have b := (pb_step h u).2 j hj hf
      rw [e]
      simp only
      omega
/-- What is paid for pairs. -/
def ppF (rows : List (List Int)) (i : Nat) : Int := (pb (rows.eraseIdx i) 0).1 - ((pb rows 0).1 - (rows.getD i []).getD ((pb rows 0).2.getD i 0) 0)
theorem pp_bd {m : Nat} (hm : m ≤ 4) {rows : List (List Int)} (h : Rk m rows) {i : Nat} (hi : i < rows.length) : 0 ≤ ppF rows i ∧ ppF rows i ≤ (rows.getD i []).getD ((pb rows 0).2.getD i 0) 0 := by
  have a := pb_erase hm h 0 i (by omega)
  obtain ⟨b, c⟩ := pb_mt h 0
  have d := vl_erase (pb rows 0).2 i (pb_len h 0)
  rw [if_pos hi] at d
  have e := mt_le (rk_erase h i) 0 _ (mt_erase hm 0 _ i (by omega) b)
  unfold ppF
  omega
theorem pb_less {m : Nat} (hm : m ≤ 4) {rows : List (List Int)} (h : Rk m rows) {u v : Nat} (hu : u < 16) (hv : v < 16) (hs : ∀ k, isTk m v k = true → isTk m u k = true) : (pb rows u).1 ≤ (pb rows v).1 := by
  obtain ⟨a, b⟩ := pb_mt h u
  have := mt_le h v _ (mt_less hm u v _ hu hv hs a)
  omega
end Go.Proofs.Ytpildecpabeanab
