/-
  Chapter 8: markets of pairs: ValidRows of the program.
-/
import Derived.Test.YtccbjgajmjcpjabOne
import Derived.Test.YtccbjgajmjcpjabUc
import Derived.Test.YtccbjgajmjcpjabMem
import Derived.Test.YtccbjgajmjcpjabAp
namespace Go.Proofs.Ytccbjgajmjcpjab
open Go.RowKit

/-- A row of worths. -/
def wB (xs : List Int) : Bool := inR xs.length 1 4 && xs.all (fun x => inR x 0 12)
def VR (rows : List (List Int)) : Prop := (1 ≤ rows.length ∧ rows.length ≤ 4) ∧ ∀ r ∈ rows, r.length = (RW rows 0).length ∧ wB r = true
noncomputable def vrB (rows : List (List Int)) : Bool := @decide (VR rows) (Classical.propDecidable _)
theorem vr_true {rows : List (List Int)} (h : VR rows) : vrB rows = true := by unfold vrB; simp [h]
theorem vr_false {rows : List (List Int)} (h : ¬ VR rows) : vrB rows = false := by unfold vrB; simp [h]
theorem vr_iff {rows : List (List Int)} : vrB rows = true ↔ VR rows := by unfold vrB; simp
theorem vr_len {rows : List (List Int)} (h : ¬ (1 ≤ rows.length ∧ rows.length ≤ 4)) : vrB rows = false := vr_false (fun ho => h ho.1)
/-- What a row is asked. -/
def rokB (m : Nat) (r : List Int) : Bool := decide (r.length = m) && wB r
theorem vr_no {rows : List (List Int)} {k : Nat} {r : List Int} (hr : rows[k]? = some r) (h : rokB (RW rows 0).length r = false) : vrB rows = false := vr_false (fun ho => by
  have := ho.2 r (List.mem_of_getElem? hr)
  simp [rokB, this.1, this.2] at h)
def rokTo (rows : List (List Int)) (k : Nat) : Prop := ∀ (j : Nat) (r : List Int), j < k → rows[j]? = some r → rokB (RW rows 0).length r = true
theorem rokTo_step {rows : List (List Int)} {k : Nat} {r : List Int} (h : rokTo rows k) (hr : rows[k]? = some r) (hb : rokB (RW rows 0).length r = true) : rokTo rows (k + 1) := by
  intro j x hj hx
  rcases Nat.lt_or_ge j k with h' | h'
  · exact h j x h' hx
  · obtain rfl : j = k := by omega
    rw [hr] at hx; cases hx; exact hb
theorem rokTo_zero (rows : List (List Int)) : rokTo rows 0 := fun j r hj => absurd hj (by omega)
theorem rokTo_all {rows : List (List Int)} (h : rokTo rows rows.length) (hl : 1 ≤ rows.length ∧ rows.length ≤ 4) : vrB rows = true := vr_true (⟨hl, fun r hr => by
  obtain ⟨k, hk, rfl⟩ := List.getElem_of_mem hr
  have := h k _ hk (List.getElem?_eq_getElem hk)
  simp only [rokB, Bool.and_eq_true, decide_eq_true_eq] at this
  exact this⟩)
theorem wB_bad {xs : List Int} (h : xs.all (fun x => inR x 0 12) = false) : wB xs = false := by simp only [wB, h, Bool.and_false]
theorem wB_all {xs : List Int} (h : (xs.take xs.length).all (fun x => inR x 0 12) = true) : wB xs = inR xs.length 1 4 := by
  rw [List.take_length] at h; simp only [wB, h, Bool.and_true]
theorem wB_len {xs : List Int} (h : inR xs.length 1 4 = false) : wB xs = false := by simp only [wB, h, Bool.false_and]

theorem isWorth_any (n : Int) (w : World) :
    Calls Try.prog 146 #[.int .i64 n] w fun e w' => e = .returned (.bool (inR n 0 12)) ∧ w = w' := by
  by_cases h1 : 0 ≤ n
  · by_cases h2 : n ≤ 12
    · have HE := Lib.hid (inR_true.2 ⟨h1, h2⟩)
      go_enter Try.func146, Try.ntmps146
      go_wp2
      go_ret
      exact ⟨by rw [HE.out]; rfl, rfl⟩
    · have HE := Lib.hid (inR_false.2 (fun h : 0 ≤ n ∧ n ≤ 12 => h2 h.2))
      go_enter Try.func146, Try.ntmps146
      go_wp2
      go_ret
      exact ⟨by rw [HE.out]; rfl, rfl⟩
  · have HE := Lib.hid (inR_false.2 (fun h : 0 ≤ n ∧ n ≤ 12 => h1 h.1))
    go_enter Try.func146, Try.ntmps146
    go_wp2
    go_ret
    exact ⟨by rw [HE.out]; rfl, rfl⟩

set_option maxHeartbeats 400000 in
/-- areAll at worths. -/
theorem areWorths_any (A : Option Addr) (c : Nat) (xs : List Int) (w : World) (h : Rd w A c xs) (hl : xs.length ≤ 1099511627776) :
    Calls Try.prog 93 #[.slice A xs.length c, .int .i64 4, .func (.func 146) #[] #[]] w fun e w' => e = .returned (.bool (wB xs)) ∧ w = w' := by
  by_cases h1 : 1 ≤ xs.length
  · by_cases h2 : xs.length ≤ 4
    · have HR := Lib.hid (inR_true (n := (xs.length : Int)) (lo := 1) (hi := 4) |>.2 ⟨by omega, by omega⟩)
      go_enter Try.func93, Try.ntmps93
      go_wp2
      go_loop [20] (fun i => ∃ k : Nat, k ≤ xs.length ∧ i = .int .i64 k ∧ Hid ((xs.take k).all (fun x => inR x 0 12) = true)) (fun i => xs.length - (intOf i).toNat)
      case atStart => exact ⟨0, Nat.zero_le _, rfl, Lib.hid rfl⟩
      case round =>
        obtain ⟨k, hk, rfl, HT⟩ := hrel
        by_cases hlt : k < xs.length
        · obtain ⟨b, off, x, rfl, _, hx, hc⟩ := h.at_ hlt
          go_wp2_with fail
          refine (isWorth_any _ _).mono ?_
          rintro e w' ⟨rfl, rfl⟩
          cases hb : inR x 0 12 with
          | true =>
            have HT' := Lib.hid (all_step hx.out hb HT.out)
            clear hb
            go_wp2
            go_round
            case rel => exact ⟨k + 1, by omega, by go_num, HT'⟩
            case measure => simp [intOf]; omega
          | false =>
            have HE := Lib.hid (wB_bad (all_at (p := fun x => inR x 0 12) hx.out hb))
            clear hb
            go_wp2
            go_ret
            exact ⟨by rw [HE.out]; rfl, rfl⟩
        · obtain rfl : k = xs.length := by omega
          have HE := Lib.hid (wB_all HT.out)
          go_wp2
          go_ret
          exact ⟨by rw [HE.out, HR.out]; rfl, rfl⟩
    · have HE := Lib.hid (wB_len (inR_false (n := (xs.length : Int)) (lo := 1) (hi := 4) |>.2 (by omega)))
      go_enter Try.func93, Try.ntmps93
      go_wp2
      go_ret
      exact ⟨by rw [HE.out]; rfl, rfl⟩
  · have HE := Lib.hid (wB_len (inR_false (n := (xs.length : Int)) (lo := 1) (hi := 4) |>.2 (by omega)))
    go_enter Try.func93, Try.ntmps93
    go_wp2
    go_ret
    exact ⟨by rw [HE.out]; rfl, rfl⟩

set_option maxHeartbeats 400000 in
theorem rowOk_any (A A' : Option Addr) (c c' p : Nat) (rows : List (List Int)) (r : List Int) (w : World) (hR : RdR w A c rows) (h1 : 1 ≤ rows.length) (hb : w.cell? ⟨p, 0, none⟩ = some (.slice A rows.length c)) (h : Rd w A' c' r) (hl : rows.length ≤ 4) (hl2 : ∀ r ∈ rows, r.length ≤ 1099511627776) (hrl : r.length ≤ 1099511627776) :
    Calls Try.prog 145 #[.slice A' r.length c', .pointer (some ⟨p, 0, none⟩)] w fun e w' => e = .returned (.bool (rokB (RW rows 0).length r)) ∧ ∃ n, w' = w.drewN n := by
  obtain ⟨b, off, r0, A0, c0, rfl, hr0, hc0, hcap0, hrd0⟩ := hR.at_ (k := 0) h1
  have e0 : RW rows 0 = r0 := rw_of hr0.out
  have hr0l : r0.length ≤ 1099511627776 := hl2 r0 (List.mem_of_getElem? hr0.out)
  have HC := Lib.hid (areWorths_any A' c' r w h hrl)
  rw [e0]
  rw [Nat.add_zero] at hc0
  clear e0 hr0 hrd0
  by_cases he : r.length = r0.length
  · have HE : Hid (rokB r0.length r = wB r) := Lib.hid (by simp [rokB, he])
    have he' : (r.length : Int) = (r0.length : Int) := by omega
    clear he
    go_enter Try.func145, Try.ntmps145
    go_wp2_with (go_at_call 93; refine HC.out.mono ?_; rintro e w1 ⟨rfl, rfl⟩)
    go_ret
    exact ⟨by rw [HE.out]; rfl, 0, rfl⟩
  · have HE : Hid (rokB r0.length r = false) := Lib.hid (by simp [rokB, he])
    have he' : ¬ (r.length : Int) = (r0.length : Int) := by omega
    clear he
    go_enter Try.func145, Try.ntmps145
    go_wp2_with (go_at_call 93; refine HC.out.mono ?_; rintro e w1 ⟨rfl, rfl⟩)
    go_ret
    exact ⟨by rw [HE.out]; rfl, 0, rfl⟩

set_option maxHeartbeats 400000 in
theorem areMarket_any (A : Option Addr) (c p : Nat) (rows : List (List Int)) (w : World) (h : RdR w A c rows) (hb : w.cell? ⟨p, 0, none⟩ = some (.slice A rows.length c)) (hl : rows.length ≤ 1099511627776) (hl2 : ∀ r ∈ rows, r.length ≤ 1099511627776) :
    Calls Try.prog 140 #[.slice A rows.length c, .int .i64 4, .func (.func 145) #[] #[.pointer (some ⟨p, 0, none⟩)]] w fun e w' => e = .returned (.bool (vrB rows)) ∧ ∃ n, w' = w.drewN n := by
  by_cases h1 : rows.length < 1
  · have HE := Lib.hid (vr_len (rows := rows) (by omega))
    go_enter Try.func140, Try.ntmps140
    go_wp2
    go_ret
    exact ⟨by rw [HE.out]; rfl, 0, rfl⟩
  by_cases h4 : 4 < rows.length
  · have HE := Lib.hid (vr_len (rows := rows) (by omega))
    go_enter Try.func140, Try.ntmps140
    go_wp2
    go_ret
    exact ⟨by rw [HE.out]; rfl, 0, rfl⟩
  have h1' : 1 ≤ rows.length := by omega
  have h4' : rows.length ≤ 4 := by omega
  clear h1 h4
  go_enter Try.func140, Try.ntmps140
  go_wp2
  go_loopw [20] (fun i wr => ∃ k n : Nat, k ≤ rows.length ∧ i = .int .i64 k ∧ wr = w.drewN n ∧ Hid (rokTo rows k)) (fun i _ => rows.length - (intOf i).toNat)
  case atStart => exact ⟨0, 0, Nat.zero_le _, rfl, rfl, Lib.hid (rokTo_zero rows)⟩
  case round =>
    obtain ⟨k, n, hk, rfl, rfl, HT⟩ := hrel
    by_cases hlt : k < rows.length
    · obtain ⟨b, off, r, A', c', rfl, hr, hc, hcap, hrd⟩ := h.at_ hlt
      have hrl : r.length ≤ 1099511627776 := hl2 r (List.mem_of_getElem? hr.out)
      have HC : Hid (∀ n, Calls Try.prog 145 #[.slice A' r.length c', .pointer (some ⟨p, 0, none⟩)] (w.drewN n) fun e w' => e = .returned (.bool (rokB (RW rows 0).length r)) ∧ ∃ m, w' = (w.drewN n).drewN m) := Lib.hid (fun n => rowOk_any (some ⟨b, off, none⟩) A' c c' p rows r (w.drewN n) (h.drewN n) h1' hb (hrd.out.drewN n) h4' hl2 hrl)
      rcases hbk : rokB (RW rows 0).length r with _ | _
      · have HE := Lib.hid (vr_no hr.out hbk)
        rw [hbk] at HC
        clear hbk hr hrd hrl
        go_wp2_with (go_at_call 145; refine (HC.out _).mono ?_; rintro e w1 ⟨rfl, m, rfl⟩)
        go_ret
        exact ⟨by rw [HE.out]; rfl, _, rfl⟩
      · have HT' := Lib.hid (rokTo_step HT.out hr.out hbk)
        rw [hbk] at HC
        clear hbk hr hrd hrl
        go_wp2_with (go_at_call 145; refine (HC.out _).mono ?_; rintro e w1 ⟨rfl, m, rfl⟩)
        go_roundw
        case rel => exact ⟨k + 1, _, by omega, by go_num, rfl, HT'⟩
        case measure => simp [intOf]; omega
    · obtain rfl : k = rows.length := by omega
      have HE := Lib.hid (rokTo_all HT.out ⟨h1', h4'⟩)
      go_wp2
      go_ret
      exact ⟨by rw [HE.out]; rfl, _, rfl⟩

set_option maxHeartbeats 400000 in
theorem ValidRows_any (A : Option Addr) (c : Nat) (rows : List (List Int)) (w : World) (h : RdR w A c rows) (hl : rows.length ≤ 1099511627776) (hl2 : ∀ r ∈ rows, r.length ≤ 1099511627776) :
    Calls Try.prog 75 #[.slice A rows.length c] w fun e w' => e = .returned (.bool (vrB rows)) ∧ Below w.heap.size w w' := by
  have b1 := (Below.refl w.heap.size w).alloc (Nat.le_refl _) (.cells #[.slice A rows.length c] 23)
  have hc : (w.alloc (.cells #[.slice A rows.length c] 23)).cell? ⟨w.heap.size, 0, none⟩ = some (.slice A rows.length c) := by rw [World.cell?_alloc_new]; rfl
  have HC := Lib.hid (areMarket_any A c w.heap.size rows _ (h.below b1) hc hl hl2)
  have HB := Lib.hid b1
  clear b1 hc
  go_enter Try.func75, Try.ntmps75
  go_wp2_with (go_at_call 140; refine HC.out.mono ?_; rintro e w1 ⟨rfl, m, rfl⟩)
  go_ret
  exact ⟨rfl, below_drewN' HB.out m⟩
end Go.Proofs.Ytccbjgajmjcpjab

/-
  Chapter 8: markets of pairs: validRows and ValidRows of the model.
-/
namespace Go.Proofs.Ytccbjgajmjcpjab
open Go.RowKit

def sokTo (rows : List (List Int)) (k : Nat) : Prop := ∀ (j : Nat) (r : List Int), j < k → rows[j]? = some r → r.length = (RW rows 0).length ∧ r.all (fun x => inR x 0 12) = true
theorem sokTo_zero (rows : List (List Int)) : sokTo rows 0 := fun j r hj => absurd hj (by omega)
theorem sokTo_step {rows : List (List Int)} {k : Nat} {r : List Int} (h : sokTo rows k) (hr : rows[k]? = some r) (h1 : r.length = (RW rows 0).length) (h2 : (r.take r.length).all (fun x => inR x 0 12) = true) : sokTo rows (k + 1) := by
  intro j x hj hx
  rcases Nat.lt_or_ge j k with h' | h'
  · exact h j x h' hx
  · obtain rfl : j = k := by omega
    rw [hr] at hx; cases hx
    rw [List.take_length] at h2
    exact ⟨h1, h2⟩
theorem vr_bad {rows : List (List Int)} {k : Nat} {r : List Int} (hr : rows[k]? = some r) (h : r.all (fun x => inR x 0 12) = false) : vrB rows = false := vr_no hr (by simp [rokB, wB_bad h])
theorem vr_row {rows : List (List Int)} {k : Nat} {r : List Int} (hr : rows[k]? = some r) (h : ¬ r.length = (RW rows 0).length) : vrB rows = false := vr_no hr (by simp [rokB, h])
theorem sokTo_all {rows : List (List Int)} (h : sokTo rows rows.length) (h1 : 1 ≤ rows.length ∧ rows.length ≤ 4) : vrB rows = inR ((RW rows 0).length : Int) 1 4 := by
  cases hb : inR ((RW rows 0).length : Int) 1 4 with
  | true =>
    refine vr_true ⟨h1, fun r hr => ?_⟩
    obtain ⟨k, hk, rfl⟩ := List.getElem_of_mem hr
    obtain ⟨a, b⟩ := h k _ hk (List.getElem?_eq_getElem hk)
    refine ⟨a, ?_⟩
    simp only [wB, a, b, hb]; rfl
  | false =>
    refine vr_false (fun ho => ?_)
    have := (ho.2 _ (rw_mem (rows := rows) (i := 0) (by omega))).2
    simp only [wB, hb, Bool.false_and] at this
    cases this

set_option maxHeartbeats 800000 in
theorem validRows_any (A : Option Addr) (c : Nat) (rows : List (List Int)) (w : World) (h : RdR w A c rows) (hl : rows.length ≤ 1099511627776) (hl2 : ∀ r ∈ rows, r.length ≤ 1099511627776) :
    Calls Try.prog 167 #[.slice A rows.length c] w fun e w' => e = .returned (.bool (vrB rows)) ∧ ∃ n, w' = w.drewN n := by
  go_enter Try.func167, Try.ntmps167
  go_wp2
  go_loopw [3] (fun i wr => ∃ k n : Nat, k ≤ rows.length ∧ i = .int .i64 k ∧ wr = w.drewN n ∧ Hid (sokTo rows k)) (fun i _ => rows.length - (intOf i).toNat)
  case atStart => exact ⟨0, 0, Nat.zero_le _, rfl, rfl, Lib.hid (sokTo_zero rows)⟩
  case round =>
    obtain ⟨k, n, hk, rfl, rfl, HT⟩ := hrel
    by_cases hlt : k < rows.length
    · obtain ⟨b, off, r, A', c', rfl, hr, hc, hcap, hrd⟩ := h.at_ hlt
      obtain ⟨b0, off0, r0, A0, c0, hA0, hr0, hc0, hcap0, hrd0⟩ := h.at_ (k := 0) (by omega)
      cases hA0
      have e0 := Lib.hid (rw_of hr0.out)
      rw [Nat.add_zero] at hc0
      clear hr0 hrd0
      have hrl : r.length ≤ 1099511627776 := hl2 r (List.mem_of_getElem? hr.out)
      by_cases he : r.length = r0.length
      · have he' : (r.length : Int) = (r0.length : Int) := by omega
        have HEQ : Hid (r.length = (RW rows 0).length) := Lib.hid (by rw [e0.out]; exact he)
        clear he
        go_wp2_with fail
        go_quiet (fail)
        go_wp2
        go_loopw [4] (fun i wr => ∃ j m : Nat, j ≤ r.length ∧ i = .int .i64 j ∧ wr = w.drewN m ∧ Hid ((r.take j).all (fun x => inR x 0 12) = true)) (fun i _ => r.length - (intOf i).toNat)
        case atStart => exact ⟨0, _, Nat.zero_le _, rfl, World.drewN_drewN _ _ _, Lib.hid rfl⟩
        case round =>
          clear he' hc0 hcap0
          obtain ⟨j, m, hj, rfl, rfl, HJ⟩ := hrel
          by_cases hjl : j < r.length
          · obtain ⟨b2, o2, x, rfl, _, hx, hcx⟩ := hrd.out.at_ hjl
            cases hb : inR x 0 12 with
            | true =>
              have HB : Hid (∀ w1, Calls Try.prog 115 #[.int .i64 x, .int .i64 0, .int .i64 12] w1 fun e w' => e = .returned (.bool true) ∧ w1 = w') := Lib.hid (fun w1 => by have := inRange_any x 0 12 w1; rwa [hb] at this)
              have HT' := Lib.hid (all_step hx.out hb HJ.out)
              clear hb
              go_wp2_with (go_at_call 115; refine (HB.out _).mono ?_; rintro e w1 ⟨rfl, rfl⟩)
              go_roundw
              case rel => exact ⟨j + 1, _, by omega, by go_num, rfl, HT'⟩
              case measure => simp [intOf]; omega
            | false =>
              have HB : Hid (∀ w1, Calls Try.prog 115 #[.int .i64 x, .int .i64 0, .int .i64 12] w1 fun e w' => e = .returned (.bool false) ∧ w1 = w') := Lib.hid (fun w1 => by have := inRange_any x 0 12 w1; rwa [hb] at this)
              have HE := Lib.hid (vr_bad hr.out (all_at (p := fun x => inR x 0 12) hx.out hb))
              clear hb
              go_wp2_with (go_at_call 115; refine (HB.out _).mono ?_; rintro e w1 ⟨rfl, rfl⟩)
              go_ret
              exact ⟨by rw [HE.out]; rfl, _, rfl⟩
          · obtain rfl : j = r.length := by omega
            have HT' := Lib.hid (sokTo_step HT.out hr.out HEQ.out HJ.out)
            go_wp2
            go_roundw
            case rel => exact ⟨k + 1, _, by omega, by go_num, rfl, HT'⟩
            case measure => simp [intOf]; omega
      · have he' : ¬ (r.length : Int) = (r0.length : Int) := by omega
        have HE := Lib.hid (vr_row hr.out (by rw [e0.out]; exact he))
        clear he
        go_wp2_with fail
        go_quiet (fail)
        go_wp2
        go_ret
        exact ⟨by rw [HE.out]; rfl, _, World.drewN_drewN _ _ _⟩
    · obtain rfl : k = rows.length := by omega
      have HB := Lib.hid (inRange_any (rows.length : Int) 1 4)
      by_cases hlen : 1 ≤ rows.length ∧ rows.length ≤ 4
      · have HE := Lib.hid (sokTo_all HT.out hlen)
        have HI : Hid (inR (rows.length : Int) 1 4 = true) := Lib.hid (inR_true.2 (by omega))
        rw [HI.out] at HB
        obtain ⟨b0, off0, r0, A0, c0, hA0, hr0, hc0, hcap0, hrd0⟩ := h.at_ (k := 0) (by omega)
        have e0 := rw_of hr0.out
        rw [e0] at HE
        subst hA0
        rw [Nat.add_zero] at hc0
        have HB0 := Lib.hid (inRange_any (r0.length : Int) 1 4)
        have h1l : 1 ≤ rows.length := hlen.1
        clear hlen e0 hr0 hrd0 HI
        go_wp2_with (go_at_call 115; first | ((with_reducible refine (HB.out _).mono ?_); rintro e w1 ⟨rfl, rfl⟩) | ((with_reducible refine (HB0.out _).mono ?_); rintro e w1 ⟨rfl, rfl⟩))
        go_ret
        exact ⟨by rw [HE.out]; rfl, _, rfl⟩
      · have HE := Lib.hid (vr_len hlen)
        have HI : Hid (inR (rows.length : Int) 1 4 = false) := Lib.hid (inR_false.2 (by omega))
        rw [HI.out] at HB
        clear hlen HI
        go_wp2_with (go_at_call 115; refine (HB.out _).mono ?_; rintro e w1 ⟨rfl, rfl⟩)
        go_ret
        exact ⟨by rw [HE.out]; rfl, _, rfl⟩

end Go.Proofs.Ytccbjgajmjcpjab

/-
  Chapter 8, plain: the best pairs of bidders and things.
-/
namespace Go.Proofs.Ytccbjgajmjcpjab

/-- What is taken when a thing is had, too: the number of things is none. -/
def nxU (m u j : Nat) : Nat := if j < m then u + 2 ^ j else u
/-- A thing is taken. -/
def isTk (m u j : Nat) : Bool := decide (j < m ∧ u / 2 ^ j % 2 = 1)
def optP (rest : Nat → Int × List Nat) (r : List Int) (u j : Nat) : Int × List Nat := (r.getD j 0 + (rest (nxU r.length u j)).1, j :: (rest (nxU r.length u j)).2)
/-- The best of the first k things of a bidder. -/
def pbTo (rest : Nat → Int × List Nat) (r : List Int) (u : Nat) : Nat → Int × List Nat
  | 0 => (-1, [])
  | k + 1 => if isTk r.length u k = true then pbTo rest r u k else if (pbTo rest r u k).1 < (optP rest r u k).1 then optP rest r u k else pbTo rest r u k
/-- The best pairs of bidders without the things that are taken: the sum, and who has what. -/
def pb : List (List Int) → Nat → Int × List Nat
  | [], _ => (0, [])
  | r :: rs, u => pbTo (pb rs) r u (r.length + 1)

/-- Rows of as many numbers, none below 0. -/
def Rk (m : Nat) (rows : List (List Int)) : Prop := ∀ r ∈ rows, r.length = m ∧ ∀ j, 0 ≤ r.getD j 0
theorem Rk.head {m : Nat} {r : List Int} {rs : List (List Int)} (h : Rk m (r :: rs)) : r.length = m ∧ ∀ j, 0 ≤ r.getD j 0 := h r (by simp)
theorem Rk.tail {m : Nat} {r : List Int} {rs : List (List Int)} (h : Rk m (r :: rs)) : Rk m rs := fun x hx => h x (by simp [hx])

theorem pbTo_is (rest : Nat → Int × List Nat) (r : List Int) (u k : Nat) (h0 : ∀ j u', 0 ≤ r.getD j 0 + (rest u').1) :
    ((pbTo rest r u k = (-1, []) ∧ ∀ j, j < k → isTk r.length u j = true) ∨ ∃ j, j < k ∧ isTk r.length u j = false ∧ pbTo rest r u k = optP rest r u j) ∧
    ∀ j, j < k → isTk r.length u j = false → (optP rest r u j).1 ≤ (pbTo rest r u k).1 := by
  induction k with
  | zero => exact ⟨.inl ⟨rfl, fun j hj => absurd hj (by omega)⟩, fun j hj => absurd hj (by omega)⟩
  | succ k ih =>
    obtain ⟨a, b⟩ := ih
    unfold pbTo
    cases ht : isTk r.length u k with
    | true =>
      rw [if_pos rfl]
      refine ⟨?_, fun j hj hf => ?_⟩
      · rcases a with ⟨a1, a2⟩ | ⟨j, hj, hf, e⟩
        · refine .inl ⟨a1, fun j hj => ?_⟩
          rcases Nat.lt_or_ge j k with h | h
          · exact a2 j h
          · obtain rfl : j = k := by omega
            exact ht
        · exact .inr ⟨j, by omega, hf, e⟩
      · rcases Nat.lt_or_ge j k with h | h
        · exact b j h hf
        · obtain rfl : j = k := by omega
          rw [ht] at hf; exact absurd hf (by simp)
    | false =>
      rw [if_neg (by simp)]
      have hn : 0 ≤ (optP rest r u k).1 := h0 k _
      by_cases hlt : (pbTo rest r u k).1 < (optP rest r u k).1
      · rw [if_pos hlt]
        refine ⟨.inr ⟨k, by omega, ht, rfl⟩, fun j hj hf => ?_⟩
        rcases Nat.lt_or_ge j k with h | h
        · have := b j h hf; omega
        · obtain rfl : j = k := by omega
          exact Int.le_refl _
      · rw [if_neg hlt]
        refine ⟨?_, fun j hj hf => ?_⟩
        · rcases a with ⟨a1, a2⟩ | ⟨j, hj, hf, e⟩
          · rw [a1] at hlt; simp only at hlt; omega
          · exact .inr ⟨j, by omega, hf, e⟩
        · rcases Nat.lt_or_ge j k with h | h
          · exact b j h hf
          · obtain rfl : j = k := by omega
            omega

theorem pb_nonneg {m : Nat} {rows : List (List Int)} (h : Rk m rows) : ∀ u, 0 ≤ (pb rows u).1 := by
  induction rows with
  | nil => intro u; simp [pb]
  | cons r rs ih =>
    intro u
    have hr := h.head
    have i1 := ih h.tail
    have h0 : ∀ j u', 0 ≤ r.getD j 0 + (pb rs u').1 := fun j u' => by have := hr.2 j; have := i1 u'; omega
    have := (pbTo_is (pb rs) r u (r.length + 1) h0).2 r.length (by omega) (by simp [isTk])
    have h2 := h0 r.length (nxU r.length u r.length)
    simp only [optP] at this
    show 0 ≤ (pbTo (pb rs) r u (r.length + 1)).1
    omega
theorem pb_step {m : Nat} {r : List Int} {rs : List (List Int)} (h : Rk m (r :: rs)) (u : Nat) :
    (∃ j, j ≤ m ∧ isTk m u j = false ∧ pb (r :: rs) u = (r.getD j 0 + (pb rs (nxU m u j)).1, j :: (pb rs (nxU m u j)).2)) ∧
    ∀ j, j ≤ m → isTk m u j = false → r.getD j 0 + (pb rs (nxU m u j)).1 ≤ (pb (r :: rs) u).1 := by
  have hr := h.head
  have i1 := pb_nonneg h.tail
  have h0 : ∀ j u', 0 ≤ r.getD j 0 + (pb rs u').1 := fun j u' => by have := hr.2 j; have := i1 u'; omega
  have hm := hr.1
  obtain ⟨a, b⟩ := pbTo_is (pb rs) r u (r.length + 1) h0
  rw [hm] at a b
  constructor
  · rcases a with ⟨_, a2⟩ | ⟨j, hj, hf, e⟩
    · have := a2 m (by omega); simp [isTk] at this
    · refine ⟨j, by omega, hf, ?_⟩
      have e' : pb (r :: rs) u = pbTo (pb rs) r u (m + 1) := by rw [pb, hm]
      rw [e', e, optP, hm]
  · intro j hj hf
    have := b j (by omega) hf
    have e' : pb (r :: rs) u = pbTo (pb rs) r u (m + 1) := by rw [pb, hm]
    rw [e']
    simp only [optP, hm] at this
    exact this
/-- What a bidder more brings when it takes none: nothing less. -/
theorem pb_none {m : Nat} {r : List Int} {rs : List (List Int)} (h : Rk m (r :: rs)) (u : Nat) : (pb rs u).1 ≤ (pb (r :: rs) u).1 := by
  have := (pb_step h u).2 m (Nat.le_refl _) (by simp [isTk])
  have h2 := h.head.2 m
  simp only [nxU, Nat.lt_irrefl, if_false] at this
  omega

/-- Who has what: no thing that is taken, and none twice. -/
def Mt (m : Nat) : List (List Int) → Nat → List Nat → Prop
  | [], _, js => js = []
  | _ :: rs, u, js => ∃ j js', js = j :: js' ∧ j ≤ m ∧ isTk m u j = false ∧ Mt m rs (nxU m u j) js'
/-- What it is worth. -/
def vl : List (List Int) → List Nat → Int
  | r :: rs, j :: js => r.getD j 0 + vl rs js
  | _, _ => 0
theorem pb_mt {m : Nat} {rows : List (List Int)} (h : Rk m rows) : ∀ u, Mt m rows u (pb rows u).2 ∧ vl rows (pb rows u).2 = (pb rows u).1 := by
  induction rows with
  | nil => intro u; simp [pb, Mt, vl]
  | cons r rs ih =>
    intro u
    obtain ⟨⟨j, hj, hf, e⟩, _⟩ := pb_step h u
    obtain ⟨a, b⟩ := ih h.tail (nxU m u j)
    rw [e]
    exact ⟨⟨j, _, rfl, hj, hf, a⟩, by simp only [vl]; rw [b]⟩
theorem mt_le {m : Nat} {rows : List (List Int)} (h : Rk m rows) : ∀ u js, Mt m rows u js → vl rows js ≤ (pb rows u).1 := by
  induction rows with
  | nil => intro u js _; simp [pb, vl]
  | cons r rs ih =>
    intro u js hm
    obtain ⟨j, js', rfl, hj, hf, hm'⟩ := hm
    have a := ih h.tail _ _ hm'
    have b := (pb_step h u).2 j hj hf
    simp only [vl]
    omega
theorem mt_len {m : Nat} {rows : List (List Int)} : ∀ (u : Nat) (js : List Nat), Mt m rows u js → js.length = rows.length := by
  induction rows with
  | nil => intro u js h; rw [Mt] at h; rw [h]; rfl
  | cons r rs ih =>
    intro u js h
    obtain ⟨j, js', rfl, _, _, h'⟩ := h
    simp [ih _ _ h']
theorem mt_each {m : Nat} {rows : List (List Int)} : ∀ u js, Mt m rows u js → ∀ j ∈ js, j ≤ m := by
  induction rows with
  | nil => intro u js h j hj; rw [Mt] at h; rw [h] at hj; exact absurd hj (by simp)
  | cons r rs ih =>
    intro u js h j hj
    obtain ⟨i, js', rfl, hi, _, h'⟩ := h
    rcases List.mem_cons.1 hj with rfl | hj
    · exact hi
    · exact ih _ _ h' j hj
theorem pb_len {m : Nat} {rows : List (List Int)} (h : Rk m rows) (u : Nat) : (pb rows u).2.length = rows.length := mt_len _ _ (pb_mt h u).1

/-- Numbers of up to four things. -/
theorem nx_tk {m u j : Nat} (hm : m ≤ 4) (hu : u < 16) (_ : j ≤ m) (hf : isTk m u j = false) : nxU m u j < 16 ∧ ∀ k, isTk m (nxU m u j) k = (isTk m u k || decide (j < m ∧ k = j)) := by
  unfold nxU
  by_cases hjm : j < m
  · rw [if_pos hjm]
    have hb : u / 2 ^ j % 2 = 0 := by
      simp only [isTk, decide_eq_false_iff_not, hjm, true_and] at hf; omega
    have key : ∀ (u : Fin 16) (j : Fin 4), u.1 / 2 ^ j.1 % 2 = 0 → u.1 + 2 ^ j.1 < 16 ∧ ∀ k : Fin 4, ((u.1 + 2 ^ j.1) / 2 ^ k.1 % 2 = 1 ↔ (u.1 / 2 ^ k.1 % 2 = 1 ∨ k.1 = j.1)) := by decide
    obtain ⟨a, b⟩ := key ⟨u, hu⟩ ⟨j, by omega⟩ hb
    refine ⟨a, fun k => ?_⟩
    by_cases hk : k < m
    · have := b ⟨k, by omega⟩
      simp only at this
      simp only [isTk, hk, true_and, hjm]
      by_cases h1 : u / 2 ^ k % 2 = 1 <;> by_cases h2 : k = j <;> simp_all
    · have : k ≠ j := by omega
      simp [isTk, hk, this]
  · rw [if_neg hjm]
    exact ⟨hu, fun k => by simp [hjm]⟩

theorem mt_no {m : Nat} (hm : m ≤ 4) {rows : List (List Int)} : ∀ (u : Nat) (js : List Nat), u < 16 → Mt m rows u js → ∀ j ∈ js, isTk m u j = false := by
  induction rows with
  | nil => intro u js _ h j hj; rw [Mt] at h; rw [h] at hj; exact absurd hj (by simp)
  | cons r rs ih =>
    intro u js hu h j hj
    obtain ⟨i, js', rfl, hi, hf, h'⟩ := h
    rcases List.mem_cons.1 hj with rfl | hj
    · exact hf
    · obtain ⟨h1, h2⟩ := nx_tk hm hu hi hf
      have := ih _ _ h1 h' j hj
      rw [h2 j] at this
      simp only [Bool.or_eq_false_iff] at this
      exact this.1
/-- No thing is had twice. -/
theorem mt_once {m : Nat} (hm : m ≤ 4) {rows : List (List Int)} : ∀ (u : Nat) (js : List Nat), u < 16 → Mt m rows u js → ∀ (i k x y : Nat), i < k → js[i]? = some x → js[k]? = some y → x = y → m ≤ x := by
  induction rows with
  | nil => intro u js _ h i k x y _ hx; rw [Mt] at h; rw [h] at hx; simp at hx
  | cons r rs ih =>
    intro u js hu h i k x y hik hx hy hxy
    obtain ⟨j, js', rfl, hj, hf, h'⟩ := h
    obtain ⟨h1, h2⟩ := nx_tk hm hu hj hf
    obtain ⟨k', rfl⟩ : ∃ k', k = k' + 1 := ⟨k - 1, by omega⟩
    rw [List.getElem?_cons_succ] at hy
    cases i with
    | zero =>
      rw [List.getElem?_cons_zero] at hx
      obtain rfl : j = x := by simpa using hx
      have := mt_no hm _ _ h1 h' y (List.mem_of_getElem? hy)
      rw [h2 y, ← hxy] at this
      simp only [Bool.or_eq_false_iff, decide_eq_false_iff_not] at this
      exact Nat.le_of_not_lt (fun hlt => this.2 ⟨by omega, trivial⟩)
    | succ i' =>
      rw [List.getElem?_cons_succ] at hx
      exact ih _ _ h1 h' i' k' x y (by omega) hx hy hxy

/-- Less may be had where more is taken. -/
theorem mt_less {m : Nat} (hm : m ≤ 4) {rows : List (List Int)} : ∀ (u v : Nat) (js : List Nat), u < 16 → v < 16 → (∀ k, isTk m v k = true → isTk m u k = true) → Mt m rows u js → Mt m rows v js := by
  induction rows with
  | nil => intro u v js _ _ _ h; exact h
  | cons r rs ih =>
    intro u v js hu hv hs h
    obtain ⟨j, js', rfl, hj, hf, h'⟩ := h
    have hf' : isTk m v j = false := by
      cases hv' : isTk m v j with
      | false => rfl
      | true => rw [hs j hv'] at hf; exact absurd hf (by simp)
    obtain ⟨h1, h2⟩ := nx_tk hm hu hj hf
    obtain ⟨h3, h4⟩ := nx_tk hm hv hj hf'
    refine ⟨j, js', rfl, hj, hf', ih _ _ _ h1 h3 (fun k hk => ?_) h'⟩
    rw [h4 k] at hk; rw [h2 k]
    simp only [Bool.or_eq_true] at hk ⊢
    rcases hk with hk | hk
    · exact .inl (hs k hk)
    · exact .inr hk
/-- Without a bidder. -/
theorem mt_erase {m : Nat} (hm : m ≤ 4) {rows : List (List Int)} : ∀ (u : Nat) (js : List Nat) (i : Nat), u < 16 → Mt m rows u js → Mt m (rows.eraseIdx i) u (js.eraseIdx i) := by
  induction rows with
  | nil => intro u js i _ h; rw [Mt] at h; rw [h]; simp [Mt]
  | cons r rs ih =>
    intro u js i hu h
    obtain ⟨j, js', rfl, hj, hf, h'⟩ := h
    obtain ⟨h1, h2⟩ := nx_tk hm hu hj hf
    cases i with
    | zero =>
      simp only [List.eraseIdx_cons_zero]
      exact mt_less hm _ _ _ h1 hu (fun k hk => by rw [h2 k, hk]; rfl) h'
    | succ i =>
      simp only [List.eraseIdx_cons_succ]
      exact ⟨j, _, rfl, hj, hf, ih _ _ i h1 h'⟩
theorem vl_erase {rows : List (List Int)} : ∀ (js : List Nat) (i : Nat), js.length = rows.length → vl rows js = (if i < rows.length then (rows.getD i []).getD (js.getD i 0) 0 else 0) + vl (rows.eraseIdx i) (js.eraseIdx i) := by
  induction rows with
  | nil => intro js i h; simp [vl]
  | cons r rs ih =>
    intro js i h
    cases js with
    | nil => simp at h
    | cons j js =>
      cases i with
      | zero => simp [vl]
      | succ i =>
        have := ih js i (by simpa using h)
        simp only [List.eraseIdx_cons_succ, vl, List.length_cons, Nat.add_lt_add_iff_right, List.getD_cons_succ]
        omega
theorem rk_erase {m : Nat} {rows : List (List Int)} (h : Rk m rows) (i : Nat) : Rk m (rows.eraseIdx i) := fun r hr => h r (List.mem_of_mem_eraseIdx hr)
/-- A bidder less brings no more. -/
theorem pb_erase {m : Nat} (hm : m ≤ 4) {rows : List (List Int)} (h : Rk m rows) : ∀ u i, u < 16 → (pb (rows.eraseIdx i) u).1 ≤ (pb rows u).1 := by
  induction rows with
  | nil => intro u i _; simp
  | cons r rs ih =>
    intro u i hu
    cases i with
    | zero => exact pb_none h u
    | succ i =>
      simp only [List.eraseIdx_cons_succ]
      have hk : Rk m (r :: rs.eraseIdx i) := fun x hx => by
        rcases List.mem_cons.1 hx with rfl | hx
        · exact h.head
        · exact rk_erase h.tail i x hx
      obtain ⟨⟨j, hj, hf, e⟩, _⟩ := pb_step hk u
      obtain ⟨h1, _⟩ := nx_tk hm hu hj hf
      have a := ih h.tail _ i h1
      have b := (pb_step h u).2 j hj hf
      rw [e]
      simp only
      omega
/-- What is paid for pairs. -/
def ppF (rows : List (List Int)) (i : Nat) : Int := (pb (rows.eraseIdx i) 0).1 - ((pb rows 0).1 - (rows.getD i []).getD ((pb rows 0).2.getD i 0) 0)
theorem pp_bd {m : Nat} (hm : m ≤ 4) {rows : List (List Int)} (h : Rk m rows) {i : Nat} (hi : i < rows.length) : 0 ≤ ppF rows i ∧ ppF rows i ≤ (rows.getD i []).getD ((pb rows 0).2.getD i 0) 0 := by
  have a := pb_erase hm h 0 i (by omega)
  obtain ⟨b, c⟩ := pb_mt h 0
  have d := vl_erase (pb rows 0).2 i (pb_len h 0)
  rw [if_pos hi] at d
  have e := mt_le (rk_erase h i) 0 _ (mt_erase hm 0 _ i (by omega) b)
  unfold ppF
  omega
theorem pb_less {m : Nat} (hm : m ≤ 4) {rows : List (List Int)} (h : Rk m rows) {u v : Nat} (hu : u < 16) (hv : v < 16) (hs : ∀ k, isTk m v k = true → isTk m u k = true) : (pb rows u).1 ≤ (pb rows v).1 := by
  obtain ⟨a, b⟩ := pb_mt h u
  have := mt_le h v _ (mt_less hm u v _ hu hv hs a)
  omega
end Go.Proofs.Ytccbjgajmjcpjab

/-
  Chapter 8: the model's power and bit of four things, and its best pairs.
-/
namespace Go.Proofs.Ytccbjgajmjcpjab
open Go.RowKit

theorem Spow4_any (j : Nat) (hj : j ≤ 4) (w : World) :
    Calls Try.prog 124 #[.int .i64 (j : Int)] w fun e w' => e = .returned (.int .i64 ((2 ^ j : Nat) : Int)) ∧ w = w' := by
  go_enter Try.func124, Try.ntmps124
  go_wp2
  go_loop [0, 3] (fun n o => ∃ m : Nat, m ≤ j ∧ n = .int .i64 (m : Int) ∧ o = .int .i64 ((2 ^ (j - m) : Nat) : Int)) (fun n _ => (intOf n).toNat)
  case atStart => exact ⟨j, Nat.le_refl _, rfl, by simp⟩
  case round =>
    obtain ⟨m, hm, rfl, rfl⟩ := hrel
    cases m with
    | zero =>
      go_wp2
      go_ret
      exact ⟨rfl, rfl⟩
    | succ m =>
      have hp : 2 ^ (j - (m + 1)) ≤ 8 := by
        have : j - (m + 1) ≤ 3 := by omega
        calc 2 ^ (j - (m + 1)) ≤ 2 ^ 3 := Nat.pow_le_pow_right (by decide) this
          _ = 8 := rfl
      have he : 2 ^ (j - m) = 2 * 2 ^ (j - (m + 1)) := by rw [show j - m = (j - (m + 1)) + 1 by omega, Nat.pow_succ]; omega
      obtain ⟨q, hq⟩ : ∃ q, q = 2 ^ (j - (m + 1)) := ⟨_, rfl⟩
      rw [← hq] at hp he ⊢
      have HE := Lib.hid he
      have hm' : (0 : Int) < ((m + 1 : Nat) : Int) := by omega
      clear hq he
      go_wp2
      go_round
      case rel => exact ⟨m, by omega, by go_num, by rw [HE.out]; go_num⟩
      case measure => simp [intOf]

theorem Sbit4_any (x j : Nat) (hx : x < 16) (hj : j < 4) (w : World) :
    Calls Try.prog 159 #[.int .i64 (x : Int), .int .i64 (j : Int)] w fun e w' => e = .returned (.int .i64 ((x / 2 ^ j % 2 : Nat) : Int)) ∧ w = w' := by
  have HP := Lib.hid (fun w => Spow4_any j (by omega) w)
  have hv : (wrap64 ((x : Int) / ((2 ^ j : Nat) : Int))).tmod 2 = ((x / 2 ^ j % 2 : Nat) : Int) := by
    have : ∀ x, x < 16 → ∀ j, j < 4 → (wrap64 (((x : Nat) : Int) / ((2 ^ j : Nat) : Int))).tmod 2 = ((x / 2 ^ j % 2 : Nat) : Int) := by decide +kernel
    exact this x hx j hj
  obtain ⟨p, hp⟩ : ∃ p, p = 2 ^ j := ⟨_, rfl⟩
  have hp0 : (p : Int) ≠ 0 := by
    have : 0 < 2 ^ j := Nat.pow_pos (by decide)
    omega
  rw [← hp] at HP hv ⊢
  have HV := Lib.hid hv
  clear hv hp
  go_enter Try.func159, Try.ntmps159
  go_wp2_with (go_at_call 124; refine (HP.out _).mono ?_; rintro e w1 ⟨rfl, rfl⟩)
  go_ret
  exact ⟨by rw [← HV.out]; rfl, rfl⟩

/-- Worths of at most twelve. -/
def R12 (rows : List (List Int)) : Prop := ∀ r ∈ rows, ∀ j, r.getD j 0 ≤ 12
theorem VR.rk {rows : List (List Int)} (h : VR rows) : Rk (RW rows 0).length rows ∧ R12 rows ∧ 1 ≤ (RW rows 0).length ∧ (RW rows 0).length ≤ 4 := by
  have key : ∀ r ∈ rows, ∀ j, 0 ≤ r.getD j 0 ∧ r.getD j 0 ≤ 12 := by
    intro r hr j
    have h1 := (h.2 r hr).2
    simp only [wB, Bool.and_eq_true] at h1
    rw [List.getD_eq_getElem?_getD]
    rcases Nat.lt_or_ge j r.length with hj | hj
    · rw [List.getElem?_eq_getElem hj]
      exact inR_true.1 (List.all_eq_true.1 h1.2 _ (List.getElem_mem hj))
    · rw [List.getElem?_eq_none hj]; simp
  have h0 := (h.2 _ (rw_mem (rows := rows) (i := 0) (by have := h.1.1; omega))).2
  simp only [wB, Bool.and_eq_true] at h0
  have := inR_true.1 h0.1
  exact ⟨fun r hr => ⟨(h.2 r hr).1, fun j => (key r hr j).1⟩, fun r hr j => (key r hr j).2, by omega, by omega⟩
theorem pb_top {m : Nat} {rows : List (List Int)} (h : Rk m rows) (h12 : R12 rows) : ∀ u, (pb rows u).1 ≤ 12 * rows.length := by
  induction rows with
  | nil => intro u; simp [pb]
  | cons r rs ih =>
    intro u
    obtain ⟨⟨j, _, _, e⟩, _⟩ := pb_step h u
    have a := ih h.tail (fun x hx => h12 x (by simp [hx])) (nxU m u j)
    have b := h12 r (by simp) j
    rw [e]
    simp only [List.length_cons]
    omega
/-- What is found of the first k things. -/
theorem pbTo_skip {rest : Nat → Int × List Nat} {r : List Int} {u k : Nat} (hk : k < r.length) (h : u / 2 ^ k % 2 = 1) : pbTo rest r u (k + 1) = pbTo rest r u k := by
  rw [pbTo, if_pos (by simp [isTk, hk, h])]
theorem pbTo_new {rest : Nat → Int × List Nat} {r : List Int} {u k : Nat} (h : isTk r.length u k = false) (hlt : (pbTo rest r u k).1 < (optP rest r u k).1) : pbTo rest r u (k + 1) = optP rest r u k := by
  rw [pbTo, if_neg (by simp [h]), if_pos hlt]
theorem pbTo_old {rest : Nat → Int × List Nat} {r : List Int} {u k : Nat} (h : isTk r.length u k = false) (hlt : ¬ (pbTo rest r u k).1 < (optP rest r u k).1) : pbTo rest r u (k + 1) = pbTo rest r u k := by
  rw [pbTo, if_neg (by simp [h]), if_neg hlt]

/-- Who has what, as ints. -/
def nl (js : List Nat) : List Int := js.map (fun j : Nat => (j : Int))
theorem nl_len (js : List Nat) : (nl js).length = js.length := by simp [nl]
/-- The sum and the list, in memory of the call's own. -/
def PwIs (w : World) (v : Int × List Nat) (e : Ending) (w' : World) : Prop :=
  ∃ A c, e = .returned (.tuple #[.int .i64 v.1, .slice A v.2.length c]) ∧ Own w' w.heap.size A c (nl v.2) ∧ Below w.heap.size w w'

theorem pbTo_bd {m : Nat} {r : List Int} {rs : List (List Int)} (h : Rk m (r :: rs)) (h12 : R12 (r :: rs)) (u k : Nat) : -1 ≤ (pbTo (pb rs) r u k).1 ∧ (pbTo (pb rs) r u k).1 ≤ 12 * (rs.length + 1) ∧ (pbTo (pb rs) r u k).2.length ≤ rs.length + 1 := by
  have h0 : ∀ j u', 0 ≤ r.getD j 0 + (pb rs u').1 := fun j u' => by have := h.head.2 j; have := pb_nonneg h.tail u'; omega
  rcases (pbTo_is (pb rs) r u k h0).1 with ⟨e, _⟩ | ⟨j, _, _, e⟩
  · rw [e]; simp only [List.length_nil]; omega
  · rw [e]
    have := h0 j (nxU r.length u j)
    have := h12 r (by simp) j
    have := pb_top h.tail (fun x hx => h12 x (by simp [hx])) (nxU r.length u j)
    have := pb_len h.tail (nxU r.length u j)
    simp only [optP, List.length_cons]
    omega

set_option maxRecDepth 20000 in
set_option maxHeartbeats 4000000 in
theorem pairWorth_any (A : Option Addr) (c m : Nat) (rows : List (List Int)) (hm : m ≤ 4) (hk : Rk m rows) (h12 : R12 rows) (hl : rows.length ≤ 4) : ∀ (d i u : Nat) (w : World), i + d = rows.length → u < 16 → RdR w A c rows →
    Calls Try.prog 119 #[.slice A rows.length c, .int .i64 (i : Int), .int .i64 (u : Int)] w (PwIs w (pb (rows.drop i) u)) := by
  intro d
  induction d with
  | zero =>
    intro i u w hi hu hR
    obtain rfl : i = rows.length := by omega
    have hE : Hid (pb (rows.drop rows.length) u = (0, [])) := Lib.hid (by simp [pb])
    go_enter Try.func119, Try.ntmps119
    go_wp2
    go_ret2
    rw [hE.out]
    exact ⟨_, _, rfl, own_empty w, (Below.refl _ w).alloc (Nat.le_refl _) _⟩
  | succ d ih =>
    intro i u w hi hu hR
    have hil : i < rows.length := by omega
    obtain ⟨b, off, r, A', c', rfl, hr, hc, hcap, hrd⟩ := hR.at_ hil
    have hdrop : rows.drop i = r :: rows.drop (i + 1) := by
      rw [List.drop_eq_getElem_cons hil]
      have := hr.out
      rw [List.getElem?_eq_getElem hil] at this
      cases this; rfl
    have hk' : Rk m (r :: rows.drop (i + 1)) := by rw [← hdrop]; exact fun x hx => hk x (List.mem_of_mem_drop hx)
    have h12' : R12 (r :: rows.drop (i + 1)) := by rw [← hdrop]; exact fun x hx => h12 x (List.mem_of_mem_drop hx)
    have hrm : r.length = m := hk'.head.1
    have hdl : (rows.drop (i + 1)).length = d := by rw [List.length_drop]; omega
    have hi1 : IntKind.i64.wrap ((i : Int) + 1) = ((i + 1 : Nat) : Int) := by rw [IntWalk.i64_in _ (by omega)]; omega
    rw [hdrop]
    have HR0 := Lib.hid hR
    have HK := Lib.hid hk'
    have H12 := Lib.hid h12'
    have HBD := Lib.hid (fun k => pbTo_bd hk' h12' u k)
    have HPN := Lib.hid (fun v => pb_nonneg hk'.tail v)
    have HPT := Lib.hid (fun v => pb_top hk'.tail (fun x hx => h12' x (by simp [hx])) v)
    have HPL := Lib.hid (fun v => pb_len hk'.tail v)
    have HIH := Lib.hid (fun (v : Nat) (w1 : World) (hv : v < 16) (h1 : RdR w1 (some ⟨b, off, none⟩) c rows) => ih (i + 1) v w1 (by omega) hv h1)
    clear ih hdrop hr hk' h12' hk h12 hR
    rw [hdl] at HBD HPT
    generalize hrs : rows.drop (i + 1) = rs at *
    have hin : ((i : Int) == (rows.length : Int)) = false := by simp; omega
    go_enter Try.func119, Try.ntmps119
    go_wp2
    go_loopw [8, 9, 10] (fun bs ls j wr => ∃ (k : Nat) (A1 : Option Addr) (c1 n : Nat), k ≤ m + 1 ∧ j = .int .i64 k ∧ bs = .int .i64 (pbTo (pb rs) r u k).1 ∧ ls = .slice A1 n c1 ∧ Hid (n = (pbTo (pb rs) r u k).2.length) ∧ Hid (Own wr w.heap.size A1 c1 (nl (pbTo (pb rs) r u k).2)) ∧ Hid (Below w.heap.size w wr)) (fun _ _ j _ => m + 1 - (intOf j).toNat)
    case atStart => exact ⟨0, none, 0, 0, by omega, rfl, rfl, rfl, Lib.hid rfl, Lib.hid (own_none _ _), Lib.hid (Below.refl _ _)⟩
    case round =>
      obtain ⟨k, A1, c1, n, hk1, rfl, rfl, rfl, HN, HO, HB⟩ := hrel
      have HRW := Lib.hid (HR0.out.below HB.out)
      by_cases hkm : k < m
      · obtain ⟨b2, o2, x, rfl, _, hx, hcx⟩ := hrd.out.at_ (k := k) (by omega)
        have HX : Hid (r.getD k 0 = x) := Lib.hid (by rw [List.getD_eq_getElem?_getD, hx.out]; rfl)
        have hx0 := HK.out.head.2 k
        have hx1 := H12.out r (by simp) k
        rw [HX.out] at hx0 hx1
        have hcr := (HB.out.cell (p := ⟨b, off + i, none⟩) (World.block_lt_of_cell? w _ hc)).trans hc
        have hcx' := (HB.out.cell (p := ⟨b2, o2 + k, none⟩) (World.block_lt_of_cell? w _ hcx)).trans hcx
        clear hcx hc
        have hkr : (k : Int) ≤ (r.length : Int) := by omega
        have hkr2 : (k : Int) < (r.length : Int) := by omega
        by_cases hb : u / 2 ^ k % 2 = 1
        · have HBit : Hid (∀ w1, Calls Try.prog 159 #[.int .i64 (u : Int), .int .i64 (k : Int)] w1 fun e w' => e = .returned (.int .i64 1) ∧ w1 = w') := Lib.hid (fun w1 => by have := Sbit4_any u k hu (by omega) w1; rw [hb] at this; exact this)
          have HE := Lib.hid (pbTo_skip (rest := pb rs) (r := r) (u := u) (k := k) (by omega) hb)
          clear hb
          go_wp2_with (go_at_call 159; refine (HBit.out _).mono ?_; rintro e w1 ⟨rfl, rfl⟩)
          go_roundw
          case rel => exact ⟨k + 1, A1, c1, n, by omega, by go_num, by rw [HE.out], rfl, Lib.hid (by rw [HE.out]; exact HN.out), Lib.hid (by rw [HE.out]; exact HO.out), HB⟩
          case measure => simp [intOf]; omega
        · have hb0 : u / 2 ^ k % 2 = 0 := by omega
          have HBit : Hid (∀ w1, Calls Try.prog 159 #[.int .i64 (u : Int), .int .i64 (k : Int)] w1 fun e w' => e = .returned (.int .i64 0) ∧ w1 = w') := Lib.hid (fun w1 => by have := Sbit4_any u k hu (by omega) w1; rw [hb0] at this; exact this)
          have HF : Hid (isTk r.length u k = false) := Lib.hid (by simp [isTk, hb])
          have hv16 : u + 2 ^ k < 16 := by have := (nx_tk hm hu (j := k) (by omega) (by rw [← hrm]; exact HF.out)).1; unfold nxU at this; rw [if_pos hkm] at this; exact this
          obtain ⟨p, hp⟩ : ∃ p, p = 2 ^ k := ⟨_, rfl⟩
          have HPow : Hid (∀ w1, Calls Try.prog 124 #[.int .i64 (k : Int)] w1 fun e w' => e = .returned (.int .i64 (p : Int)) ∧ w1 = w') := Lib.hid (fun w1 => by have := Spow4_any k (by omega) w1; rw [← hp] at this; exact this)
          rw [← hp] at hv16
          have hup : IntKind.i64.wrap ((u : Int) + (p : Int)) = ((u + p : Nat) : Int) := by rw [IntWalk.i64_in _ (by omega)]; omega
          have HV : Hid (nxU r.length u k = u + p) := Lib.hid (by unfold nxU; rw [if_pos (by omega), hp])
          clear hb hb0 hp

          obtain ⟨y, js, hyj⟩ : ∃ y js, pb rs (u + p) = (y, js) := ⟨_, _, rfl⟩
          have HY0 := HPN.out (u + p)
          have HY1 := HPT.out (u + p)
          have HYL := HPL.out (u + p)
          have HC := HIH.out (u + p) wr hv16 HRW.out
          rw [hyj] at HY0 HY1 HYL HC
          simp only at HY0 HY1 HYL
          have hcast : (((i + 1 : Nat)) : Int) = (i : Int) + 1 := by omega
          have hcastu : (((u + p : Nat)) : Int) = (u : Int) + (p : Int) := by omega
          rw [hcastu] at HC
          rw [hcast] at HC
          have HC' : Hid (Calls Try.prog 119 #[.slice (some ⟨b, off, none⟩) rows.length c, .int .i64 ((i : Int) + 1), .int .i64 ((u : Int) + (p : Int))] wr fun e w' => ∃ A2 c2, e = .returned (.tuple #[.int .i64 y, .slice A2 js.length c2]) ∧ Own w' wr.heap.size A2 c2 (nl js) ∧ Below wr.heap.size wr w') := Lib.hid HC
          have hbd := HBD.out k
          obtain ⟨z, hz⟩ : ∃ z, z = (pbTo (pb rs) r u k).1 := ⟨_, rfl⟩
          rw [← hz] at hbd ⊢
          have hwx : IntKind.i64.wrap (x + y) = x + y := IntWalk.i64_in _ (by omega)
          have HOPT : Hid (optP (pb rs) r u k = (x + y, k :: js)) := Lib.hid (by rw [optP, HX.out, HV.out, hyj])
          have HZ := Lib.hid hz
          have HJL := Lib.hid HYL
          have hjl1 : 1 + js.length ≤ 1099511627776 := by omega
          have HN1 := Lib.hid hjl1
          clear hz hyj HC hcast HYL hjl1 HBD HPN HPT HPL HIH
          by_cases hgt : z < x + y
          · have HE := Lib.hid (pbTo_new (rest := pb rs) (r := r) (u := u) (k := k) HF.out (by rw [← HZ.out, HOPT.out]; exact hgt))
            have hgtb : decide (x + y > z) = true := by simp; omega
            clear hgt
            go_wp2_with (first | (go_at_call 159; refine (HBit.out _).mono ?_; rintro e w1 ⟨rfl, rfl⟩) | (go_at_call 124; refine (HPow.out _).mono ?_; rintro e w1 ⟨rfl, rfl⟩))
            refine HC'.out.mono ?_
            rintro e w2 ⟨A2, c2, rfl, o2, b2⟩
            have HB2 := Lib.hid (HB.out.trans (b2.mono HB.out.size))
            have HLm := Lib.hid ((own_lit w2 [(k : Int)] (by simp)).base HB2.out.size)
            have HRj := Lib.hid ((o2.rd).below ((Below.refl _ w2).alloc (Nat.le_refl _) (.cells #[.int .i64 (k : Int)] 3)))
            have hsz : w.heap.size ≤ (w2.alloc (.cells #[.int .i64 (k : Int)] 3)).heap.size := Nat.le_trans HB2.out.size ((Below.refl _ w2).alloc (Nat.le_refl _) (.cells #[.int .i64 (k : Int)] 3)).size
            have HSZ := Lib.hid hsz
            clear o2 b2 hsz
            go_wp2_with (at_builtin; refine wpList_append_any rfl _ _ 26 Try.underlying26 rfl w.heap.size (some ⟨w2.heap.size, 0, none⟩) 1 [(k : Int)] 1 rfl rfl HLm.out A2 c2 (nl js) js.length (nl_len js) rfl HRj.out HN1.out HSZ.out ?_; intro A3 c3 w3 ho3 hg3)
            have HB3 := Lib.hid (((HB2.out.trans ((((Below.refl _ w2).alloc (Nat.le_refl _) (.cells #[.int .i64 (k : Int)] 3))).mono HB2.out.size))).grown hg3 HSZ.out (fun q e => by cases e; exact HB2.out.size))
            go_roundw
            case rel => exact ⟨k + 1, A3, c3, 1 + js.length, by omega, by go_num, by rw [HE.out, HOPT.out], rfl, Lib.hid (by rw [HE.out, HOPT.out, List.length_cons]; omega), Lib.hid (by rw [HE.out, HOPT.out]; exact ho3), HB3⟩
            case measure => simp [intOf]; omega
          · have HE := Lib.hid (pbTo_old (rest := pb rs) (r := r) (u := u) (k := k) HF.out (by rw [← HZ.out, HOPT.out]; exact hgt))
            have hgtb : decide (x + y > z) = false := by simp; omega
            clear hgt
            go_wp2_with (first | (go_at_call 159; refine (HBit.out _).mono ?_; rintro e w1 ⟨rfl, rfl⟩) | (go_at_call 124; refine (HPow.out _).mono ?_; rintro e w1 ⟨rfl, rfl⟩))
            refine HC'.out.mono ?_
            rintro e w2 ⟨A2, c2, rfl, _, b2⟩
            have HB2 := Lib.hid (HB.out.trans (b2.mono HB.out.size))
            have HO2 := Lib.hid (HO.out.below b2)
            clear b2
            go_wp2
            go_roundw
            case rel => exact ⟨k + 1, A1, c1, n, by omega, by go_num, by rw [HE.out, HZ.out], rfl, Lib.hid (by rw [HE.out]; exact HN.out), Lib.hid (by rw [HE.out]; exact HO2.out), HB2⟩
            case measure => simp [intOf]; omega
      · by_cases hke : k = m
        · have HX : Hid (r.getD k 0 = 0) := Lib.hid (by rw [List.getD_eq_getElem?_getD, List.getElem?_eq_none (by omega)]; rfl)
          have HV : Hid (nxU r.length u k = u) := Lib.hid (by unfold nxU; rw [if_neg (by omega)])
          have HF : Hid (isTk r.length u k = false) := Lib.hid (by simp [isTk]; omega)
          have hcr := (HB.out.cell (p := ⟨b, off + i, none⟩) (World.block_lt_of_cell? w _ hc)).trans hc
          clear hc
          have hkr : (k : Int) ≤ (r.length : Int) := by omega
          have hkr2 : ¬ (k : Int) < (r.length : Int) := by omega
          have hkm2 : k ≤ m := by omega
          clear hke hkm hk1
          obtain ⟨y, js, hyj⟩ : ∃ y js, pb rs (u) = (y, js) := ⟨_, _, rfl⟩
          have HY0 := HPN.out (u)
          have HY1 := HPT.out (u)
          have HYL := HPL.out (u)
          have HC := HIH.out (u) wr hu HRW.out
          rw [hyj] at HY0 HY1 HYL HC
          simp only at HY0 HY1 HYL
          have hcast : (((i + 1 : Nat)) : Int) = (i : Int) + 1 := by omega
          have hcastu : True := trivial
          rw [hcast] at HC
          have HC' : Hid (Calls Try.prog 119 #[.slice (some ⟨b, off, none⟩) rows.length c, .int .i64 ((i : Int) + 1), .int .i64 ((u : Int))] wr fun e w' => ∃ A2 c2, e = .returned (.tuple #[.int .i64 y, .slice A2 js.length c2]) ∧ Own w' wr.heap.size A2 c2 (nl js) ∧ Below wr.heap.size wr w') := Lib.hid HC
          have hbd := HBD.out k
          obtain ⟨z, hz⟩ : ∃ z, z = (pbTo (pb rs) r u k).1 := ⟨_, rfl⟩
          rw [← hz] at hbd ⊢
          have hwx : IntKind.i64.wrap y = y := IntWalk.i64_in _ (by omega)
          have HOPT : Hid (optP (pb rs) r u k = (y, k :: js)) := Lib.hid (by rw [optP, HX.out, HV.out, hyj, Int.zero_add])
          have HZ := Lib.hid hz
          have HJL := Lib.hid HYL
          have hjl1 : 1 + js.length ≤ 1099511627776 := by omega
          have HN1 := Lib.hid hjl1
          clear hz hyj HC hcast HYL hjl1 HBD HPN HPT HPL HIH
          by_cases hgt : z < y
          · have HE := Lib.hid (pbTo_new (rest := pb rs) (r := r) (u := u) (k := k) HF.out (by rw [← HZ.out, HOPT.out]; exact hgt))
            have hgtb : decide (y > z) = true := by simp; omega
            clear hgt
            go_wp2_with fail
            refine HC'.out.mono ?_
            rintro e w2 ⟨A2, c2, rfl, o2, b2⟩
            have HB2 := Lib.hid (HB.out.trans (b2.mono HB.out.size))
            have HLm := Lib.hid ((own_lit w2 [(k : Int)] (by simp)).base HB2.out.size)
            have HRj := Lib.hid ((o2.rd).below ((Below.refl _ w2).alloc (Nat.le_refl _) (.cells #[.int .i64 (k : Int)] 3)))
            have hsz : w.heap.size ≤ (w2.alloc (.cells #[.int .i64 (k : Int)] 3)).heap.size := Nat.le_trans HB2.out.size ((Below.refl _ w2).alloc (Nat.le_refl _) (.cells #[.int .i64 (k : Int)] 3)).size
            have HSZ := Lib.hid hsz
            clear o2 b2 hsz
            go_wp2_with (at_builtin; refine wpList_append_any rfl _ _ 26 Try.underlying26 rfl w.heap.size (some ⟨w2.heap.size, 0, none⟩) 1 [(k : Int)] 1 rfl rfl HLm.out A2 c2 (nl js) js.length (nl_len js) rfl HRj.out HN1.out HSZ.out ?_; intro A3 c3 w3 ho3 hg3)
            have HB3 := Lib.hid (((HB2.out.trans ((((Below.refl _ w2).alloc (Nat.le_refl _) (.cells #[.int .i64 (k : Int)] 3))).mono HB2.out.size))).grown hg3 HSZ.out (fun q e => by cases e; exact HB2.out.size))
            go_roundw
            case rel => exact ⟨k + 1, A3, c3, 1 + js.length, by omega, by go_num, by rw [HE.out, HOPT.out], rfl, Lib.hid (by rw [HE.out, HOPT.out, List.length_cons]; omega), Lib.hid (by rw [HE.out, HOPT.out]; exact ho3), HB3⟩
            case measure => simp [intOf]; omega
          · have HE := Lib.hid (pbTo_old (rest := pb rs) (r := r) (u := u) (k := k) HF.out (by rw [← HZ.out, HOPT.out]; exact hgt))
            have hgtb : decide (y > z) = false := by simp; omega
            clear hgt
            go_wp2_with fail
            refine HC'.out.mono ?_
            rintro e w2 ⟨A2, c2, rfl, _, b2⟩
            have HB2 := Lib.hid (HB.out.trans (b2.mono HB.out.size))
            have HO2 := Lib.hid (HO.out.below b2)
            clear b2
            go_wp2
            go_roundw
            case rel => exact ⟨k + 1, A1, c1, n, by omega, by go_num, by rw [HE.out, HZ.out], rfl, Lib.hid (by rw [HE.out]; exact HN.out), Lib.hid (by rw [HE.out]; exact HO2.out), HB2⟩
            case measure => simp [intOf]; omega

        · have hke2 : k = m + 1 := by omega
          have HEND : Hid (pb (r :: rs) u = pbTo (pb rs) r u k) := Lib.hid (by rw [pb, hrm, hke2])
          have hcr := (HB.out.cell (p := ⟨b, off + i, none⟩) (World.block_lt_of_cell? w _ hc)).trans hc
          clear hc
          have hkr : ¬ (k : Int) ≤ (r.length : Int) := by omega
          clear hke2 hke hkm hk1
          go_wp2
          go_ret2
          rw [HEND.out]
          exact ⟨A1, c1, by rw [← HN.out]; rfl, HO.out, HB.out⟩
end Go.Proofs.Ytccbjgajmjcpjab
