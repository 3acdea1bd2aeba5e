/-
  Chapter 3: the contracts of isRow, ValidDemands, validDemands, areForUnits, validUnits.
-/
import Derived.Test.YtkkdffmpeadinaaOne
import Derived.Test.YtkkdffmpeadinaaUc
namespace Go.Proofs.Ytkkdffmpeadinaa
open Go.RowKit

set_option maxHeartbeats 400000 in
theorem isRow_any (A : Option Addr) (c : Nat) (r : List Int) (w : World) (h : Rd w A c r) (hl : r.length ≤ 1099511627776) :
    Calls Try.prog 48 #[.slice A r.length c] w fun e w' => e = .returned (.bool (rowB r)) ∧ ∃ n, w' = w.drewN n := by
  by_cases h5 : 5 < r.length
  · have HE := Lib.hid (okTo_long h5)
    go_enter Try.func48, Try.ntmps48
    go_wp2
    go_ret
    exact ⟨by rw [HE.out]; rfl, 0, rfl⟩
  · have h5' : r.length ≤ 5 := by omega
    clear h5
    go_enter Try.func48, Try.ntmps48
    go_wp2
    go_loopw [10] (fun i wr => ∃ k n : Nat, k ≤ r.length ∧ i = .int .i64 k ∧ wr = w.drewN n ∧ Hid (okTo r k)) (fun i _ => r.length - (intOf i).toNat)
    case atStart => exact ⟨0, 0, Nat.zero_le _, rfl, rfl, Lib.hid (okTo_zero r)⟩
    case round =>
      obtain ⟨k, n, hk, rfl, rfl, HT⟩ := hrel
      by_cases hlt : k < r.length
      · obtain ⟨b, off, x, rfl, _, hx, hc⟩ := h.at_ hlt
        by_cases hb : 0 ≤ x ∧ x ≤ 30
        · have HB : Hid (∀ w1, Calls Try.prog 77 #[.int .i64 x] w1 fun e w' => e = .returned (.bool true) ∧ w1 = w') := Lib.hid (fun w1 => by have := isBid_any x w1; rwa [inR_true.2 hb] at this)
          by_cases hk0 : k = 0
          · have HT' := Lib.hid (okTo_step HT.out hx.out hb.1 hb.2 (fun y hy => absurd hy (by omega)))
            have hk1 : ¬ (0 : Int) < (k : Int) := by omega
            have hk2 : ¬ 0 < k := by omega
            clear hb hk0
            go_wp2_with (go_at_call 77; refine (HB.out _).mono ?_; rintro e w1 ⟨rfl, rfl⟩)
            go_roundw
            case rel => exact ⟨k + 1, _, by omega, by go_num, rfl, HT'⟩
            case measure => simp [intOf]; omega
          · have hk1 : 0 < k := by omega
            obtain ⟨b', off', y, hA, _, hy, hc2⟩ := h.at_ (k := k - 1) (by omega)
            cases hA
            obtain ⟨j, rfl⟩ : ∃ j, k = j + 1 := ⟨k - 1, by omega⟩
            simp only [Nat.add_sub_cancel] at hc2 hy
            have hj1 : IntKind.i64.wrap (((j + 1 : Nat) : Int) - 1) = (j : Int) := by rw [IntWalk.i64_in _ (by omega)]; omega
            by_cases hyx : y < x
            · have HE := Lib.hid (okTo_more hx.out hk1 (by simpa using hy.out) hyx)
              clear hb hk0
              go_wp2_with (go_at_call 77; refine (HB.out _).mono ?_; rintro e w1 ⟨rfl, rfl⟩)
              go_ret
              exact ⟨by rw [HE.out]; rfl, _, rfl⟩
            · have HT' := Lib.hid (okTo_step HT.out hx.out hb.1 hb.2 (fun z _ hz => by
                have : (r[j + 1 - 1]? : Option Int) = some y := by simpa using hy.out
                rw [this] at hz; cases hz; omega))
              clear hb hk0
              go_wp2_with (go_at_call 77; refine (HB.out _).mono ?_; rintro e w1 ⟨rfl, rfl⟩)
              go_roundw
              case rel => exact ⟨j + 2, _, by omega, by go_num, rfl, HT'⟩
              case measure => simp [intOf]; omega
        · have HB : Hid (∀ w1, Calls Try.prog 77 #[.int .i64 x] w1 fun e w' => e = .returned (.bool false) ∧ w1 = w') := Lib.hid (fun w1 => by have := isBid_any x w1; rwa [inR_false.2 hb] at this)
          have HE := Lib.hid (okTo_out hx.out hb)
          clear hb
          go_wp2_with (go_at_call 77; refine (HB.out _).mono ?_; rintro e w1 ⟨rfl, rfl⟩)
          go_ret
          exact ⟨by rw [HE.out]; rfl, _, rfl⟩
      · obtain rfl : k = r.length := by omega
        have HE := Lib.hid (okTo_all HT.out h5')
        go_wp2
        go_ret
        exact ⟨by rw [HE.out]; rfl, _, rfl⟩


set_option maxHeartbeats 400000 in
theorem ValidDemands_any (A : Option Addr) (c : Nat) (rows : List (List Int)) (w : World) (h : RdR w A c rows) (hl : rows.length ≤ 1099511627776) (hl2 : ∀ r ∈ rows, r.length ≤ 1099511627776) :
    Calls Try.prog 16 #[.slice A rows.length c] w fun e w' => e = .returned (.bool (vdB rows)) ∧ ∃ n, w' = w.drewN n := by
  by_cases h1 : rows.length < 1
  · have HE := Lib.hid (vd_len (rows := rows) (by omega))
    go_enter Try.func16, Try.ntmps16
    go_wp2
    go_ret
    exact ⟨by rw [HE.out]; rfl, 0, rfl⟩
  by_cases h4 : 4 < rows.length
  · have HE := Lib.hid (vd_len (rows := rows) (by omega))
    go_enter Try.func16, Try.ntmps16
    go_wp2
    go_ret
    exact ⟨by rw [HE.out]; rfl, 0, rfl⟩
  have h1' : 1 ≤ rows.length := by omega
  have h4' : rows.length ≤ 4 := by omega
  clear h1 h4
  go_enter Try.func16, Try.ntmps16
  go_wp2
  go_loopw [15] (fun i wr => ∃ k n : Nat, k ≤ rows.length ∧ i = .int .i64 k ∧ wr = w.drewN n ∧ Hid (rowsTo rows k)) (fun i _ => rows.length - (intOf i).toNat)
  case atStart => exact ⟨0, 0, Nat.zero_le _, rfl, rfl, Lib.hid (rowsTo_zero rows)⟩
  case round =>
    obtain ⟨k, n, hk, rfl, rfl, HT⟩ := hrel
    by_cases hlt : k < rows.length
    · obtain ⟨b, off, r, A', c', rfl, hr, hc, hcap, hrd⟩ := h.at_ hlt
      have hrl : r.length ≤ 1099511627776 := hl2 r (List.mem_of_getElem? hr.out)
      have HC : Hid (∀ n, Calls Try.prog 48 #[.slice A' r.length c'] (w.drewN n) fun e w' => e = .returned (.bool (rowB r)) ∧ ∃ m, w' = (w.drewN n).drewN m) := Lib.hid (fun n => isRow_any A' c' r _ (hrd.out.drewN n) hrl)
      rcases hb : rowB r with _ | _
      · have HE := Lib.hid (vd_no hr.out hb)
        rw [hb] at HC
        clear hb hr hrd hrl
        go_wp2_with (go_at_call 48; refine (HC.out _).mono ?_; rintro e w1 ⟨rfl, m, rfl⟩)
        go_ret
        exact ⟨by rw [HE.out]; rfl, _, rfl⟩
      · have HT' := Lib.hid (rowsTo_step HT.out hr.out hb)
        rw [hb] at HC
        clear hb hr hrd hrl
        go_wp2_with (go_at_call 48; refine (HC.out _).mono ?_; rintro e w1 ⟨rfl, m, rfl⟩)
        go_roundw
        case rel => exact ⟨k + 1, _, by omega, by go_num, rfl, HT'⟩
        case measure => simp [intOf]; omega
    · obtain rfl : k = rows.length := by omega
      have HE := Lib.hid (rowsTo_all HT.out ⟨h1', h4'⟩)
      go_wp2
      go_ret
      exact ⟨by rw [HE.out]; rfl, _, rfl⟩

/-- The demands and a number of units. -/
noncomputable def fuB (rows : List (List Int)) (k : Int) : Bool := vdB rows && inR k 0 5

theorem areForUnits_any (A : Option Addr) (c : Nat) (rows : List (List Int)) (k : Int) (w : World) (h : RdR w A c rows) (hl : rows.length ≤ 1099511627776) (hl2 : ∀ r ∈ rows, r.length ≤ 1099511627776) :
    Calls Try.prog 51 #[.slice A rows.length c, .int .i64 k] w fun e w' => e = .returned (.bool (fuB rows k)) ∧ ∃ n, w' = w.drewN n := by
  have HC := Lib.hid (ValidDemands_any A c rows w h hl hl2)
  have hfu : fuB rows k = (vdB rows && (decide (0 ≤ k) && decide (k ≤ 5))) := rfl
  have HF := Lib.hid hfu
  clear hfu
  rcases hb : vdB rows with _ | _
  · have HB := Lib.hid hb
    rw [hb] at HC
    clear hb
    go_enter Try.func51, Try.ntmps51
    go_wp2_with (go_at_call 16; refine HC.out.mono ?_; rintro e w1 ⟨rfl, m, rfl⟩)
    go_ret
    exact ⟨by rw [HF.out, HB.out]; rfl, _, rfl⟩
  · have HB := Lib.hid hb
    rw [hb] at HC
    clear hb
    by_cases h0 : 0 ≤ k
    · go_enter Try.func51, Try.ntmps51
      go_wp2_with (go_at_call 16; refine HC.out.mono ?_; rintro e w1 ⟨rfl, m, rfl⟩)
      go_ret
      exact ⟨by rw [HF.out, HB.out]; simp [h0], _, rfl⟩
    · go_enter Try.func51, Try.ntmps51
      go_wp2_with (go_at_call 16; refine HC.out.mono ?_; rintro e w1 ⟨rfl, m, rfl⟩)
      go_ret
      exact ⟨by rw [HF.out, HB.out]; simp; omega, _, rfl⟩

set_option maxHeartbeats 800000 in
theorem validDemands_any (A : Option Addr) (c : Nat) (rows : List (List Int)) (w : World) (h : RdR w A c rows) (hl : rows.length ≤ 1099511627776) (hl2 : ∀ r ∈ rows, r.length ≤ 1099511627776) :
    Calls Try.prog 49 #[.slice A rows.length c] w fun e w' => e = .returned (.bool (vdB rows)) ∧ ∃ n, w' = w.drewN n := by
  go_enter Try.func49, Try.ntmps49
  go_wp2
  go_loopw [3] (fun i wr => ∃ k n : Nat, k ≤ rows.length ∧ i = .int .i64 k ∧ wr = w.drewN n ∧ Hid (rowsTo rows k)) (fun i _ => rows.length - (intOf i).toNat)
  case atStart => exact ⟨0, 0, Nat.zero_le _, rfl, rfl, Lib.hid (rowsTo_zero rows)⟩
  case round =>
    obtain ⟨k, n, hk, rfl, rfl, HT⟩ := hrel
    by_cases hlt : k < rows.length
    · obtain ⟨b, off, r, A', c', rfl, hr, hc, hcap, hrd⟩ := h.at_ hlt
      have hrl : r.length ≤ 1099511627776 := hl2 r (List.mem_of_getElem? hr.out)
      go_wp2
      go_loopw [4] (fun i wr => ∃ j m : Nat, j ≤ r.length ∧ i = .int .i64 j ∧ wr = w.drewN m ∧ Hid (okTo r j)) (fun i _ => r.length - (intOf i).toNat)
      case atStart => exact ⟨0, n, Nat.zero_le _, rfl, rfl, Lib.hid (okTo_zero r)⟩
      case round =>
        obtain ⟨j, m, hj, rfl, rfl, HJ⟩ := hrel
        by_cases hjl : j < r.length
        · obtain ⟨b2, o2, x, rfl, _, hx, hcx⟩ := hrd.out.at_ hjl
          by_cases hb : 0 ≤ x ∧ x ≤ 30
          · have HB : Hid (∀ w1, Calls Try.prog 71 #[.int .i64 x, .int .i64 0, .int .i64 30] w1 fun e w' => e = .returned (.bool true) ∧ w1 = w') := Lib.hid (fun w1 => by have := inRange_any x 0 30 w1; rwa [inR_true.2 hb] at this)
            by_cases hk0 : j = 0
            · have HT' := Lib.hid (okTo_step HJ.out hx.out hb.1 hb.2 (fun y hy => absurd hy (by omega)))
              have hk1 : ¬ (0 : Int) < (j : Int) := by omega
              have hk2 : ¬ 0 < j := by omega
              clear hb hk0
              go_wp2_with fail
              go_quiet ((refine (HB.out _).mono ?_; rintro e w1 ⟨rfl, rfl⟩; exact ⟨rfl, _, rfl⟩))
              go_wp2
              go_roundw
              case rel => exact ⟨j + 1, _, by omega, by go_num, rfl, HT'⟩
              case measure => simp [intOf]; omega
            · have hk1 : 0 < j := by omega
              obtain ⟨b3, o3, y, hA, _, hy, hc2⟩ := hrd.out.at_ (k := j - 1) (by omega)
              cases hA
              obtain ⟨q, rfl⟩ : ∃ q, j = q + 1 := ⟨j - 1, by omega⟩
              simp only [Nat.add_sub_cancel] at hc2 hy
              have hj1 : IntKind.i64.wrap (((q + 1 : Nat) : Int) - 1) = (q : Int) := by rw [IntWalk.i64_in _ (by omega)]; omega
              by_cases hyx : y < x
              · have HE := Lib.hid (vd_no hr.out (okTo_more hx.out hk1 (by simpa using hy.out) hyx))
                clear hb hk0
                go_wp2_with fail
                go_quiet ((refine (HB.out _).mono ?_; rintro e w1 ⟨rfl, rfl⟩; exact ⟨rfl, _, rfl⟩))
                go_wp2
                go_ret
                exact ⟨by rw [HE.out]; rfl, _, World.drewN_drewN _ _ _⟩
              · have HT' := Lib.hid (okTo_step HJ.out hx.out hb.1 hb.2 (fun z _ hz => by
                  have : (r[q + 1 - 1]? : Option Int) = some y := by simpa using hy.out
                  rw [this] at hz; cases hz; omega))
                clear hb hk0
                go_wp2_with fail
                go_quiet ((refine (HB.out _).mono ?_; rintro e w1 ⟨rfl, rfl⟩; exact ⟨rfl, _, rfl⟩))
                go_wp2
                go_roundw
                case rel => exact ⟨q + 2, _, by omega, by go_num, rfl, HT'⟩
                case measure => simp [intOf]; omega
          · have HB : Hid (∀ w1, Calls Try.prog 71 #[.int .i64 x, .int .i64 0, .int .i64 30] w1 fun e w' => e = .returned (.bool false) ∧ w1 = w') := Lib.hid (fun w1 => by have := inRange_any x 0 30 w1; rwa [inR_false.2 hb] at this)
            have HE := Lib.hid (vd_no hr.out (okTo_out hx.out hb))
            clear hb
            go_wp2_with fail
            go_quiet ((refine (HB.out _).mono ?_; rintro e w1 ⟨rfl, rfl⟩; exact ⟨rfl, _, rfl⟩))
            go_wp2
            go_ret
            exact ⟨by rw [HE.out]; rfl, _, World.drewN_drewN _ _ _⟩
        · obtain rfl : j = r.length := by omega
          by_cases h5 : 5 < r.length
          · have HE := Lib.hid (vd_no hr.out (okTo_long h5))
            go_wp2
            go_ret
            exact ⟨by rw [HE.out]; rfl, _, rfl⟩
          · have HT' := Lib.hid (rowsTo_step HT.out hr.out (okTo_all HJ.out (by omega)))
            go_wp2
            go_roundw
            case rel => exact ⟨k + 1, _, by omega, by go_num, rfl, HT'⟩
            case measure => simp [intOf]; omega
    · obtain rfl : k = rows.length := by omega
      have HB := Lib.hid (inRange_any (rows.length : Int) 1 4)
      by_cases hlen : 1 ≤ rows.length ∧ rows.length ≤ 4
      · have HE := Lib.hid (rowsTo_all HT.out hlen)
        have HI : Hid (inR (rows.length : Int) 1 4 = true) := Lib.hid (inR_true.2 (by omega))
        clear hlen
        go_wp2_with (go_at_call 71; refine (HB.out _).mono ?_; rintro e w1 ⟨rfl, rfl⟩)
        go_ret
        exact ⟨by rw [HE.out, HI.out]; rfl, _, rfl⟩
      · have HE := Lib.hid (vd_len hlen)
        have HI : Hid (inR (rows.length : Int) 1 4 = false) := Lib.hid (inR_false.2 (by omega))
        clear hlen
        go_wp2_with (go_at_call 71; refine (HB.out _).mono ?_; rintro e w1 ⟨rfl, rfl⟩)
        go_ret
        exact ⟨by rw [HE.out, HI.out]; rfl, _, rfl⟩

theorem SValidDemands_any (A : Option Addr) (c : Nat) (rows : List (List Int)) (w : World) (h : RdR w A c rows) (hl : rows.length ≤ 1099511627776) (hl2 : ∀ r ∈ rows, r.length ≤ 1099511627776) :
    Calls Try.prog 17 #[.slice A rows.length c] w fun e w' => e = .returned (.bool (vdB rows)) ∧ ∃ n, w' = w.drewN n := by
  have HC := Lib.hid (validDemands_any A c rows w h hl hl2)
  go_enter Try.func17, Try.ntmps17
  go_wp2_with (go_at_call 49; refine HC.out.mono ?_; rintro e w1 ⟨rfl, m, rfl⟩)
  go_ret
  exact ⟨rfl, _, rfl⟩

theorem validUnits_any (A : Option Addr) (c : Nat) (rows : List (List Int)) (k : Int) (w : World) (h : RdR w A c rows) (hl : rows.length ≤ 1099511627776) (hl2 : ∀ r ∈ rows, r.length ≤ 1099511627776) :
    Calls Try.prog 53 #[.slice A rows.length c, .int .i64 k] w fun e w' => e = .returned (.bool (fuB rows k)) ∧ ∃ n, w' = w.drewN n := by
  have HC := Lib.hid (validDemands_any A c rows w h hl hl2)
  have HI := Lib.hid (fun w1 => inRange_any k 0 5 w1)
  have HF : Hid (fuB rows k = (vdB rows && inR k 0 5)) := Lib.hid rfl
  rcases hb : vdB rows with _ | _
  all_goals
    have HB := Lib.hid hb
    rw [hb] at HC
    clear hb
    go_enter Try.func53, Try.ntmps53
    go_wp2_with (first
      | (go_at_call 49; refine HC.out.mono ?_; rintro e w1 ⟨rfl, m, rfl⟩)
      | (go_at_call 71; refine (HI.out _).mono ?_; rintro e w1 ⟨rfl, rfl⟩))
    go_ret
    exact ⟨by rw [HF.out, HB.out]; simp, _, rfl⟩

end Go.Proofs.Ytkkdffmpeadinaa
