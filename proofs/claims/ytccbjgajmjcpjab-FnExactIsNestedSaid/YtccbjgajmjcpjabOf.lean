/-
  Chapter 8: markets of pairs: validRows and ValidRows of the model.
-/
import Derived.Test.YtccbjgajmjcpjabOe
namespace Go.Proofs.Ytccbjgajmjcpjab
open Go.RowKit

def sokTo (rows : List (List Int)) (k : Nat) : Prop := ∀ (j : Nat) (r : List Int), j < k → rows[j]? = some r → r.length = (RW rows 0).length ∧ r.all (fun x => inR x 0 12) = true
theorem sokTo_zero (rows : List (List Int)) : sokTo rows 0 := fun j r hj => absurd hj (by omega)
theorem sokTo_step {rows : List (List Int)} {k : Nat} {r : List Int} (h : sokTo rows k) (hr : rows[k]? = some r) (h1 : r.length = (RW rows 0).length) (h2 : (r.take r.length).all (fun x => inR x 0 12) = true) : sokTo rows (k + 1) := by
  intro j x hj hx
  rcases Nat.lt_or_ge j k with h' | h'
  · exact h j x h' hx
  · obtain rfl : j = k := by omega
    rw [hr] at hx; cases hx
    rw [List.take_length] at h2
    exact ⟨h1, h2⟩
theorem vr_bad {rows : List (List Int)} {k : Nat} {r : List Int} (hr : rows[k]? = some r) (h : r.all (fun x => inR x 0 12) = false) : vrB rows = false := vr_no hr (by simp [rokB, wB_bad h])
theorem vr_row {rows : List (List Int)} {k : Nat} {r : List Int} (hr : rows[k]? = some r) (h : ¬ r.length = (RW rows 0).length) : vrB rows = false := vr_no hr (by simp [rokB, h])
theorem sokTo_all {rows : List (List Int)} (h : sokTo rows rows.length) (h1 : 1 ≤ rows.length ∧ rows.length ≤ 4) : vrB rows = inR ((RW rows 0).length : Int) 1 4 := by
  cases hb : inR ((RW rows 0).length : Int) 1 4 with
  | true =>
    refine vr_true ⟨h1, fun r hr => ?_⟩
    obtain ⟨k, hk, rfl⟩ := List.getElem_of_mem hr
    obtain ⟨a, b⟩ := h k _ hk (List.getElem?_eq_getElem hk)
    refine ⟨a, ?_⟩
    simp only [wB, a, b, hb]; rfl
  | false =>
    refine vr_false (fun ho => ?_)
    have := (ho.2 _ (rw_mem (rows := rows) (i := 0) (by omega))).2
    simp only [wB, hb, Bool.false_and] at this
    cases this

set_option maxHeartbeats 800000 in
theorem validRows_any (A : Option Addr) (c : Nat) (rows : List (List Int)) (w : World) (h : RdR w A c rows) (hl : rows.length ≤ 1099511627776) (hl2 : ∀ r ∈ rows, r.length ≤ 1099511627776) :
    Calls Try.prog 167 #[.slice A rows.length c] w fun e w' => e = .returned (.bool (vrB rows)) ∧ ∃ n, w' = w.drewN n := by
  go_enter Try.func167, Try.ntmps167
  go_wp2
  go_loopw [3] (fun i wr => ∃ k n : Nat, k ≤ rows.length ∧ i = .int .i64 k ∧ wr = w.drewN n ∧ Hid (sokTo rows k)) (fun i _ => rows.length - (intOf i).toNat)
  case atStart => exact ⟨0, 0, Nat.zero_le _, rfl, rfl, Lib.hid (sokTo_zero rows)⟩
  case round =>
    obtain ⟨k, n, hk, rfl, rfl, HT⟩ := hrel
    by_cases hlt : k < rows.length
    · obtain ⟨b, off, r, A', c', rfl, hr, hc, hcap, hrd⟩ := h.at_ hlt
      obtain ⟨b0, off0, r0, A0, c0, hA0, hr0, hc0, hcap0, hrd0⟩ := h.at_ (k := 0) (by omega)
      cases hA0
      have e0 := Lib.hid (rw_of hr0.out)
      rw [Nat.add_zero] at hc0
      clear hr0 hrd0
      have hrl : r.length ≤ 1099511627776 := hl2 r (List.mem_of_getElem? hr.out)
      by_cases he : r.length = r0.length
      · have he' : (r.length : Int) = (r0.length : Int) := by omega
        have HEQ : Hid (r.length = (RW rows 0).length) := Lib.hid (by rw [e0.out]; exact he)
        clear he
        go_wp2_with fail
        go_quiet (fail)
        go_wp2
        go_loopw [4] (fun i wr => ∃ j m : Nat, j ≤ r.length ∧ i = .int .i64 j ∧ wr = w.drewN m ∧ Hid ((r.take j).all (fun x => inR x 0 12) = true)) (fun i _ => r.length - (intOf i).toNat)
        case atStart => exact ⟨0, _, Nat.zero_le _, rfl, World.drewN_drewN _ _ _, Lib.hid rfl⟩
        case round =>
          clear he' hc0 hcap0
          obtain ⟨j, m, hj, rfl, rfl, HJ⟩ := hrel
          by_cases hjl : j < r.length
          · obtain ⟨b2, o2, x, rfl, _, hx, hcx⟩ := hrd.out.at_ hjl
            cases hb : inR x 0 12 with
            | true =>
              have HB : Hid (∀ w1, Calls Try.prog 115 #[.int .i64 x, .int .i64 0, .int .i64 12] w1 fun e w' => e = .returned (.bool true) ∧ w1 = w') := Lib.hid (fun w1 => by have := inRange_any x 0 12 w1; rwa [hb] at this)
              have HT' := Lib.hid (all_step hx.out hb HJ.out)
              clear hb
              go_wp2_with (go_at_call 115; refine (HB.out _).mono ?_; rintro e w1 ⟨rfl, rfl⟩)
              go_roundw
              case rel => exact ⟨j + 1, _, by omega, by go_num, rfl, HT'⟩
              case measure => simp [intOf]; omega
            | false =>
              have HB : Hid (∀ w1, Calls Try.prog 115 #[.int .i64 x, .int .i64 0, .int .i64 12] w1 fun e w' => e = .returned (.bool false) ∧ w1 = w') := Lib.hid (fun w1 => by have := inRange_any x 0 12 w1; rwa [hb] at this)
              have HE := Lib.hid (vr_bad hr.out (all_at (p := fun x => inR x 0 12) hx.out hb))
              clear hb
              go_wp2_with (go_at_call 115; refine (HB.out _).mono ?_; rintro e w1 ⟨rfl, rfl⟩)
              go_ret
              exact ⟨by rw [HE.out]; rfl, _, rfl⟩
          · obtain rfl : j = r.length := by omega
            have HT' := Lib.hid (sokTo_step HT.out hr.out HEQ.out HJ.out)
            go_wp2
            go_roundw
            case rel => exact ⟨k + 1, _, by omega, by go_num, rfl, HT'⟩
            case measure => simp [intOf]; omega
      · have he' : ¬ (r.length : Int) = (r0.length : Int) := by omega
        have HE := Lib.hid (vr_row hr.out (by rw [e0.out]; exact he))
        clear he
        go_wp2_with fail
        go_quiet (fail)
        go_wp2
        go_ret
        exact ⟨by rw [HE.out]; rfl, _, World.drewN_drewN _ _ _⟩
    · obtain rfl : k = rows.length := by omega
      have HB := Lib.hid (inRange_any (rows.length : Int) 1 4)
      by_cases hlen : 1 ≤ rows.length ∧ rows.length ≤ 4
      · have HE := Lib.hid (sokTo_all HT.out hlen)
        have HI : Hid (inR (rows.length : Int) 1 4 = true) := Lib.hid (inR_true.2 (by omega))
        rw [HI.out] at HB
        obtain ⟨b0, off0, r0, A0, c0, hA0, hr0, hc0, hcap0, hrd0⟩ := h.at_ (k := 0) (by omega)
        have e0 := rw_of hr0.out
        rw [e0] at HE
        subst hA0
        rw [Nat.add_zero] at hc0
        have HB0 := Lib.hid (inRange_any (r0.length : Int) 1 4)
        have h1l : 1 ≤ rows.length := hlen.1
        clear hlen e0 hr0 hrd0 HI
        go_wp2_with (go_at_call 115; first | ((with_reducible refine (HB.out _).mono ?_); rintro e w1 ⟨rfl, rfl⟩) | ((with_reducible refine (HB0.out _).mono ?_); rintro e w1 ⟨rfl, rfl⟩))
        go_ret
        exact ⟨by rw [HE.out]; rfl, _, rfl⟩
      · have HE := Lib.hid (vr_len hlen)
        have HI : Hid (inR (rows.length : Int) 1 4 = false) := Lib.hid (inR_false.2 (by omega))
        rw [HI.out] at HB
        clear hlen HI
        go_wp2_with (go_at_call 115; refine (HB.out _).mono ?_; rintro e w1 ⟨rfl, rfl⟩)
        go_ret
        exact ⟨by rw [HE.out]; rfl, _, rfl⟩

end Go.Proofs.Ytccbjgajmjcpjab
