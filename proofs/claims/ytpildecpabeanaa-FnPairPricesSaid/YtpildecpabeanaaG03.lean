/-
  Rows of ints in memory, wherever they lie: what reads as rows, and how it stays.
-/
import Derived.Test.YtpildecpabeanaaG01
import Derived.Deep.Matrix
import Derived.Test.YtpildecpabeanaaG02
namespace Go.Proofs.Ytpildecpabeanaa
open Go.RowKit

/-- A value that reads as a row. -/
def Row1 (w : World) (v : Value) (r : List Int) : Prop := ∃ (A : Option Addr) (c : Nat), v = .slice A r.length c ∧ r.length ≤ c ∧ Rd w A c r

/-- The slice (A, as long as rows, c) reads as rows of ints. -/
def RdR (w : World) (A : Option Addr) (c : Nat) (rows : List (List Int)) : Prop :=
  rows.length ≤ c ∧ ((rows = [] ∧ (A = none → c = 0)) ∨ ∃ b off, A = some ⟨b, off, none⟩ ∧ ∀ (k : Nat) (r : List Int), rows[k]? = some r → ∃ v, w.cell? ⟨b, off + k, none⟩ = some v ∧ Row1 w v r)

theorem Row1.below {w w' : World} {v : Value} {r : List Int} (h : Row1 w v r) (hb : Below w.heap.size w w') : Row1 w' v r := by
  obtain ⟨A, c, e, hc, hr⟩ := h
  exact ⟨A, c, e, hc, hr.below hb⟩
theorem RdR.below {w w' : World} {A : Option Addr} {c : Nat} {rows : List (List Int)} (h : RdR w A c rows) (hb : Below w.heap.size w w') : RdR w' A c rows := by
  refine ⟨h.1, ?_⟩
  rcases h.2 with h | ⟨b, off, rfl, hc⟩
  · exact .inl h
  · refine .inr ⟨b, off, rfl, fun k r hk => ?_⟩
    obtain ⟨v, hv, hr⟩ := hc k r hk
    exact ⟨v, (hb.cell (p := ⟨b, off + k, none⟩) (World.block_lt_of_cell? w _ hv)).trans hv, hr.below hb⟩
theorem RdR.drewN {w : World} {A : Option Addr} {c : Nat} {rows : List (List Int)} (h : RdR w A c rows) (n : Nat) : RdR (w.drewN n) A c rows := h
theorem RdR.nil (w : World) : RdR w none 0 [] := ⟨by simp, .inl ⟨rfl, fun _ => rfl⟩⟩

/-- Row k. -/
theorem RdR.at_ {w : World} {A : Option Addr} {c k : Nat} {rows : List (List Int)} (h : RdR w A c rows) (hk : k < rows.length) :
    ∃ b off r A' c', A = some ⟨b, off, none⟩ ∧ Hid (rows[k]? = some r) ∧ w.cell? ⟨b, off + k, none⟩ = some (.slice A' r.length c') ∧ Hid (r.length ≤ c') ∧ Hid (Rd w A' c' r) := by
  rcases h.2 with ⟨rfl, _⟩ | ⟨b, off, rfl, hc⟩
  · simp at hk
  · have e : rows[k]? = some rows[k] := List.getElem?_eq_getElem hk
    obtain ⟨v, hv, A', c', rfl, h1, h2⟩ := hc k _ e
    exact ⟨b, off, _, A', c', rfl, e, hv, h1, h2⟩
/-- Where the rows lie. -/
theorem RdR.open_ {w : World} {A : Option Addr} {c : Nat} {rows : List (List Int)} (h : RdR w A c rows) (h1 : 1 ≤ rows.length) :
    ∃ b off, A = some ⟨b, off, none⟩ ∧ rows.length ≤ c ∧ ∀ (k : Nat) (r : List Int), rows[k]? = some r → ∃ A' c', w.cell? ⟨b, off + k, none⟩ = some (.slice A' r.length c') ∧ r.length ≤ c' ∧ Rd w A' c' r := by
  rcases h.2 with ⟨rfl, _⟩ | ⟨b, off, rfl, hc⟩
  · simp at h1
  · refine ⟨b, off, rfl, h.1, fun k r hk => ?_⟩
    obtain ⟨v, hv, A', c', rfl, h1, h2⟩ := hc k r hk
    exact ⟨A', c', hv, h1, h2⟩
theorem RdR.take_ {w : World} {b off c c2 : Nat} {rows : List (List Int)} (h : RdR w (some ⟨b, off, none⟩) c rows) (m : Nat) (hc : min m rows.length ≤ c2) : RdR w (some ⟨b, off, none⟩) c2 (rows.take m) := by
  refine ⟨by simpa using hc, ?_⟩
  rcases h.2 with ⟨rfl, _⟩ | ⟨b', off', hA, hc⟩
  · exact .inl ⟨by simp, fun h => by cases h⟩
  · refine .inr ⟨b', off', hA, fun k r hk => hc k r ?_⟩
    rw [List.getElem?_take] at hk
    split at hk
    · exact hk
    · cases hk
theorem RdR.drop_ {w : World} {b off c c2 : Nat} {rows : List (List Int)} (h : RdR w (some ⟨b, off, none⟩) c rows) (m : Nat) (hc2 : rows.length - m ≤ c2) : RdR w (some ⟨b, off + m, none⟩) c2 (rows.drop m) := by
  refine ⟨by simpa using hc2, ?_⟩
  rcases h.2 with ⟨rfl, _⟩ | ⟨b', off', hA, hc⟩
  · exact .inl ⟨by simp, fun h => by cases h⟩
  · injection hA with hA; injection hA with h1 h2; subst h1; subst h2
    refine .inr ⟨_, _, rfl, fun k r hk => ?_⟩
    rw [List.getElem?_drop] at hk
    obtain ⟨v, hv, hr⟩ := hc _ r hk
    exact ⟨v, by rw [show off + m + k = off + (m + k) by omega]; exact hv, hr⟩

/-- Rows as a function. -/
def RW (rows : List (List Int)) (i : Nat) : List Int := rows.getD i []
theorem rw_of {rows : List (List Int)} {i : Nat} {r : List Int} (h : rows[i]? = some r) : RW rows i = r := by
  unfold RW; rw [List.getD_eq_getElem?_getD, h]; rfl
theorem rw_mem {rows : List (List Int)} {i : Nat} (h : i < rows.length) : RW rows i ∈ rows := by
  rw [rw_of (List.getElem?_eq_getElem h)]; simp

/-- Demands. -/
def VD (rows : List (List Int)) : Prop := (1 ≤ rows.length ∧ rows.length ≤ 4) ∧ ∀ r ∈ rows, RowOk r
theorem VD.good {rows : List (List Int)} (h : VD rows) : Good (RW rows) rows.length := fun _ hi => h.2 _ (rw_mem hi)

noncomputable def rowB (r : List Int) : Bool := @decide (RowOk r) (Classical.propDecidable _)
theorem rowB_true {r : List Int} (h : RowOk r) : rowB r = true := by unfold rowB; simp [h]
theorem rowB_false {r : List Int} (h : ¬ RowOk r) : rowB r = false := by unfold rowB; simp [h]
theorem rowB_iff {r : List Int} : rowB r = true ↔ RowOk r := by unfold rowB; simp
noncomputable def vdB (rows : List (List Int)) : Bool := @decide (VD rows) (Classical.propDecidable _)
theorem vdB_true {rows : List (List Int)} (h : VD rows) : vdB rows = true := by unfold vdB; simp [h]
theorem vdB_false {rows : List (List Int)} (h : ¬ VD rows) : vdB rows = false := by unfold vdB; simp [h]
theorem vdB_iff {rows : List (List Int)} : vdB rows = true ↔ VD rows := by unfold vdB; simp

/-- Of the first k numbers each is fine. -/
def okTo (r : List Int) (k : Nat) : Prop := ∀ (j : Nat) (x : Int), j < k → r[j]? = some x → 0 ≤ x ∧ x ≤ 30 ∧ ∀ y : Int, 0 < j → r[j - 1]? = some y → x ≤ y
theorem okTo_step {r : List Int} {k : Nat} {x : Int} (h : okTo r k) (hx : r[k]? = some x) (h0 : 0 ≤ x) (h1 : x ≤ 30) (h2 : ∀ y : Int, 0 < k → r[k - 1]? = some y → x ≤ y) : okTo r (k + 1) := by
  intro j z hj hz
  rcases Nat.lt_or_ge j k with hjk | hjk
  · exact h j z hjk hz
  · obtain rfl : j = k := by omega
    rw [hx] at hz; cases hz
    exact ⟨h0, h1, h2⟩
theorem okTo_zero (r : List Int) : okTo r 0 := fun j x hj => absurd hj (by omega)
theorem okTo_all {r : List Int} (h : okTo r r.length) (hl : r.length ≤ 5) : rowB r = true :=
  rowB_true (rowOk_of hl (fun k x hx => h k x (List.getElem?_eq_some_iff.1 hx).1 hx))
theorem okTo_out {r : List Int} {k : Nat} {x : Int} (hx : r[k]? = some x) (h : ¬ (0 ≤ x ∧ x ≤ 30)) : rowB r = false :=
  rowB_false (fun ho => h ⟨(ho.2 k x hx).1, (ho.2 k x hx).2.1⟩)
theorem okTo_more {r : List Int} {k : Nat} {x y : Int} (hx : r[k]? = some x) (hk : 0 < k) (hy : r[k - 1]? = some y) (h : y < x) : rowB r = false :=
  rowB_false (fun ho => by have := (ho.2 k x hx).2.2 (k - 1) y (by omega) hy; omega)
theorem okTo_long {r : List Int} (h : 5 < r.length) : rowB r = false := rowB_false (fun ho => by have := ho.1; omega)

theorem vd_no {rows : List (List Int)} {k : Nat} {r : List Int} (hr : rows[k]? = some r) (h : rowB r = false) : vdB rows = false :=
  vdB_false (fun ho => by
    have := rowB_true (ho.2 r (List.mem_of_getElem? hr))
    rw [h] at this; cases this)
theorem vd_len {rows : List (List Int)} (h : ¬ (1 ≤ rows.length ∧ rows.length ≤ 4)) : vdB rows = false := vdB_false (fun ho => h ho.1)
/-- Of the first k rows each is one. -/
def rowsTo (rows : List (List Int)) (k : Nat) : Prop := ∀ (j : Nat) (r : List Int), j < k → rows[j]? = some r → rowB r = true
theorem rowsTo_step {rows : List (List Int)} {k : Nat} {r : List Int} (h : rowsTo rows k) (hr : rows[k]? = some r) (hb : rowB r = true) : rowsTo rows (k + 1) := by
  intro j z hj hz
  rcases Nat.lt_or_ge j k with hjk | hjk
  · exact h j z hjk hz
  · obtain rfl : j = k := by omega
    rw [hr] at hz; cases hz
    exact hb
theorem rowsTo_zero (rows : List (List Int)) : rowsTo rows 0 := fun j r hj => absurd hj (by omega)
theorem rowsTo_all {rows : List (List Int)} (h : rowsTo rows rows.length) (hl : 1 ≤ rows.length ∧ rows.length ≤ 4) : vdB rows = true :=
  vdB_true ⟨hl, fun r hr => by
    obtain ⟨k, hk, rfl⟩ := List.getElem_of_mem hr
    exact rowB_iff.1 (h k _ hk (List.getElem?_eq_getElem hk))⟩

end Go.Proofs.Ytpildecpabeanaa

/-
  Chapter 8: markets of pairs: ValidRows of the program.
-/
namespace Go.Proofs.Ytpildecpabeanaa
open Go.RowKit

/-- A row of worths. -/
def wB (xs : List Int) : Bool := inR xs.length 1 4 && xs.all (fun x => inR x 0 12)
def VR (rows : List (List Int)) : Prop := (1 ≤ rows.length ∧ rows.length ≤ 4) ∧ ∀ r ∈ rows, r.length = (RW rows 0).length ∧ wB r = true
noncomputable def vrB (rows : List (List Int)) : Bool := @decide (VR rows) (Classical.propDecidable _)
theorem vr_true {rows : List (List Int)} (h : VR rows) : vrB rows = true := by unfold vrB; simp [h]
theorem vr_false {rows : List (List Int)} (h : ¬ VR rows) : vrB rows = false := by unfold vrB; simp [h]
theorem vr_iff {rows : List (List Int)} : vrB rows = true ↔ VR rows := by unfold vrB; simp
theorem vr_len {rows : List (List Int)} (h : ¬ (1 ≤ rows.length ∧ rows.length ≤ 4)) : vrB rows = false := vr_false (fun ho => h ho.1)
/-- What a row is asked. -/
def rokB (m : Nat) (r : List Int) : Bool := decide (r.length = m) && wB r
theorem vr_no {rows : List (List Int)} {k : Nat} {r : List Int} (hr : rows[k]? = some r) (h : rokB (RW rows 0).length r = false) : vrB rows = false := vr_false (fun ho => by
  have := ho.2 r (List.mem_of_getElem? hr)
  simp [rokB, this.1, this.2] at h)
def rokTo (rows : List (List Int)) (k : Nat) : Prop := ∀ (j : Nat) (r : List Int), j < k → rows[j]? = some r → rokB (RW rows 0).length r = true
theorem rokTo_step {rows : List (List Int)} {k : Nat} {r : List Int} (h : rokTo rows k) (hr : rows[k]? = some r) (hb : rokB (RW rows 0).length r = true) : rokTo rows (k + 1) := by
  intro j x hj hx
  rcases Nat.lt_or_ge j k with h' | h'
  · exact h j x h' hx
  · obtain rfl : j = k := by omega
    rw [hr] at hx; cases hx; exact hb
theorem rokTo_zero (rows : List (List Int)) : rokTo rows 0 := fun j r hj => absurd hj (by omega)
theorem rokTo_all {rows : List (List Int)} (h : rokTo rows rows.length) (hl : 1 ≤ rows.length ∧ rows.length ≤ 4) : vrB rows = true := vr_true (⟨hl, fun r hr => by
  obtain ⟨k, hk, rfl⟩ := List.getElem_of_mem hr
  have := h k _ hk (List.getElem?_eq_getElem hk)
  simp only [rokB, Bool.and_eq_true, decide_eq_true_eq] at this
  exact this⟩)
theorem wB_bad {xs : List Int} (h : xs.all (fun x => inR x 0 12) = false) : wB xs = false := by simp only [wB, h, Bool.and_false]
theorem wB_all {xs : List Int} (h : (xs.take xs.length).all (fun x => inR x 0 12) = true) : wB xs = inR xs.length 1 4 := by
  rw [List.take_length] at h; simp only [wB, h, Bool.and_true]
theorem wB_len {xs : List Int} (h : inR xs.length 1 4 = false) : wB xs = false := by simp only [wB, h, Bool.false_and]

theorem isWorth_any (n : Int) (w : World) :
    Calls Try.prog 148 #[.int .i64 n] w fun e w' => e = .returned (.bool (inR n 0 12)) ∧ w = w' := by
  by_cases h1 : 0 ≤ n
  · by_cases h2 : n ≤ 12
    · have HE := Lib.hid (inR_true.2 ⟨h1, h2⟩)
      go_enter Try.func148, Try.ntmps148
      go_wp2
      go_ret
      exact ⟨by rw [HE.out]; rfl, rfl⟩
    · have HE := Lib.hid (inR_false.2 (fun h : 0 ≤ n ∧ n ≤ 12 => h2 h.2))
      go_enter Try.func148, Try.ntmps148
      go_wp2
      go_ret
      exact ⟨by rw [HE.out]; rfl, rfl⟩
  · have HE := Lib.hid (inR_false.2 (fun h : 0 ≤ n ∧ n ≤ 12 => h1 h.1))
    go_enter Try.func148, Try.ntmps148
    go_wp2
    go_ret
    exact ⟨by rw [HE.out]; rfl, rfl⟩

set_option maxHeartbeats 400000 in
/-- areAll at worths. -/
theorem areWorths_any (A : Option Addr) (c : Nat) (xs : List Int) (w : World) (h : Rd w A c xs) (hl : xs.length ≤ 1099511627776) :
    Calls Try.prog 78 #[.slice A xs.length c, .int .i64 4, .func (.func 148) #[] #[]] w fun e w' => e = .returned (.bool (wB xs)) ∧ w = w' := by
  by_cases h1 : 1 ≤ xs.length
  · by_cases h2 : xs.length ≤ 4
    · have HR := Lib.hid (inR_true (n := (xs.length : Int)) (lo := 1) (hi := 4) |>.2 ⟨by omega, by omega⟩)
      go_enter Try.func78, Try.ntmps78
      go_wp2
      go_loop [20] (fun i => ∃ k : Nat, k ≤ xs.length ∧ i = .int .i64 k ∧ Hid ((xs.take k).all (fun x => inR x 0 12) = true)) (fun i => xs.length - (intOf i).toNat)
      case atStart => exact ⟨0, Nat.zero_le _, rfl, Lib.hid rfl⟩
      case round =>
        obtain ⟨k, hk, rfl, HT⟩ := hrel
        by_cases hlt : k < xs.length
        · obtain ⟨b, off, x, rfl, _, hx, hc⟩ := h.at_ hlt
          go_wp2_with fail
          refine (isWorth_any _ _).mono ?_
          rintro e w' ⟨rfl, rfl⟩
          cases hb : inR x 0 12 with
          | true =>
            have HT' := Lib.hid (all_step hx.out hb HT.out)
            clear hb
            go_wp2
            go_round
            case rel => exact ⟨k + 1, by omega, by go_num, HT'⟩
            case measure => simp [intOf]; omega
          | false =>
            have HE := Lib.hid (wB_bad (all_at (p := fun x => inR x 0 12) hx.out hb))
            clear hb
            go_wp2
            go_ret
            exact ⟨by rw [HE.out]; rfl, rfl⟩
        · obtain rfl : k = xs.length := by omega
          have HE := Lib.hid (wB_all HT.out)
          go_wp2
          go_ret
          exact ⟨by rw [HE.out, HR.out]; rfl, rfl⟩
    · have HE := Lib.hid (wB_len (inR_false (n := (xs.length : Int)) (lo := 1) (hi := 4) |>.2 (by omega)))
      go_enter Try.func78, Try.ntmps78
      go_wp2
      go_ret
      exact ⟨by rw [HE.out]; rfl, rfl⟩
  · have HE := Lib.hid (wB_len (inR_false (n := (xs.length : Int)) (lo := 1) (hi := 4) |>.2 (by omega)))
    go_enter Try.func78, Try.ntmps78
    go_wp2
    go_ret
    exact ⟨by rw [HE.out]; rfl, rfl⟩

set_option maxHeartbeats 400000 in
theorem rowOk_any (A A' : Option Addr) (c c' p : Nat) (rows : List (List Int)) (r : List Int) (w : World) (hR : RdR w A c rows) (h1 : 1 ≤ rows.length) (hb : w.cell? ⟨p, 0, none⟩ = some (.slice A rows.length c)) (h : Rd w A' c' r) (hl : rows.length ≤ 4) (hl2 : ∀ r ∈ rows, r.length ≤ 1099511627776) (hrl : r.length ≤ 1099511627776) :
    Calls Try.prog 147 #[.slice A' r.length c', .pointer (some ⟨p, 0, none⟩)] w fun e w' => e = .returned (.bool (rokB (RW rows 0).length r)) ∧ ∃ n, w' = w.drewN n := by
  obtain ⟨b, off, r0, A0, c0, rfl, hr0, hc0, hcap0, hrd0⟩ := hR.at_ (k := 0) h1
  have e0 : RW rows 0 = r0 := rw_of hr0.out
  have hr0l : r0.length ≤ 1099511627776 := hl2 r0 (List.mem_of_getElem? hr0.out)
  have HC := Lib.hid (areWorths_any A' c' r w h hrl)
  rw [e0]
  rw [Nat.add_zero] at hc0
  clear e0 hr0 hrd0
  by_cases he : r.length = r0.length
  · have HE : Hid (rokB r0.length r = wB r) := Lib.hid (by simp [rokB, he])
    have he' : (r.length : Int) = (r0.length : Int) := by omega
    clear he
    go_enter Try.func147, Try.ntmps147
    go_wp2_with (go_at_call 78; refine HC.out.mono ?_; rintro e w1 ⟨rfl, rfl⟩)
    go_ret
    exact ⟨by rw [HE.out]; rfl, 0, rfl⟩
  · have HE : Hid (rokB r0.length r = false) := Lib.hid (by simp [rokB, he])
    have he' : ¬ (r.length : Int) = (r0.length : Int) := by omega
    clear he
    go_enter Try.func147, Try.ntmps147
    go_wp2_with (go_at_call 78; refine HC.out.mono ?_; rintro e w1 ⟨rfl, rfl⟩)
    go_ret
    exact ⟨by rw [HE.out]; rfl, 0, rfl⟩

set_option maxHeartbeats 400000 in
theorem areMarket_any (A : Option Addr) (c p : Nat) (rows : List (List Int)) (w : World) (h : RdR w A c rows) (hb : w.cell? ⟨p, 0, none⟩ = some (.slice A rows.length c)) (hl : rows.length ≤ 1099511627776) (hl2 : ∀ r ∈ rows, r.length ≤ 1099511627776) :
    Calls Try.prog 132 #[.slice A rows.length c, .int .i64 4, .func (.func 147) #[] #[.pointer (some ⟨p, 0, none⟩)]] w fun e w' => e = .returned (.bool (vrB rows)) ∧ ∃ n, w' = w.drewN n := by
  by_cases h1 : rows.length < 1
  · have HE := Lib.hid (vr_len (rows := rows) (by omega))
    go_enter Try.func132, Try.ntmps132
    go_wp2
    go_ret
    exact ⟨by rw [HE.out]; rfl, 0, rfl⟩
  by_cases h4 : 4 < rows.length
  · have HE := Lib.hid (vr_len (rows := rows) (by omega))
    go_enter Try.func132, Try.ntmps132
    go_wp2
    go_ret
    exact ⟨by rw [HE.out]; rfl, 0, rfl⟩
  have h1' : 1 ≤ rows.length := by omega
  have h4' : rows.length ≤ 4 := by omega
  clear h1 h4
  go_enter Try.func132, Try.ntmps132
  go_wp2
  go_loopw [20] (fun i wr => ∃ k n : Nat, k ≤ rows.length ∧ i = .int .i64 k ∧ wr = w.drewN n ∧ Hid (rokTo rows k)) (fun i _ => rows.length - (intOf i).toNat)
  case atStart => exact ⟨0, 0, Nat.zero_le _, rfl, rfl, Lib.hid (rokTo_zero rows)⟩
  case round =>
    obtain ⟨k, n, hk, rfl, rfl, HT⟩ := hrel
    by_cases hlt : k < rows.length
    · obtain ⟨b, off, r, A', c', rfl, hr, hc, hcap, hrd⟩ := h.at_ hlt
      have hrl : r.length ≤ 1099511627776 := hl2 r (List.mem_of_getElem? hr.out)
      have HC : Hid (∀ n, Calls Try.prog 147 #[.slice A' r.length c', .pointer (some ⟨p, 0, none⟩)] (w.drewN n) fun e w' => e = .returned (.bool (rokB (RW rows 0).length r)) ∧ ∃ m, w' = (w.drewN n).drewN m) := Lib.hid (fun n => rowOk_any (some ⟨b, off, none⟩) A' c c' p rows r (w.drewN n) (h.drewN n) h1' hb (hrd.out.drewN n) h4' hl2 hrl)
      rcases hbk : rokB (RW rows 0).length r with _ | _
      · have HE := Lib.hid (vr_no hr.out hbk)
        rw [hbk] at HC
        clear hbk hr hrd hrl
        go_wp2_with (go_at_call 147; refine (HC.out _).mono ?_; rintro e w1 ⟨rfl, m, rfl⟩)
        go_ret
        exact ⟨by rw [HE.out]; rfl, _, rfl⟩
      · have HT' := Lib.hid (rokTo_step HT.out hr.out hbk)
        rw [hbk] at HC
        clear hbk hr hrd hrl
        go_wp2_with (go_at_call 147; refine (HC.out _).mono ?_; rintro e w1 ⟨rfl, m, rfl⟩)
        go_roundw
        case rel => exact ⟨k + 1, _, by omega, by go_num, rfl, HT'⟩
        case measure => simp [intOf]; omega
    · obtain rfl : k = rows.length := by omega
      have HE := Lib.hid (rokTo_all HT.out ⟨h1', h4'⟩)
      go_wp2
      go_ret
      exact ⟨by rw [HE.out]; rfl, _, rfl⟩

set_option maxHeartbeats 400000 in
theorem ValidRows_any (A : Option Addr) (c : Nat) (rows : List (List Int)) (w : World) (h : RdR w A c rows) (hl : rows.length ≤ 1099511627776) (hl2 : ∀ r ∈ rows, r.length ≤ 1099511627776) :
    Calls Try.prog 98 #[.slice A rows.length c] w fun e w' => e = .returned (.bool (vrB rows)) ∧ Below w.heap.size w w' := by
  have b1 := (Below.refl w.heap.size w).alloc (Nat.le_refl _) (.cells #[.slice A rows.length c] 35)
  have hc : (w.alloc (.cells #[.slice A rows.length c] 35)).cell? ⟨w.heap.size, 0, none⟩ = some (.slice A rows.length c) := by rw [World.cell?_alloc_new]; rfl
  have HC := Lib.hid (areMarket_any A c w.heap.size rows _ (h.below b1) hc hl hl2)
  have HB := Lib.hid b1
  clear b1 hc
  go_enter Try.func98, Try.ntmps98
  go_wp2_with (go_at_call 132; refine HC.out.mono ?_; rintro e w1 ⟨rfl, m, rfl⟩)
  go_ret
  exact ⟨rfl, below_drewN' HB.out m⟩
end Go.Proofs.Ytpildecpabeanaa
