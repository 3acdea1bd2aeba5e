/-
  Chapter 3, the program: the contracts of paysOf, its closures, and PivotUnits, PushedUnits, EachUnits.
-/
import Derived.Test.YtkkdffmpeadinaaUm
namespace Go.Proofs.Ytkkdffmpeadinaa
open Go.RowKit

/-- A value for each of n. -/
def vls (f : Nat → Int) (n : Nat) : List Int := (List.range n).map f
theorem vls_len (f : Nat → Int) (n : Nat) : (vls f n).length = n := by simp [vls]
theorem vls_at {f : Nat → Int} {n i : Nat} (hi : i < n) : (vls f n)[i]? = some (f i) := by simp [vls, hi]

/-- What a call hands back: n values, in a block of its own. -/
def ValsIs (w : World) (f : Nat → Int) (n : Nat) (e : Ending) (w' : World) : Prop :=
  ∃ g c, e = .returned (.slice (some ⟨g, 0, none⟩) n c) ∧ Own w' w.heap.size (some ⟨g, 0, none⟩) c (vls f n) ∧ Below w.heap.size w w'

set_option maxHeartbeats 1000000 in
theorem paysOf_Piv (A : Option Addr) (c k : Nat) (rows : List (List Int)) (p1 p2 : Value) (f : Nat → Int) (w : World) (hR : RdR w A c rows) (hv : VD rows) (hk : k ≤ 5)
    (HP : ∀ (i g d : Nat) (w' : World), i < rows.length → Below w.heap.size w w' → Rd w' (some ⟨g, 0, none⟩) d (lst (aw (RW rows) rows.length k) rows.length) →
      Calls Try.prog 73 #[.slice (some ⟨g, 0, none⟩) rows.length d, .int .i64 i, p1, p2] w' fun e w'' => e = .returned (.int .i64 (f i)) ∧ Below w'.heap.size w' w'') :
    Calls Try.prog 59 #[.slice A rows.length c, .int .i64 k, .func (.func 73) #[] #[p1, p2]] w (ValsIs w f rows.length) := by
  have HC := Lib.hid (areForUnits_any A c rows k w hR (by have := hv.1; omega) hv.lens)
  rw [fuB_yes hv hk] at HC
  have HA := Lib.hid (fun n => AwardUnits_yes A c rows k (w.drewN n) (hR.drewN n) hv hk)
  have hl : rows.length ≤ 4 := hv.1.2
  have HPP := Lib.hid HP
  clear hv HP
  go_enter Try.func59, Try.ntmps59
  go_wp2_with fail
  refine HC.out.mono ?_
  rintro e w1 ⟨rfl, m, rfl⟩
  go_wp2_with fail
  refine (HA.out m).mono ?_
  rintro e w2 ⟨g, d, rfl, o2, b2⟩
  have B2 : Below w.heap.size w w2 := (below_drewN' (Below.refl _ w) m).trans b2
  go_wp2_with (at_make; refine wpList_make_ints rfl _ _ rfl w2.heap.size rows.length rfl rfl (by omega) (by simp) ?_; intro w3 o3 b3)
  have B3 := B2.trans (b3.mono B2.size)
  have HO3 : Hid (Own w3 w2.heap.size (some ⟨w2.heap.size, 0, none⟩) rows.length (filled (vls f rows.length) 0)) := Lib.hid (by rw [filled_zero, vls_len]; exact o3)
  have HH3 : Hid (Own w3 w.heap.size (some ⟨g, 0, none⟩) d (lst (aw (RW rows) rows.length k) rows.length)) := Lib.hid (o2.below b3)
  have hgl := o2.lt
  obtain ⟨g2, hg2⟩ : ∃ g2, g2 = w2.heap.size := ⟨_, rfl⟩
  have hws : w.heap.size ≤ g2 := by rw [hg2]; exact B2.size
  rw [← hg2] at HO3 hgl ⊢
  clear o2 o3 b3 b2 hg2
  go_loopw [22] (fun i wr => ∃ j : Nat, j ≤ rows.length ∧ i = .int .i64 j ∧ Hid (Own wr g2 (some ⟨g2, 0, none⟩) rows.length (filled (vls f rows.length) j)) ∧ Hid (Own wr w.heap.size (some ⟨g, 0, none⟩) d (lst (aw (RW rows) rows.length k) rows.length)) ∧ Below w.heap.size w wr) (fun i _ => rows.length - (intOf i).toNat)
  case atStart => exact ⟨0, Nat.zero_le _, rfl, HO3, HH3, B3⟩
  case round =>
    obtain ⟨j, hj, rfl, HO, HH, hb⟩ := hrel
    by_cases hlt : j < rows.length
    · have HF := Lib.hid (HPP.out j g d wr hlt hb HH.out.rd)
      go_wp2_with fail
      refine HF.out.mono ?_
      rintro e w4 ⟨rfl, b4⟩
      have B4 := hb.trans (b4.mono hb.size)
      have o4 := HO.out.below b4
      have HH4 := Lib.hid (HH.out.below b4)
      have hjl : j < (filled (vls f rows.length) j).length := by rw [filled_len _ _ (by rw [vls_len]; exact hj), vls_len]; exact hlt
      obtain ⟨x, hx⟩ := at_some hjl
      have hc := o4.cell hx
      have hfr := o4.free j
      have hst := o4.set_ j (f j)
      rw [filled_set _ _ _ (vls_at hlt)] at hst
      have HST := Lib.hid hst
      have HHS : Hid (Own (w4.setCell ⟨g2, j, none⟩ (.int .i64 (f j))) w.heap.size (some ⟨g, 0, none⟩) d (lst (aw (RW rows) rows.length k) rows.length)) := Lib.hid (HH4.out.kept_ (A2 := some ⟨g2, 0, none⟩) (World.ownsRow.stored o4 j (.int .i64 (f j))).2 (.inr (fun e => by have := Option.some.inj e; simp at this; omega)))
      have HBS : Hid (Below w.heap.size w (w4.setCell ⟨g2, j, none⟩ (.int .i64 (f j)))) := Lib.hid (B4.setCell hws _)
      clear o4 hst hjl hx b4 B4
      go_wp2
      go_roundw
      case rel => exact ⟨j + 1, by omega, by go_num, HST, HHS, HBS.out⟩
      case measure => simp [intOf]; omega
    · obtain rfl : j = rows.length := by omega
      have HE : Hid (Own wr w.heap.size (some ⟨g2, 0, none⟩) rows.length (vls f rows.length)) := Lib.hid (by
        have h1 := filled_all (vls f rows.length)
        rw [vls_len] at h1
        have h2 := HO.out
        rw [h1] at h2
        exact h2.base hws)
      go_wp2
      go_ret
      exact ⟨g2, _, rfl, HE.out, hb⟩

set_option maxHeartbeats 1000000 in
theorem paysOf_Push (A : Option Addr) (c k : Nat) (rows : List (List Int)) (p1 p2 : Value) (f : Nat → Int) (w : World) (hR : RdR w A c rows) (hv : VD rows) (hk : k ≤ 5)
    (HP : ∀ (i g d : Nat) (w' : World), i < rows.length → Below w.heap.size w w' → Rd w' (some ⟨g, 0, none⟩) d (lst (aw (RW rows) rows.length k) rows.length) →
      Calls Try.prog 60 #[.slice (some ⟨g, 0, none⟩) rows.length d, .int .i64 i, p1, p2] w' fun e w'' => e = .returned (.int .i64 (f i)) ∧ Below w'.heap.size w' w'') :
    Calls Try.prog 59 #[.slice A rows.length c, .int .i64 k, .func (.func 60) #[] #[p1, p2]] w (ValsIs w f rows.length) := by
  have HC := Lib.hid (areForUnits_any A c rows k w hR (by have := hv.1; omega) hv.lens)
  rw [fuB_yes hv hk] at HC
  have HA := Lib.hid (fun n => AwardUnits_yes A c rows k (w.drewN n) (hR.drewN n) hv hk)
  have hl : rows.length ≤ 4 := hv.1.2
  have HPP := Lib.hid HP
  clear hv HP
  go_enter Try.func59, Try.ntmps59
  go_wp2_with fail
  refine HC.out.mono ?_
  rintro e w1 ⟨rfl, m, rfl⟩
  go_wp2_with fail
  refine (HA.out m).mono ?_
  rintro e w2 ⟨g, d, rfl, o2, b2⟩
  have B2 : Below w.heap.size w w2 := (below_drewN' (Below.refl _ w) m).trans b2
  go_wp2_with (at_make; refine wpList_make_ints rfl _ _ rfl w2.heap.size rows.length rfl rfl (by omega) (by simp) ?_; intro w3 o3 b3)
  have B3 := B2.trans (b3.mono B2.size)
  have HO3 : Hid (Own w3 w2.heap.size (some ⟨w2.heap.size, 0, none⟩) rows.length (filled (vls f rows.length) 0)) := Lib.hid (by rw [filled_zero, vls_len]; exact o3)
  have HH3 : Hid (Own w3 w.heap.size (some ⟨g, 0, none⟩) d (lst (aw (RW rows) rows.length k) rows.length)) := Lib.hid (o2.below b3)
  have hgl := o2.lt
  obtain ⟨g2, hg2⟩ : ∃ g2, g2 = w2.heap.size := ⟨_, rfl⟩
  have hws : w.heap.size ≤ g2 := by rw [hg2]; exact B2.size
  rw [← hg2] at HO3 hgl ⊢
  clear o2 o3 b3 b2 hg2
  go_loopw [22] (fun i wr => ∃ j : Nat, j ≤ rows.length ∧ i = .int .i64 j ∧ Hid (Own wr g2 (some ⟨g2, 0, none⟩) rows.length (filled (vls f rows.length) j)) ∧ Hid (Own wr w.heap.size (some ⟨g, 0, none⟩) d (lst (aw (RW rows) rows.length k) rows.length)) ∧ Below w.heap.size w wr) (fun i _ => rows.length - (intOf i).toNat)
  case atStart => exact ⟨0, Nat.zero_le _, rfl, HO3, HH3, B3⟩
  case round =>
    obtain ⟨j, hj, rfl, HO, HH, hb⟩ := hrel
    by_cases hlt : j < rows.length
    · have HF := Lib.hid (HPP.out j g d wr hlt hb HH.out.rd)
      go_wp2_with fail
      refine HF.out.mono ?_
      rintro e w4 ⟨rfl, b4⟩
      have B4 := hb.trans (b4.mono hb.size)
      have o4 := HO.out.below b4
      have HH4 := Lib.hid (HH.out.below b4)
      have hjl : j < (filled (vls f rows.length) j).length := by rw [filled_len _ _ (by rw [vls_len]; exact hj), vls_len]; exact hlt
      obtain ⟨x, hx⟩ := at_some hjl
      have hc := o4.cell hx
      have hfr := o4.free j
      have hst := o4.set_ j (f j)
      rw [filled_set _ _ _ (vls_at hlt)] at hst
      have HST := Lib.hid hst
      have HHS : Hid (Own (w4.setCell ⟨g2, j, none⟩ (.int .i64 (f j))) w.heap.size (some ⟨g, 0, none⟩) d (lst (aw (RW rows) rows.length k) rows.length)) := Lib.hid (HH4.out.kept_ (A2 := some ⟨g2, 0, none⟩) (World.ownsRow.stored o4 j (.int .i64 (f j))).2 (.inr (fun e => by have := Option.some.inj e; simp at this; omega)))
      have HBS : Hid (Below w.heap.size w (w4.setCell ⟨g2, j, none⟩ (.int .i64 (f j)))) := Lib.hid (B4.setCell hws _)
      clear o4 hst hjl hx b4 B4
      go_wp2
      go_roundw
      case rel => exact ⟨j + 1, by omega, by go_num, HST, HHS, HBS.out⟩
      case measure => simp [intOf]; omega
    · obtain rfl : j = rows.length := by omega
      have HE : Hid (Own wr w.heap.size (some ⟨g2, 0, none⟩) rows.length (vls f rows.length)) := Lib.hid (by
        have h1 := filled_all (vls f rows.length)
        rw [vls_len] at h1
        have h2 := HO.out
        rw [h1] at h2
        exact h2.base hws)
      go_wp2
      go_ret
      exact ⟨g2, _, rfl, HE.out, hb⟩

set_option maxHeartbeats 1000000 in
theorem paysOf_Each (A : Option Addr) (c k : Nat) (rows : List (List Int)) (p1 : Value) (f : Nat → Int) (w : World) (hR : RdR w A c rows) (hv : VD rows) (hk : k ≤ 5)
    (HP : ∀ (i g d : Nat) (w' : World), i < rows.length → Below w.heap.size w w' → Rd w' (some ⟨g, 0, none⟩) d (lst (aw (RW rows) rows.length k) rows.length) →
      Calls Try.prog 64 #[.slice (some ⟨g, 0, none⟩) rows.length d, .int .i64 i, p1] w' fun e w'' => e = .returned (.int .i64 (f i)) ∧ Below w'.heap.size w' w'') :
    Calls Try.prog 59 #[.slice A rows.length c, .int .i64 k, .func (.func 64) #[] #[p1]] w (ValsIs w f rows.length) := by
  have HC := Lib.hid (areForUnits_any A c rows k w hR (by have := hv.1; omega) hv.lens)
  rw [fuB_yes hv hk] at HC
  have HA := Lib.hid (fun n => AwardUnits_yes A c rows k (w.drewN n) (hR.drewN n) hv hk)
  have hl : rows.length ≤ 4 := hv.1.2
  have HPP := Lib.hid HP
  clear hv HP
  go_enter Try.func59, Try.ntmps59
  go_wp2_with fail
  refine HC.out.mono ?_
  rintro e w1 ⟨rfl, m, rfl⟩
  go_wp2_with fail
  refine (HA.out m).mono ?_
  rintro e w2 ⟨g, d, rfl, o2, b2⟩
  have B2 : Below w.heap.size w w2 := (below_drewN' (Below.refl _ w) m).trans b2
  go_wp2_with (at_make; refine wpList_make_ints rfl _ _ rfl w2.heap.size rows.length rfl rfl (by omega) (by simp) ?_; intro w3 o3 b3)
  have B3 := B2.trans (b3.mono B2.size)
  have HO3 : Hid (Own w3 w2.heap.size (some ⟨w2.heap.size, 0, none⟩) rows.length (filled (vls f rows.length) 0)) := Lib.hid (by rw [filled_zero, vls_len]; exact o3)
  have HH3 : Hid (Own w3 w.heap.size (some ⟨g, 0, none⟩) d (lst (aw (RW rows) rows.length k) rows.length)) := Lib.hid (o2.below b3)
  have hgl := o2.lt
  obtain ⟨g2, hg2⟩ : ∃ g2, g2 = w2.heap.size := ⟨_, rfl⟩
  have hws : w.heap.size ≤ g2 := by rw [hg2]; exact B2.size
  rw [← hg2] at HO3 hgl ⊢
  clear o2 o3 b3 b2 hg2
  go_loopw [22] (fun i wr => ∃ j : Nat, j ≤ rows.length ∧ i = .int .i64 j ∧ Hid (Own wr g2 (some ⟨g2, 0, none⟩) rows.length (filled (vls f rows.length) j)) ∧ Hid (Own wr w.heap.size (some ⟨g, 0, none⟩) d (lst (aw (RW rows) rows.length k) rows.length)) ∧ Below w.heap.size w wr) (fun i _ => rows.length - (intOf i).toNat)
  case atStart => exact ⟨0, Nat.zero_le _, rfl, HO3, HH3, B3⟩
  case round =>
    obtain ⟨j, hj, rfl, HO, HH, hb⟩ := hrel
    by_cases hlt : j < rows.length
    · have HF := Lib.hid (HPP.out j g d wr hlt hb HH.out.rd)
      go_wp2_with fail
      refine HF.out.mono ?_
      rintro e w4 ⟨rfl, b4⟩
      have B4 := hb.trans (b4.mono hb.size)
      have o4 := HO.out.below b4
      have HH4 := Lib.hid (HH.out.below b4)
      have hjl : j < (filled (vls f rows.length) j).length := by rw [filled_len _ _ (by rw [vls_len]; exact hj), vls_len]; exact hlt
      obtain ⟨x, hx⟩ := at_some hjl
      have hc := o4.cell hx
      have hfr := o4.free j
      have hst := o4.set_ j (f j)
      rw [filled_set _ _ _ (vls_at hlt)] at hst
      have HST := Lib.hid hst
      have HHS : Hid (Own (w4.setCell ⟨g2, j, none⟩ (.int .i64 (f j))) w.heap.size (some ⟨g, 0, none⟩) d (lst (aw (RW rows) rows.length k) rows.length)) := Lib.hid (HH4.out.kept_ (A2 := some ⟨g2, 0, none⟩) (World.ownsRow.stored o4 j (.int .i64 (f j))).2 (.inr (fun e => by have := Option.some.inj e; simp at this; omega)))
      have HBS : Hid (Below w.heap.size w (w4.setCell ⟨g2, j, none⟩ (.int .i64 (f j)))) := Lib.hid (B4.setCell hws _)
      clear o4 hst hjl hx b4 B4
      go_wp2
      go_roundw
      case rel => exact ⟨j + 1, by omega, by go_num, HST, HHS, HBS.out⟩
      case measure => simp [intOf]; omega
    · obtain rfl : j = rows.length := by omega
      have HE : Hid (Own wr w.heap.size (some ⟨g2, 0, none⟩) rows.length (vls f rows.length)) := Lib.hid (by
        have h1 := filled_all (vls f rows.length)
        rw [vls_len] at h1
        have h2 := HO.out
        rw [h1] at h2
        exact h2.base hws)
      go_wp2
      go_ret
      exact ⟨g2, _, rfl, HE.out, hb⟩

theorem paysOf_no (A : Option Addr) (c : Nat) (rows : List (List Int)) (k : Int) (v : Value) (w : World) (hR : RdR w A c rows) (hl : rows.length ≤ 1099511627776) (hl2 : ∀ r ∈ rows, r.length ≤ 1099511627776) (hf : fuB rows k = false) :
    Calls Try.prog 59 #[.slice A rows.length c, .int .i64 k, v] w (AnsIs w []) := by
  have HC := Lib.hid (areForUnits_any A c rows k w hR hl hl2)
  rw [hf] at HC
  clear hf
  go_enter Try.func59, Try.ntmps59
  go_wp2_with (go_at_call 51; refine HC.out.mono ?_; rintro e w1 ⟨rfl, m, rfl⟩)
  go_ret
  exact ⟨none, 0, rfl, own_none _ _, below_drewN' (Below.refl _ _) _⟩

/-- What bidder i takes from the others. -/
def pivF (rows : List (List Int)) (k i : Nat) : Int := bst (RW (butOf rows i)) (rows.length - 1) k - sumBut (fun j => pre (RW rows j) (aw (RW rows) rows.length k j)) i rows.length

theorem aw_small {rows : List (List Int)} {k : Nat} (hk : k ≤ 5) (j : Nat) : aw (RW rows) rows.length k j ≤ 1000 := by
  have h : ∀ k j, aw (RW rows) rows.length k j ≤ k := by
    intro k
    induction k with
    | zero => intro j; exact Nat.zero_le _
    | succ k ih =>
      intro j
      show stp _ _ _ j ≤ _
      have := ih j
      unfold stp
      split <;> omega
  have := h k j
  omega

set_option maxHeartbeats 400000 in
theorem pivClosure_any (A B : Option Addr) (c d k i b1 b2 : Nat) (rows : List (List Int)) (w : World) (hR : RdR w A c rows) (hv : VD rows) (hk : k ≤ 5) (hB : Rd w B d (lst (aw (RW rows) rows.length k) rows.length)) (hi : i < rows.length)
    (h1 : w.cell? ⟨b1, 0, none⟩ = some (.slice A rows.length c)) (h2 : w.cell? ⟨b2, 0, none⟩ = some (.int .i64 k)) :
    Calls Try.prog 73 #[.slice B rows.length d, .int .i64 i, .pointer (some ⟨b1, 0, none⟩), .pointer (some ⟨b2, 0, none⟩)] w fun e w'' => e = .returned (.int .i64 (pivF rows k i)) ∧ Below w.heap.size w w'' := by
  have HT := Lib.hid (takenBy_any A B c d k i rows _ w hR hv hk hB (aw_small hk) hi)
  clear hR hv hB hi
  go_enter Try.func73, Try.ntmps73
  go_wp2_with fail
  refine HT.out.mono ?_
  rintro e w2 ⟨rfl, b2⟩
  go_wp2
  go_ret
  exact ⟨rfl, b2⟩

set_option maxHeartbeats 400000 in
theorem pushClosure_any (A B : Option Addr) (c d k i b1 b2 : Nat) (rows : List (List Int)) (w : World) (hR : RdR w A c rows) (hv : VD rows) (hk : k ≤ 5) (hB : Rd w B d (lst (aw (RW rows) rows.length k) rows.length)) (hi : i < rows.length) (hh : aw (RW rows) rows.length k i ≤ k)
    (h1 : w.cell? ⟨b1, 0, none⟩ = some (.slice A rows.length c)) (h2 : w.cell? ⟨b2, 0, none⟩ = some (.int .i64 k)) :
    Calls Try.prog 60 #[.slice B rows.length d, .int .i64 i, .pointer (some ⟨b1, 0, none⟩), .pointer (some ⟨b2, 0, none⟩)] w fun e w'' => e = .returned (.int .i64 (pushF (butOf rows i).flatten k (aw (RW rows) rows.length k i))) ∧ Below w.heap.size w w'' := by
  have HT := Lib.hid (pushedBy_any A B c d k i rows _ w hR hv hk hB hh hi)
  clear hR hv hB hi hh
  go_enter Try.func60, Try.ntmps60
  go_wp2_with fail
  refine HT.out.mono ?_
  rintro e w2 ⟨rfl, b2⟩
  go_wp2
  go_ret
  exact ⟨rfl, b2⟩

set_option maxHeartbeats 400000 in
theorem eachClosure_any (A B : Option Addr) (c d k i b1 : Nat) (rows : List (List Int)) (w : World) (hR : RdR w A c rows) (hv : VD rows) (hk : k ≤ 5) (hB : Rd w B d (lst (aw (RW rows) rows.length k) rows.length)) (hi : i < rows.length)
    (h1 : w.cell? ⟨b1, 0, none⟩ = some (.slice A rows.length c)) :
    Calls Try.prog 64 #[.slice B rows.length d, .int .i64 i, .pointer (some ⟨b1, 0, none⟩)] w fun e w'' => e = .returned (.int .i64 (pre (RW rows i) (aw (RW rows) rows.length k i))) ∧ Below w.heap.size w w'' := by
  have HT := Lib.hid (worthTo_any A B c d rows _ i w hR hB hi (hv.good i hi) (by have := aw_small (rows := rows) hk i; omega))
  clear hR hv hB hi
  go_enter Try.func64, Try.ntmps64
  go_wp2_with fail
  refine HT.out.mono ?_
  rintro e w2 ⟨rfl, n, rfl⟩
  go_wp2
  go_ret
  exact ⟨rfl, below_drewN' (Below.refl _ _) n⟩

end Go.Proofs.Ytkkdffmpeadinaa
