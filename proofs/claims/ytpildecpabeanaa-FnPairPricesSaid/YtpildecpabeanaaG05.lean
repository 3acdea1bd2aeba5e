/-
  Chapter 8, the program: pairs in memory as a list of pointers.
-/
import Derived.Test.YtpildecpabeanaaG04
import Derived.Test.YtpildecpabeanaaG03
namespace Go.Proofs.Ytpildecpabeanaa
open Go.RowKit

theorem ptr_info : (Try.prog.info? 88).map (fun i => (i.zero, i.size, i.bytes)) = some (some (.pointer none), 1, 8) := by kernel_rfl

/-- The k-th pointer leads to the k-th pair. -/
def PVs (w : World) (vs : List Value) (ts : List (Int × Int)) (k : Nat) : Prop := vs.length = k ∧ ∀ (i : Nat) (t : Int × Int), i < k → ts[i]? = some t → ∃ b, vs[i]? = some (.pointer (some ⟨b, 0, none⟩)) ∧ w.cell? ⟨b, 0, none⟩ = some (.int .i64 t.1) ∧ w.cell? ⟨b, 1, none⟩ = some (.int .i64 t.2)
theorem PVs.below {w w' : World} {vs : List Value} {ts : List (Int × Int)} {k : Nat} (h : PVs w vs ts k) (hb : Below w.heap.size w w') : PVs w' vs ts k := by
  refine ⟨h.1, fun i t hi ht => ?_⟩
  obtain ⟨b, h1, h2, h3⟩ := h.2 i t hi ht
  have key := fun (j : Nat) (u : Value) (hc : w.cell? ⟨b, j, none⟩ = some u) => (hb.cell (p := ⟨b, j, none⟩) (World.block_lt_of_cell? w _ hc)).trans hc
  exact ⟨b, h1, key 0 _ h2, key 1 _ h3⟩
theorem PVs.more {w : World} {vs : List Value} {ts : List (Int × Int)} {k b : Nat} {t : Int × Int} (h : PVs w vs ts k) (ht : ts[k]? = some t) (h0 : w.cell? ⟨b, 0, none⟩ = some (.int .i64 t.1)) (h1 : w.cell? ⟨b, 1, none⟩ = some (.int .i64 t.2)) : PVs w (vs ++ [.pointer (some ⟨b, 0, none⟩)]) ts (k + 1) := by
  refine ⟨by simp [h.1], fun i x hi hx => ?_⟩
  rcases Nat.lt_or_ge i k with hlt | hge
  · obtain ⟨b', e1, e2⟩ := h.2 i x hlt hx
    exact ⟨b', by rw [List.getElem?_append_left (by rw [h.1]; exact hlt)]; exact e1, e2⟩
  · obtain rfl : i = k := by omega
    rw [ht] at hx; cases hx
    exact ⟨b, by rw [List.getElem?_append_right (by rw [h.1]; exact Nat.le_refl _), h.1]; simp, h0, h1⟩
def lnOf : Value → Nat
  | .slice _ n _ => n
  | _ => 0
theorem row_shape {w : World} {B T sz n : Nat} {v : Value} {xs : List Value} (h : w.ownsRow B T sz v n xs) : ∃ A c, v = .slice A n c := by
  rcases h.2 with ⟨hv, hn⟩ | ⟨g, cap, cur, hv, _⟩
  · exact ⟨none, 0, by rw [hv, hn]⟩
  · exact ⟨_, _, hv⟩
/-- A new list of pointers. -/
def NewP (W0 w : World) (ts : List (Int × Int)) (e : Ending) (w' : World) : Prop :=
  ∃ v vs, e = .returned v ∧ w'.ownsRow w.heap.size 88 1 v ts.length vs ∧ PVs W0 vs ts ts.length ∧ Below w.heap.size w w'

set_option maxRecDepth 100000 in
set_option maxHeartbeats 1000000 in
theorem listed_any (W0 : World) (ts : List (Int × Int)) (v : Value) (w : World) (h : PLs W0 v ts) (hB0 : Below W0.heap.size W0 w) (hl : ts.length ≤ 4) :
    Calls Try.prog 100 #[v] w (NewP W0 w ts) := by
  have HB0 := Lib.hid hB0
  clear hB0
  obtain ⟨i0, hi, hz0, hz1, hz2⟩ := info_parts ptr_info
  go_enter Try.func100, Try.ntmps100
  go_wp2
  go_loopw [0, 3] (fun p all wr => ∃ (k : Nat) (vs : List Value) (A : Option Addr) (c : Nat), k ≤ ts.length ∧ all = .slice A k c ∧ Hid (wr.ownsRow w.heap.size 88 1 (.slice A k c) k vs) ∧ Hid (PVs W0 vs ts k) ∧ Hid (PLs W0 p (ts.drop k)) ∧ Hid (Below w.heap.size w wr)) (fun _ all _ => 4 - lnOf all)
  case atStart => exact ⟨0, [], none, 0, Nat.zero_le _, rfl, Lib.hid (World.ownsRow_nil _ _ _ _), Lib.hid ⟨rfl, fun i t hi => absurd hi (by omega)⟩, Lib.hid h, Lib.hid (Below.refl _ _)⟩
  case round =>
    obtain ⟨k, vs, A, c, hk, rfl, HO, HV, HP, HB⟩ := hrel
    by_cases hlt : k < ts.length
    · have ht : ts[k]? = some ts[k] := List.getElem?_eq_getElem hlt
      have hp := HP.out
      rw [List.drop_eq_getElem_cons hlt] at hp
      obtain ⟨b, rest, hpe, h0, h1, h2, hr⟩ := hp
      subst hpe
      have hb1 := (Below.refl wr.heap.size wr).alloc (Nat.le_refl _) (.cells #[.pointer (some ⟨b, 0, none⟩)] 88)
      have HT := Lib.hid (own_len HO.out hb1)
      have hb63 : k + 1 ≤ maxLen := by unfold maxLen; omega
      have HM := Lib.hid hb63
      have HSZ : Hid (w.heap.size ≤ (wr.alloc (.cells #[.pointer (some ⟨b, 0, none⟩)] 88)).heap.size) := Lib.hid (Nat.le_trans HB.out.size hb1.size)
      have HB1 := Lib.hid hb1
      have HR := Lib.hid hr
      have HM0 := Lib.hid (HV.out.more ht h0 h1)
      have H2 := Lib.hid h2
      clear h1 h0 h2 hr hb63 hb1 ht HP
      go_wp2_with (at_builtin; (refine wpList_append_own _ rfl _ _ 90 rfl w.heap.size 88 i0 (.pointer none) 1 8 Try.underlying90 hi hz0 hz1 hz2 rfl (by decide) (.slice A k c) k vs rfl HT.out ⟨wr.heap.size, 0, none⟩ 1 1 [.pointer (some ⟨b, 0, none⟩)] rfl rfl (cell_one_new _ _ _) (by simp [Value.oneCell']) HM.out (by omega) HSZ.out ?_; intro v5 w5 hown5 hg5 _; have HB5 : Hid (Below w.heap.size w w5) := Lib.hid ((HB.out.trans (HB1.out.mono HB.out.size)).grown hg5 HSZ.out (fun q e => (World.ownsRow.lt HO.out q e).1)); have hc5 := ((HB0.out.trans (HB5.out.mono HB0.out.size)).cell (p := ⟨b, 2, none⟩) (World.block_lt_of_cell? W0 _ H2.out)).trans H2.out; obtain ⟨A5, c5, hv5⟩ := row_shape hown5; subst hv5; have HO5 := Lib.hid hown5; clear hown5 hg5))
      go_roundw
      case rel => exact ⟨k + 1, vs ++ [.pointer (some ⟨b, 0, none⟩)], A5, c5, hlt, rfl, HO5, HM0, HR, HB5⟩
      case measure => simp [lnOf]; omega
    · obtain rfl : k = ts.length := by omega
      have hp := HP.out
      rw [List.drop_length] at hp
      obtain rfl : u0 = .pointer none := hp
      clear HP
      go_wp2
      go_ret
      exact ⟨_, vs, rfl, HO.out, HV.out, HB.out⟩
end Go.Proofs.Ytpildecpabeanaa

/-
  Chapter 8: markets of pairs: validRows and ValidRows of the model.
-/
namespace Go.Proofs.Ytpildecpabeanaa
open Go.RowKit

def sokTo (rows : List (List Int)) (k : Nat) : Prop := ∀ (j : Nat) (r : List Int), j < k → rows[j]? = some r → r.length = (RW rows 0).length ∧ r.all (fun x => inR x 0 12) = true
theorem sokTo_zero (rows : List (List Int)) : sokTo rows 0 := fun j r hj => absurd hj (by omega)
theorem sokTo_step {rows : List (List Int)} {k : Nat} {r : List Int} (h : sokTo rows k) (hr : rows[k]? = some r) (h1 : r.length = (RW rows 0).length) (h2 : (r.take r.length).all (fun x => inR x 0 12) = true) : sokTo rows (k + 1) := by
  intro j x hj hx
  rcases Nat.lt_or_ge j k with h' | h'
  · exact h j x h' hx
  · obtain rfl : j = k := by omega
    rw [hr] at hx; cases hx
    rw [List.take_length] at h2
    exact ⟨h1, h2⟩
theorem vr_bad {rows : List (List Int)} {k : Nat} {r : List Int} (hr : rows[k]? = some r) (h : r.all (fun x => inR x 0 12) = false) : vrB rows = false := vr_no hr (by simp [rokB, wB_bad h])
theorem vr_row {rows : List (List Int)} {k : Nat} {r : List Int} (hr : rows[k]? = some r) (h : ¬ r.length = (RW rows 0).length) : vrB rows = false := vr_no hr (by simp [rokB, h])
theorem sokTo_all {rows : List (List Int)} (h : sokTo rows rows.length) (h1 : 1 ≤ rows.length ∧ rows.length ≤ 4) : vrB rows = inR ((RW rows 0).length : Int) 1 4 := by
  cases hb : inR ((RW rows 0).length : Int) 1 4 with
  | true =>
    refine vr_true ⟨h1, fun r hr => ?_⟩
    obtain ⟨k, hk, rfl⟩ := List.getElem_of_mem hr
    obtain ⟨a, b⟩ := h k _ hk (List.getElem?_eq_getElem hk)
    refine ⟨a, ?_⟩
    simp only [wB, a, b, hb]; rfl
  | false =>
    refine vr_false (fun ho => ?_)
    have := (ho.2 _ (rw_mem (rows := rows) (i := 0) (by omega))).2
    simp only [wB, hb, Bool.false_and] at this
    cases this

set_option maxHeartbeats 800000 in
theorem validRows_any (A : Option Addr) (c : Nat) (rows : List (List Int)) (w : World) (h : RdR w A c rows) (hl : rows.length ≤ 1099511627776) (hl2 : ∀ r ∈ rows, r.length ≤ 1099511627776) :
    Calls Try.prog 105 #[.slice A rows.length c] w fun e w' => e = .returned (.bool (vrB rows)) ∧ ∃ n, w' = w.drewN n := by
  go_enter Try.func105, Try.ntmps105
  go_wp2
  go_loopw [3] (fun i wr => ∃ k n : Nat, k ≤ rows.length ∧ i = .int .i64 k ∧ wr = w.drewN n ∧ Hid (sokTo rows k)) (fun i _ => rows.length - (intOf i).toNat)
  case atStart => exact ⟨0, 0, Nat.zero_le _, rfl, rfl, Lib.hid (sokTo_zero rows)⟩
  case round =>
    obtain ⟨k, n, hk, rfl, rfl, HT⟩ := hrel
    by_cases hlt : k < rows.length
    · obtain ⟨b, off, r, A', c', rfl, hr, hc, hcap, hrd⟩ := h.at_ hlt
      obtain ⟨b0, off0, r0, A0, c0, hA0, hr0, hc0, hcap0, hrd0⟩ := h.at_ (k := 0) (by omega)
      cases hA0
      have e0 := Lib.hid (rw_of hr0.out)
      rw [Nat.add_zero] at hc0
      clear hr0 hrd0
      have hrl : r.length ≤ 1099511627776 := hl2 r (List.mem_of_getElem? hr.out)
      by_cases he : r.length = r0.length
      · have he' : (r.length : Int) = (r0.length : Int) := by omega
        have HEQ : Hid (r.length = (RW rows 0).length) := Lib.hid (by rw [e0.out]; exact he)
        clear he
        go_wp2_with fail
        go_quiet (fail)
        go_wp2
        go_loopw [4] (fun i wr => ∃ j m : Nat, j ≤ r.length ∧ i = .int .i64 j ∧ wr = w.drewN m ∧ Hid ((r.take j).all (fun x => inR x 0 12) = true)) (fun i _ => r.length - (intOf i).toNat)
        case atStart => exact ⟨0, _, Nat.zero_le _, rfl, World.drewN_drewN _ _ _, Lib.hid rfl⟩
        case round =>
          clear he' hc0 hcap0
          obtain ⟨j, m, hj, rfl, rfl, HJ⟩ := hrel
          by_cases hjl : j < r.length
          · obtain ⟨b2, o2, x, rfl, _, hx, hcx⟩ := hrd.out.at_ hjl
            cases hb : inR x 0 12 with
            | true =>
              have HB : Hid (∀ w1, Calls Try.prog 69 #[.int .i64 x, .int .i64 0, .int .i64 12] w1 fun e w' => e = .returned (.bool true) ∧ w1 = w') := Lib.hid (fun w1 => by have := inRange_any x 0 12 w1; rwa [hb] at this)
              have HT' := Lib.hid (all_step hx.out hb HJ.out)
              clear hb
              go_wp2_with (go_at_call 69; refine (HB.out _).mono ?_; rintro e w1 ⟨rfl, rfl⟩)
              go_roundw
              case rel => exact ⟨j + 1, _, by omega, by go_num, rfl, HT'⟩
              case measure => simp [intOf]; omega
            | false =>
              have HB : Hid (∀ w1, Calls Try.prog 69 #[.int .i64 x, .int .i64 0, .int .i64 12] w1 fun e w' => e = .returned (.bool false) ∧ w1 = w') := Lib.hid (fun w1 => by have := inRange_any x 0 12 w1; rwa [hb] at this)
              have HE := Lib.hid (vr_bad hr.out (all_at (p := fun x => inR x 0 12) hx.out hb))
              clear hb
              go_wp2_with (go_at_call 69; refine (HB.out _).mono ?_; rintro e w1 ⟨rfl, rfl⟩)
              go_ret
              exact ⟨by rw [HE.out]; rfl, _, rfl⟩
          · obtain rfl : j = r.length := by omega
            have HT' := Lib.hid (sokTo_step HT.out hr.out HEQ.out HJ.out)
            go_wp2
            go_roundw
            case rel => exact ⟨k + 1, _, by omega, by go_num, rfl, HT'⟩
            case measure => simp [intOf]; omega
      · have he' : ¬ (r.length : Int) = (r0.length : Int) := by omega
        have HE := Lib.hid (vr_row hr.out (by rw [e0.out]; exact he))
        clear he
        go_wp2_with fail
        go_quiet (fail)
        go_wp2
        go_ret
        exact ⟨by rw [HE.out]; rfl, _, World.drewN_drewN _ _ _⟩
    · obtain rfl : k = rows.length := by omega
      have HB := Lib.hid (inRange_any (rows.length : Int) 1 4)
      by_cases hlen : 1 ≤ rows.length ∧ rows.length ≤ 4
      · have HE := Lib.hid (sokTo_all HT.out hlen)
        have HI : Hid (inR (rows.length : Int) 1 4 = true) := Lib.hid (inR_true.2 (by omega))
        rw [HI.out] at HB
        obtain ⟨b0, off0, r0, A0, c0, hA0, hr0, hc0, hcap0, hrd0⟩ := h.at_ (k := 0) (by omega)
        have e0 := rw_of hr0.out
        rw [e0] at HE
        subst hA0
        rw [Nat.add_zero] at hc0
        have HB0 := Lib.hid (inRange_any (r0.length : Int) 1 4)
        have h1l : 1 ≤ rows.length := hlen.1
        clear hlen e0 hr0 hrd0 HI
        go_wp2_with (go_at_call 69; first | ((with_reducible refine (HB.out _).mono ?_); rintro e w1 ⟨rfl, rfl⟩) | ((with_reducible refine (HB0.out _).mono ?_); rintro e w1 ⟨rfl, rfl⟩))
        go_ret
        exact ⟨by rw [HE.out]; rfl, _, rfl⟩
      · have HE := Lib.hid (vr_len hlen)
        have HI : Hid (inR (rows.length : Int) 1 4 = false) := Lib.hid (inR_false.2 (by omega))
        rw [HI.out] at HB
        clear hlen HI
        go_wp2_with (go_at_call 69; refine (HB.out _).mono ?_; rintro e w1 ⟨rfl, rfl⟩)
        go_ret
        exact ⟨by rw [HE.out]; rfl, _, rfl⟩

end Go.Proofs.Ytpildecpabeanaa
