/-
  Chapter 3: the contracts of WorthOf, of the program and of the model.
-/
import Derived.Test.YtkkdffmpeadinaaUi
namespace Go.Proofs.Ytkkdffmpeadinaa
open Go.RowKit

theorem good_map {qs : List (Option Addr × Nat × List Int)} {rows : List (List Int)} {n : Nat} (h : qs.map (·.2.2) = rows) (hn : qs.length = n) (hg : Good (RW rows) n) : Good (RW (qs.map (·.2.2))) qs.length := by
  subst h hn; exact hg

set_option maxHeartbeats 400000 in
theorem WorthOf_yes (A : Option Addr) (c : Nat) (rows : List (List Int)) (k : Nat) (w : World) (hR : RdR w A c rows) (hv : VD rows) (hk : k ≤ 5) :
    Calls Try.prog 22 #[.slice A rows.length c, .int .i64 k] w fun e w' => e = .returned (.int .i64 (bst (RW rows) rows.length k)) ∧ Below w.heap.size w w' := by
  have HC := Lib.hid (areForUnits_any A c rows k w hR (by have := hv.1; omega) hv.lens)
  rw [fuB_yes hv hk] at HC
  have hl : rows.length ≤ 4 := hv.1.2
  have HK := Lib.hid (fun n => crowdOf_any A c rows.length rows w (w.drewN n) rfl hR (below_drewN' (Below.refl _ w) n) (by omega))
  have HG := Lib.hid hv.good
  clear hv
  go_enter Try.func22, Try.ntmps22
  go_wp2_with fail
  refine HC.out.mono ?_
  rintro e w1 ⟨rfl, m, rfl⟩
  go_wp2_with fail
  refine (HK.out m).mono ?_
  rintro e w2 ⟨v, qs, rfl, o2, d2, e2, b2⟩
  have B2 : Below w.heap.size w w2 := (below_drewN' (Below.refl _ w) m).trans b2
  have hql : qs.length = rows.length := by have := congrArg List.length e2; simpa using this
  obtain ⟨A2, c2, rfl, hC⟩ := CrowdIn.rdc (w := w2) ⟨o2, fun q hq => ⟨(d2 q hq).1, (d2 q hq).2.below B2⟩⟩
  have HW := Lib.hid (crowdWorth_any A2 c2 k qs w2 hC (by omega) (good_map e2 hql HG.out) hk)
  rw [e2, hql] at HW
  rw [hql]
  clear o2 d2 hC e2 hql
  go_wp2_with fail
  refine HW.out.mono ?_
  rintro e w3 ⟨rfl, b3⟩
  go_wp2
  go_ret
  exact ⟨rfl, B2.trans (b3.mono B2.size)⟩

theorem WorthOf_no (A : Option Addr) (c : Nat) (rows : List (List Int)) (k : Int) (w : World) (hR : RdR w A c rows) (hl : rows.length ≤ 1099511627776) (hl2 : ∀ r ∈ rows, r.length ≤ 1099511627776) (hf : fuB rows k = false) :
    Calls Try.prog 22 #[.slice A rows.length c, .int .i64 k] w fun e w' => e = .returned (.int .i64 (-1)) ∧ Below w.heap.size w w' := by
  have HC := Lib.hid (areForUnits_any A c rows k w hR hl hl2)
  rw [hf] at HC
  clear hf
  go_enter Try.func22, Try.ntmps22
  go_wp2_with (go_at_call 51; refine HC.out.mono ?_; rintro e w1 ⟨rfl, m, rfl⟩)
  go_ret
  exact ⟨rfl, below_drewN' (Below.refl _ _) _⟩

theorem SWorthOf_no (A : Option Addr) (c : Nat) (rows : List (List Int)) (k : Int) (w : World) (hR : RdR w A c rows) (hl : rows.length ≤ 1099511627776) (hl2 : ∀ r ∈ rows, r.length ≤ 1099511627776) (hf : fuB rows k = false) :
    Calls Try.prog 25 #[.slice A rows.length c, .int .i64 k] w fun e w' => e = .returned (.int .i64 (-1)) ∧ Below w.heap.size w w' := by
  have HC := Lib.hid (validUnits_any A c rows k w hR hl hl2)
  rw [hf] at HC
  clear hf
  go_enter Try.func25, Try.ntmps25
  go_wp2_with (go_at_call 53; refine HC.out.mono ?_; rintro e w1 ⟨rfl, m, rfl⟩)
  go_ret
  exact ⟨rfl, below_drewN' (Below.refl _ _) _⟩

theorem SWorthOf_yes (A : Option Addr) (c : Nat) (rows : List (List Int)) (k : Nat) (w : World) (hR : RdR w A c rows) (hv : VD rows) (hk : k ≤ 5) :
    Calls Try.prog 25 #[.slice A rows.length c, .int .i64 k] w fun e w' => e = .returned (.int .i64 (bst (RW rows) rows.length k)) ∧ Below w.heap.size w w' := by
  have HC := Lib.hid (validUnits_any A c rows k w hR (by have := hv.1; omega) hv.lens)
  rw [fuB_yes hv hk] at HC
  have HA := Lib.hid (fun n => bestWorth_any A c k rows (w.drewN n) (hR.drewN n) hv.1.2 hv.good hk)
  clear hv hk
  go_enter Try.func25, Try.ntmps25
  go_wp2_with (first
    | (go_at_call 53; refine HC.out.mono ?_; rintro e w1 ⟨rfl, m, rfl⟩)
    | (go_at_call 57; refine (HA.out _).mono ?_; rintro e w2 ⟨rfl, b2⟩))
  go_ret
  exact ⟨rfl, (below_drewN' (Below.refl _ w) m).trans b2⟩

/-- What WorthOf hands back. -/
noncomputable def woF (rows : List (List Int)) (k : Int) : Int := if fuB rows k = true then bst (RW rows) rows.length k.toNat else -1
theorem fuB_iff {rows : List (List Int)} {k : Int} : fuB rows k = true ↔ VD rows ∧ 0 ≤ k ∧ k ≤ 5 := by
  unfold fuB; rw [Bool.and_eq_true, vdB_iff, inR_true]

theorem WorthOf_both (rows : List (List Int)) (k : Int) (hl : rows.length ≤ 1099511627776) (hl2 : ∀ r ∈ rows, r.length ≤ 1099511627776) :
    (∀ A c w, RdR w A c rows → Calls Try.prog 25 #[.slice A rows.length c, .int .i64 k] w fun e w' => e = .returned (.int .i64 (woF rows k)) ∧ Below w.heap.size w w') ∧
    (∀ A c w, RdR w A c rows → Calls Try.prog 22 #[.slice A rows.length c, .int .i64 k] w fun e w' => e = .returned (.int .i64 (woF rows k)) ∧ Below w.heap.size w w') := by
  unfold woF
  cases hf : fuB rows k with
  | false => exact ⟨fun A c w h => SWorthOf_no A c rows k w h hl hl2 hf, fun A c w h => WorthOf_no A c rows k w h hl hl2 hf⟩
  | true =>
    obtain ⟨hv, h0, h5⟩ := fuB_iff.1 hf
    obtain ⟨n, rfl⟩ := Int.eq_ofNat_of_zero_le h0
    exact ⟨fun A c w h => SWorthOf_yes A c rows n w h hv (by omega), fun A c w h => WorthOf_yes A c rows n w h hv (by omega)⟩

end Go.Proofs.Ytkkdffmpeadinaa
