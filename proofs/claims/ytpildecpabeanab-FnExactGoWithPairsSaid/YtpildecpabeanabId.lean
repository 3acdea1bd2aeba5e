/-
  Chapter 8: whether prices go with pairs, of the model and of the program.
-/
import Derived.Test.YtpildecpabeanabIc
namespace Go.Proofs.Ytpildecpabeanab
open Go.RowKit

/-- Whether prices go with the best pairs. -/
noncomputable def gwB (rows : List (List Int)) (p : List Int) : Bool := vgB rows p && @decide (goW (RW rows 0).length rows (P1 p) (pb rows 0).2) (Classical.propDecidable _)
theorem vg_parts {rows : List (List Int)} {p : List Int} : vgB rows p = true ↔ (VR rows ∧ p.length = (RW rows 0).length ∧ ∀ x ∈ p, 0 ≤ x ∧ x ≤ 40) := by
  unfold vgB
  rw [Bool.and_eq_true, Bool.and_eq_true, vr_iff, List.all_eq_true, decide_eq_true_eq]
  exact ⟨fun h => ⟨h.2.1, h.2.2, fun x hx => inR_true.1 (h.1 x hx)⟩, fun h => ⟨fun x hx => inR_true.2 (h.2.2 x hx), h.1, h.2.1⟩⟩
theorem gw_no {rows : List (List Int)} {p : List Int} (h : vgB rows p = false) : gwB rows p = false := by unfold gwB; rw [h, Bool.false_and]
theorem gw_yes {rows : List (List Int)} {p : List Int} (h : vgB rows p = true) : gwB rows p = true ↔ goW (RW rows 0).length rows (P1 p) (pb rows 0).2 := by
  unfold gwB; simp [h]
theorem getD_bd {p : List Int} (hpb : ∀ x ∈ p, 0 ≤ x ∧ x ≤ 40) (j : Nat) : 0 ≤ p.getD j 0 ∧ p.getD j 0 ≤ 40 := by
  rw [List.getD_eq_getElem?_getD]
  rcases Nat.lt_or_ge j p.length with h1 | h1
  · rw [List.getElem?_eq_getElem h1]; exact hpb _ (List.getElem_mem h1)
  · rw [List.getElem?_eq_none h1]; simp

set_option maxRecDepth 100000 in
set_option maxHeartbeats 1000000 in
theorem SGoWithPairs_any (A B : Option Addr) (c d : Nat) (rows : List (List Int)) (p : List Int) (w : World) (h : RdR w A c rows) (hP : Rd w B d p) (hl : rows.length ≤ 1099511627776) (hl2 : ∀ r ∈ rows, r.length ≤ 1099511627776) (hpl : p.length ≤ 1099511627776) :
    Calls Try.prog 27 #[.slice A rows.length c, .slice B p.length d] w fun e w' => e = .returned (.bool (gwB rows p)) ∧ Below w.heap.size w w' := by
  have HVG := Lib.hid (validGoods_any A B c d rows p w h hP hl hl2 hpl)
  by_cases hv : vgB rows p = true
  · rw [hv] at HVG
    obtain ⟨hr, hpm, hpb⟩ := vg_parts.1 hv
    obtain ⟨hk, h12, hm1, hm4⟩ := hr.rk
    obtain ⟨v, hvv⟩ : ∃ v, v = gwB rows p := ⟨_, rfl⟩
    have hgo := gw_yes hv
    rw [← hvv] at hgo ⊢
    have HPW : Hid (∀ n, Calls Try.prog 52 #[.slice A rows.length c, .int .i64 0, .int .i64 0] (w.drewN n) (PwIs (w.drewN n) (pb rows 0))) := Lib.hid (fun n =>
      pairWorth_any A c _ rows hm4 hk h12 hr.1.2 rows.length 0 0 (w.drewN n) (by omega) (by omega) (h.drewN n))
    have hpl' := pb_len hk 0
    have HSU := Lib.hid (fun C e w' (hb : Below w.heap.size w w') (hL : Rd w' C e (nl (pb rows 0).2)) => supports_any A B C c d e _ rows p _ w' v (h.below hb) (hP.below hb) hL hk h12 hm4 hr.1.2 hpm (getD_bd hpb) (pb_mt hk 0).1 hgo)
    rw [← hpm] at HSU
    have HPL := Lib.hid hpl'
    clear hv hr hk h12 hm1 hm4 hpb hpl' hgo hvv h hP hpm
    generalize pb rows 0 = bb at *
    obtain ⟨s0, l0⟩ := bb
    go_enter Try.func27, Try.ntmps27
    go_wp2_with fail
    refine HVG.out.mono ?_
    rintro e w1 ⟨rfl, n, rfl⟩
    go_wp2_with fail
    refine (HPW.out n).mono ?_
    rintro e w2 ⟨A2, c2, rfl, o2, b2⟩
    have B2 := (below_drewN' (Below.refl w.heap.size w) n).trans b2
    have e2 : (s0, l0).2.length = rows.length := HPL.out
    simp only at e2
    go_wp2_with fail
    refine (HSU.out A2 c2 w2 B2 o2.rd).mono ?_
    rintro e w3 ⟨rfl, n3, rfl⟩
    go_wp2
    go_ret
    exact ⟨rfl, below_drewN' B2 n3⟩
  · rw [Bool.not_eq_true] at hv
    rw [hv] at HVG
    rw [gw_no hv]
    clear hv
    go_enter Try.func27, Try.ntmps27
    go_wp2_with fail
    refine HVG.out.mono ?_
    rintro e w1 ⟨rfl, n, rfl⟩
    go_wp2
    go_ret
    exact ⟨rfl, below_drewN' (Below.refl _ _) n⟩

set_option maxRecDepth 100000 in
set_option maxHeartbeats 1000000 in
theorem GoWithPairs_any (A B : Option Addr) (c d : Nat) (rows : List (List Int)) (p : List Int) (w : World) (h : RdR w A c rows) (hP : Rd w B d p) (hpd : p.length ≤ d) (hl : rows.length ≤ 1099511627776) (hl2 : ∀ r ∈ rows, r.length ≤ 1099511627776) (hpl : p.length ≤ 1099511627776) :
    Calls Try.prog 28 #[.slice A rows.length c, .slice B p.length d] w fun e w' => e = .returned (.bool (gwB rows p)) ∧ Below w.heap.size w w' := by
  have HV := Lib.hid (ValidRows_any A c rows w h hl hl2)
  by_cases hr : VR rows
  · by_cases hpm : p.length = (RW rows 0).length
    · by_cases hpb : ∀ x ∈ p, 0 ≤ x ∧ x ≤ 40
      · have hv := vg_parts.2 ⟨hr, hpm, hpb⟩
        have := GoWithPairs_yes A B c d p.length rows p w (gwB rows p) h hP hr hpm rfl hpd hpb hl2 (by have := gw_yes hv; rwa [← hpm] at this)
        exact this
      · have hv : vgB rows p = false := by rw [← Bool.not_eq_true, vg_parts]; exact fun h => hpb h.2.2
        rw [gw_no hv]
        have hgb : gB p = false := gB_bad (by rw [← Bool.not_eq_true, List.all_eq_true]; exact fun h => hpb (fun x hx => inR_true.1 (h x hx)))
        have HGO : Hid (∀ w1, Below w.heap.size w w1 → Calls Try.prog 55 #[.slice B p.length d, .int .i64 4, .func (.func 56) #[] #[]] w1 fun e w' => e = .returned (.bool false) ∧ w1 = w') := Lib.hid (fun w1 hb => by
          have := areGoods_any B d p w1 (hP.below hb) hpl
          rwa [hgb] at this)
        rw [vr_true hr] at HV
        obtain ⟨b0, off0, A0, c0, rfl, hc0⟩ := row_head h hr
        rw [← hpm] at hc0
        have hn1 := hr.1.1
        clear hpb hv hgb hr hpm
        go_enter Try.func28, Try.ntmps28
        go_wp2_with fail
        refine HV.out.mono ?_
        rintro e w1 ⟨rfl, b1⟩
        have hc01 := (b1.cell (p := ⟨b0, off0, none⟩) (World.block_lt_of_cell? w _ hc0)).trans hc0
        go_wp2_with fail
        refine (HGO.out w1 b1).mono ?_
        rintro e w2 ⟨rfl, rfl⟩
        go_wp2
        go_ret
        exact ⟨rfl, b1⟩
    · have hv : vgB rows p = false := by rw [← Bool.not_eq_true, vg_parts]; exact fun h => hpm h.2.1
      rw [gw_no hv]
      rw [vr_true hr] at HV
      obtain ⟨b0, off0, A0, c0, rfl, hc0⟩ := row_head h hr
      have hn1 := hr.1.1
      generalize (RW rows 0).length = m at *
      have hpm' : ¬ (p.length : Int) = (m : Int) := by omega
      have hbe : ((p.length : Int) != (m : Int)) = true := by simpa using hpm'
      clear hv hr hpm
      go_enter Try.func28, Try.ntmps28
      go_wp2_with fail
      refine HV.out.mono ?_
      rintro e w1 ⟨rfl, b1⟩
      have hc01 := (b1.cell (p := ⟨b0, off0, none⟩) (World.block_lt_of_cell? w _ hc0)).trans hc0
      go_wp2
      go_ret
      exact ⟨rfl, b1⟩
  · have hv : vgB rows p = false := by rw [← Bool.not_eq_true, vg_parts]; exact fun h => hr h.1
    rw [gw_no hv]
    rw [vr_false hr] at HV
    clear hv hr
    go_enter Try.func28, Try.ntmps28
    go_wp2_with fail
    refine HV.out.mono ?_
    rintro e w1 ⟨rfl, b1⟩
    go_wp2
    go_ret
    exact ⟨rfl, b1⟩

theorem GoWithPairs_both (rows : List (List Int)) (told : List Int) : ∃ (v : Bool), (rows.length ≤ 1099511627776 → (∀ r ∈ rows, r.length ≤ 1099511627776) → told.length ≤ 1099511627776 →
    (∀ A T c d w, RdR w A c rows → Rd w T d told → told.length ≤ d → Calls Try.prog 27 #[.slice A rows.length c, .slice T told.length d] w fun e w' => e = .returned (.bool v) ∧ Below w.heap.size w w') ∧
    (∀ A T c d w, RdR w A c rows → Rd w T d told → told.length ≤ d → Calls Try.prog 28 #[.slice A rows.length c, .slice T told.length d] w fun e w' => e = .returned (.bool v) ∧ Below w.heap.size w w')) :=
  ⟨gwB rows told, fun hl hl2 hl3 => ⟨fun A T c d w h1 h2 _ => SGoWithPairs_any A T c d rows told w h1 h2 hl hl2 hl3,
    fun A T c d w h1 h2 h3 => GoWithPairs_any A T c d rows told w h1 h2 h3 hl hl2 hl3⟩⟩
end Go.Proofs.Ytpildecpabeanab
