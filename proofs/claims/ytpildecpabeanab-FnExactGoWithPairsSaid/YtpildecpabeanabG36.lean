/-
  Chapter 8: whether prices go with pairs, of the model and of the program.
-/
import Derived.Test.YtpildecpabeanabIc
import Derived.Test.YtpildecpabeanabG06
namespace Go.Proofs.Ytpildecpabeanab
open Go.RowKit

/-- Whether prices go with the best pairs. -/
noncomputable def gwB (rows : List (List Int)) (p : List Int) : Bool := vgB rows p && @decide (goW (RW rows 0).length rows (P1 p) (pb rows 0).2) (Classical.propDecidable _)
theorem vg_parts {rows : List (List Int)} {p : List Int} : vgB rows p = true ↔ (VR rows ∧ p.length = (RW rows 0).length ∧ ∀ x ∈ p, 0 ≤ x ∧ x ≤ 40) := by
  unfold vgB
  rw [Bool.and_eq_true, Bool.and_eq_true, vr_iff, List.all_eq_true, decide_eq_true_eq]
  exact ⟨fun h => ⟨h.2.1, h.2.2, fun x hx => inR_true.1 (h.1 x hx)⟩, fun h => ⟨fun x hx => inR_true.2 (h.2.2 x hx), h.1, h.2.1⟩⟩
theorem gw_no {rows : List (List Int)} {p : List Int} (h : vgB rows p = false) : gwB rows p = false := by unfold gwB; rw [h, Bool.false_and]
theorem gw_yes {rows : List (List Int)} {p : List Int} (h : vgB rows p = true) : gwB rows p = true ↔ goW (RW rows 0).length rows (P1 p) (pb rows 0).2 := by
  unfold gwB; simp [h]
theorem getD_bd {p : List Int} (hpb : ∀ x ∈ p, 0 ≤ x ∧ x ≤ 40) (j : Nat) : 0 ≤ p.getD j 0 ∧ p.getD j 0 ≤ 40 := by
  rw [List.getD_eq_getElem?_getD]
  rcases Nat.lt_or_ge j p.length with h1 | h1
  · rw [List.getElem?_eq_getElem h1]; exact hpb _ (List.getElem_mem h1)
  · rw [List.getElem?_eq_none h1]; simp

set_option maxRecDepth 100000 in
set_option maxHeartbeats 1000000 in
theorem SGoWithPairs_any (A B : Option Addr) (c d : Nat) (rows : List (List Int)) (p : List Int) (w : World) (h : RdR w A c rows) (hP : Rd w B d p) (hl : rows.length ≤ 1099511627776) (hl2 : ∀ r ∈ rows, r.length ≤ 1099511627776) (hpl : p.length ≤ 1099511627776) :
    Calls Try.prog 27 #[.slice A rows.length c, .slice B p.length d] w fun e w' => e = .returned (.bool (gwB rows p)) ∧ Below w.heap.size w w' := by
  have HVG := Lib.hid (validGoods_any A B c d rows p w h hP hl hl2 hpl)
  by_cases hv : vgB rows p = true
  · rw [hv] at HVG
    obtain ⟨hr, hpm, hpb⟩ := vg_parts.1 hv
    obtain ⟨hk, h12, hm1, hm4⟩ := hr.rk
    obtain ⟨v, hvv⟩ : ∃ v, v = gwB rows p := ⟨_, rfl⟩
    have hgo := gw_yes hv
    rw [← hvv] at hgo ⊢
    have HPW : Hid (∀ n, Calls Try.prog 52 #[.slice A rows.length c, .int .i64 0, .int .i64 0] (w.drewN n) (PwIs (w.drewN n) (pb rows 0))) := Lib.hid (fun n =>
      pairWorth_any A c _ rows hm4 hk h12 hr.1.2 rows.length 0 0 (w.drewN n) (by omega) (by omega) (h.drewN n))
    have hpl' := pb_len hk 0
    have HSU := Lib.hid (fun C e w' (hb : Below w.heap.size w w') (hL : Rd w' C e (nl (pb rows 0).2)) => supports_any A B C c d e _ rows p _ w' v (h.below hb) (hP.below hb) hL hk h12 hm4 hr.1.2 hpm (getD_bd hpb) (pb_mt hk 0).1 hgo)
    rw [← hpm] at HSU
    have HPL := Lib.hid hpl'
    clear hv hr hk h12 hm1 hm4 hpb hpl' hgo hvv h hP hpm
    generalize pb rows 0 = bb at *
    obtain ⟨s0, l0⟩ := bb
    go_enter Try.func27, Try.ntmps27
    go_wp2_with fail
    refine HVG.out.mono ?_
    rintro e w1 ⟨rfl, n, rfl⟩
    go_wp2_with fail
    refine (HPW.out n).mono ?_
    rintro e w2 ⟨A2, c2, rfl, o2, b2⟩
    have B2 := (below_drewN' (Below.refl w.heap.size w) n).trans b2
    have e2 : (s0, l0).2.length = rows.length := HPL.out
    simp only at e2
    go_wp2_with fail
    refine (HSU.out A2 c2 w2 B2 o2.rd).mono ?_
    rintro e w3 ⟨rfl, n3, rfl⟩
    go_wp2
    go_ret
    exact ⟨rfl, below_drewN' B2 n3⟩
  · rw [Bool.not_eq_true] at hv
    rw [hv] at HVG
    rw [gw_no hv]
    clear hv
    go_enter Try.func27, Try.ntmps27
    go_wp2_with fail
    refine HVG.out.mono ?_
    rintro e w1 ⟨rfl, n, rfl⟩
    go_wp2
    go_ret
    exact ⟨rfl, below_drewN' (Below.refl _ _) n⟩

set_option maxRecDepth 100000 in
set_option maxHeartbeats 1000000 in
theorem GoWithPairs_any (A B : Option Addr) (c d : Nat) (rows : List (List Int)) (p : List Int) (w : World) (h : RdR w A c rows) (hP : Rd w B d p) (hpd : p.length ≤ d) (hl : rows.length ≤ 1099511627776) (hl2 : ∀ r ∈ rows, r.length ≤ 1099511627776) (hpl : p.length ≤ 1099511627776) :
    Calls Try.prog 28 #[.slice A rows.length c, .slice B p.length d] w fun e w' => e = .returned (.bool (gwB rows p)) ∧ Below w.heap.size w w' := by
  have HV := Lib.hid (ValidRows_any A c rows w h hl hl2)
  by_cases hr : VR rows
  · by_cases hpm : p.length = (RW rows 0).length
    · by_cases hpb : ∀ x ∈ p, 0 ≤ x ∧ x ≤ 40
      · have hv := vg_parts.2 ⟨hr, hpm, hpb⟩
        have := GoWithPairs_yes A B c d p.length rows p w (gwB rows p) h hP hr hpm rfl hpd hpb hl2 (by have := gw_yes hv; rwa [← hpm] at this)
        exact this
      · have hv : vgB rows p = false := by rw [← Bool.not_eq_true, vg_parts]; exact fun h => hpb h.2.2
        rw [gw_no hv]
        have hgb : gB p = false := gB_bad (by rw [← Bool.not_eq_true, List.all_eq_true]; exact fun h => hpb (fun x hx => inR_true.1 (h x hx)))
        have HGO : Hid (∀ w1, Below w.heap.size w w1 → Calls Try.prog 55 #[.slice B p.length d, .int .i64 4, .func (.func 56) #[] #[]] w1 fun e w' => e = .returned (.bool false) ∧ w1 = w') := Lib.hid (fun w1 hb => by
          have := areGoods_any B d p w1 (hP.below hb) hpl
          rwa [hgb] at this)
        rw [vr_true hr] at HV
        obtain ⟨b0, off0, A0, c0, rfl, hc0⟩ := row_head h hr
        rw [← hpm] at hc0
        have hn1 := hr.1.1
        clear hpb hv hgb hr hpm
        go_enter Try.func28, Try.ntmps28
        go_wp2_with fail
        refine HV.out.mono ?_
        rintro e w1 ⟨rfl, b1⟩
        have hc01 := (b1.cell (p := ⟨b0, off0, none⟩) (World.block_lt_of_cell? w _ hc0)).trans hc0
        go_wp2_with fail
        refine (HGO.out w1 b1).mono ?_
        rintro e w2 ⟨rfl, rfl⟩
        go_wp2
        go_ret
        exact ⟨rfl, b1⟩
    · have hv : vgB rows p = false := by rw [← Bool.not_eq_true, vg_parts]; exact fun h => hpm h.2.1
      rw [gw_no hv]
      rw [vr_true hr] at HV
      obtain ⟨b0, off0, A0, c0, rfl, hc0⟩ := row_head h hr
      have hn1 := hr.1.1
      generalize (RW rows 0).length = m at *
      have hpm' : ¬ (p.length : Int) = (m : Int) := by omega
      have hbe : ((p.length : Int) != (m : Int)) = true := by simpa using hpm'
      clear hv hr hpm
      go_enter Try.func28, Try.ntmps28
      go_wp2_with fail
      refine HV.out.mono ?_
      rintro e w1 ⟨rfl, b1⟩
      have hc01 := (b1.cell (p := ⟨b0, off0, none⟩) (World.block_lt_of_cell? w _ hc0)).trans hc0
      go_wp2
      go_ret
      exact ⟨rfl, b1⟩
  · have hv : vgB rows p = false := by rw [← Bool.not_eq_true, vg_parts]; exact fun h => hr h.1
    rw [gw_no hv]
    rw [vr_false hr] at HV
    clear hv hr
    go_enter Try.func28, Try.ntmps28
    go_wp2_with fail
    refine HV.out.mono ?_
    rintro e w1 ⟨rfl, b1⟩
    go_wp2
    go_ret
    exact ⟨rfl, b1⟩

theorem GoWithPairs_both (rows : List (List Int)) (told : List Int) : ∃ (v : Bool), (rows.length ≤ 1099511627776 → (∀ r ∈ rows, r.length ≤ 1099511627776) → told.length ≤ 1099511627776 →
    (∀ A T c d w, RdR w A c rows → Rd w T d told → told.length ≤ d → Calls Try.prog 27 #[.slice A rows.length c, .slice T told.length d] w fun e w' => e = .returned (.bool v) ∧ Below w.heap.size w w') ∧
    (∀ A T c d w, RdR w A c rows → Rd w T d told → told.length ≤ d → Calls Try.prog 28 #[.slice A rows.length c, .slice T told.length d] w fun e w' => e = .returned (.bool v) ∧ Below w.heap.size w w')) :=
  ⟨gwB rows told, fun hl hl2 hl3 => ⟨fun A T c d w h1 h2 _ => SGoWithPairs_any A T c d rows told w h1 h2 hl hl2 hl3,
    fun A T c d w h1 h2 h3 => GoWithPairs_any A T c d rows told w h1 h2 h3 hl hl2 hl3⟩⟩
end Go.Proofs.Ytpildecpabeanab

/-
  The walk of the exact law of GoWithPairs.
-/
namespace Go.Proofs.Ytpildecpabeanab
open Go.RowKit

set_option maxRecDepth 100000 in
set_option maxHeartbeats 4000000 in
theorem fnExactGoWithPairs_walk {A : Option Addr} {c : Nat} {rows : List (List Int)} {T : Option Addr} {d : Nat} {told : List Int} {w : World} (h0 : CameR w A c rows) (h3 : Came .i64 w T d told) :
    Calls Try.prog 8 #[.slice A rows.length c, .slice T told.length d] w fun e w' => e = .returned (.bool true) ∧ Below w.heap.size w w' := by
  have h := h0.1
  have hT := h3.rd
  have HSZ := Lib.hid (szIntSS_any A c rows w h h0.2.1 h0.2.2)
  clear h3
  by_cases hlen : 1048576 < told.length
  · clear h0 HSZ
    go_enter Try.func8, Try.ntmps8
    go_wp2
    go_ret
    exact ⟨rfl, Below.refl _ _⟩
  have htl : told.length ≤ 1099511627776 := by omega
  have htl1 : told.length ≤ 1048576 := by omega
  obtain ⟨v, hbo⟩ := GoWithPairs_both rows told
  have HBO := Lib.hid hbo
  have hvv : (v != v) = false := by simp
  clear h0 hbo hlen
  go_enter Try.func8, Try.ntmps8
  go_wp2_with fail
  refine HSZ.out.mono ?_
  rintro e w1 ⟨⟨z, rfl, hz⟩, n1, rfl⟩
  rcases hz with ⟨rfl, _⟩ | ⟨hz0, hs⟩
  · go_wp2
    go_ret
    exact ⟨rfl, below_drewN' (Below.refl _ _) n1⟩
  have hzn : decide (z < 0) = false := by simp; omega
  obtain ⟨hSb, hIb⟩ := HBO.out (by have := szR_len hs; omega) (szR_each hs) htl
  have HS := Lib.hid hSb
  have HI := Lib.hid hIb
  have HZ := Lib.hid hs
  clear hSb hIb hs HBO HSZ hz0
  go_wp2_with fail
  refine (toIntSS_any A c rows (w.drewN n1) (h.drewN n1) HZ.out).mono ?_
  rintro e w2 ⟨v2, ps2, rfl, R2, hm2, b2⟩
  have B2 : Below w.heap.size w w2 := (below_drewN' (Below.refl _ w) n1).trans b2
  obtain ⟨A2, c2, rfl, hR2⟩ := R2.rdr hm2
  go_wp2_with fail
  refine (toIntS_any T d told w2 (hT.below B2) htl).mono ?_
  rintro e w2b ⟨g2, d2, rfl, o2, b2b⟩
  have B2b := B2.trans (b2b.mono B2.size)
  go_wp2_with fail
  refine (HS.out A2 (some ⟨g2, 0, none⟩) c2 d2 w2b (hR2.below b2b) o2.rd o2.cap.1).mono ?_
  rintro e w3 ⟨rfl, b3⟩
  have B3 := B2b.trans (b3.mono B2b.size)
  clear R2 hm2 hR2 b2 b3 B2 o2 b2b B2b
  go_wp2_with fail
  refine (toIntSS_any A c rows w3 (h.below B3) HZ.out).mono ?_
  rintro e w4 ⟨v4, ps4, rfl, R4, hm4, b4⟩
  have B4 := B3.trans (b4.mono B3.size)
  obtain ⟨hpl, hps, hpe⟩ := nums_sz hm4 HZ.out
  have HPE := Lib.hid hpe
  have HM4 := Lib.hid hm4
  have hlen4 : ps4.length = rows.length := by have := congrArg List.length hm4; simpa using this
  obtain ⟨A4, c4, rfl, hR4⟩ := R4.rdr hm4
  clear hpe hm4
  go_wp2_with fail
  refine (toIntS_any T d told w4 (hT.below B4) htl).mono ?_
  rintro e w4b ⟨g4, d4, rfl, o4, b4b⟩
  have B4b := B4.trans (b4b.mono B4.size)
  have R4b := R4.below b4b
  go_wp2_with fail
  refine (HI.out A4 (some ⟨g4, 0, none⟩) c4 d4 w4b (hR4.below b4b) o4.rd o4.cap.1).mono ?_
  rintro e w5 ⟨rfl, b5⟩
  have B5 := B4b.trans (b5.mono B4b.size)
  have R5 := R4b.below b5
  have o5 := o4.below b5
  clear R4 R4b b5 hR4 b4 B4 b4b B4b o4
  go_wp2_with fail
  refine (toIntSS_any A c rows w5 (h.below B5) HZ.out).mono ?_
  rintro e w7 ⟨v7, ps7, rfl, R7, hm7, b7⟩
  have B7 := B5.trans (b7.mono B5.size)
  have R57 := R5.below b7
  have o7 := o5.below b7
  have HEQ : Hid (ps4.map (·.2.2) = ps7.map (·.2.2)) := Lib.hid (by rw [HM4.out, hm7])
  clear R5 B5 b7 hm7 o5
  go_wp2_with fail
  refine (eqIntSSU w7 R57 R7 HEQ.out hpl HPE.out).mono ?_
  rintro e w8 ⟨rfl, b8⟩
  have B8 := B7.trans (b8.mono B7.size)
  have o8 := o7.below b8
  clear o7 b8 R57 R7 B7
  go_wp2_with fail
  refine (toIntS_any T d told w8 (hT.below B8) htl).mono ?_
  rintro e w9 ⟨g9, d9, rfl, o9, b9⟩
  have B9 := B8.trans (b9.mono B8.size)
  go_wp2_with fail
  refine (eqIntS_any _ _ _ _ told told w9 (o8.below b9).rd o9.rd htl).mono ?_
  rw [eqB_self]
  rintro e w10 ⟨rfl, n10, rfl⟩
  go_wp2
  go_ret
  exact ⟨rfl, below_drewN' B9 n10⟩

end Go.Proofs.Ytpildecpabeanab
