/-
  Chapter 11: BestSeen of the program and of the model.
-/
import Derived.Test.YtnojlapjkdihmabHp
import Derived.Test.YtnojlapjkdihmabHt
import Derived.Test.YtnojlapjkdihmabG37
import Derived.Test.YtnojlapjkdihmabG04
import Derived.Test.YtnojlapjkdihmabG12
namespace Go.Proofs.Ytnojlapjkdihmab
open Go.RowKit

theorem stV_parts (b : Bool) (q : Rat) : ∃ x y v, stV b q = .tuple #[frV x y, .bool v] := by
  cases b with
  | false => exact ⟨0, 0, false, rfl⟩
  | true => exact ⟨q.num, q.den, true, rfl⟩
theorem BestSeen_both (rows : List (List Int)) : ∃ x y v, rows.length ≤ 1099511627776 → (∀ r ∈ rows, r.length ≤ 1099511627776) →
    (∀ A c w, RdR w A c rows → Calls Try.prog 16 #[.slice A rows.length c] w fun e w' => e = .returned (.tuple #[frV x y, .bool v]) ∧ Below w.heap.size w w') ∧
    (∀ A c w, RdR w A c rows → Calls Try.prog 17 #[.slice A rows.length c] w fun e w' => e = .returned (.tuple #[frV x y, .bool v]) ∧ Below w.heap.size w w') := by
  obtain ⟨x, y, v, h⟩ := stV_parts (vsB rows) (fq (seenN rows) (waysL rows))
  exact ⟨x, y, v, fun h1 h2 => ⟨fun A c w hR => by have := SBestSeen_any A c rows w hR h1 h2; rwa [h] at this, fun A c w hR => by have := BestSeen_any A c rows w hR h1 h2; rwa [h] at this⟩⟩
end Go.Proofs.Ytnojlapjkdihmab

/-
  Chapter 11, the model: BestStop, StopAt, HalfStop; both sides.
-/
namespace Go.Proofs.Ytnojlapjkdihmab
open Go.RowKit

set_option maxHeartbeats 1000000 in
theorem SBestStop_any (A : Option Addr) (c : Nat) (rows : List (List Int)) (w : World) (h : RdR w A c rows) (hl : rows.length ≤ 1099511627776) (hl2 : ∀ r ∈ rows, r.length ≤ 1099511627776) :
    Calls Try.prog 19 #[.slice A rows.length c] w fun e w' => e = .returned (stV (vsB rows) (byQ id rows)) ∧ Below w.heap.size w w' := by
  obtain ⟨q, hq⟩ : ∃ q, q = byQ id rows := ⟨_, rfl⟩
  rw [← hq]
  have HQ := Lib.hid hq
  clear hq
  have hB : Below w.heap.size w (w.alloc (.cells #[.int .i64 0, .int .i64 0] 28)) := below_al w _
  have h' := h.below hB
  have hk := PairAt.new (w := w) (x := 0) (y := 0)
  have HV := Lib.hid (validStages_any A c rows _ h' hl hl2)
  obtain ⟨c0, c1, f0, f1⟩ := hk.facts
  cases hv : vsB rows with
  | false =>
    have HE := Lib.hid (stV_no (q := q) hv)
    rw [hv] at HV HE
    clear hv
    go_enter Try.func19, Try.ntmps19
    go_wp2_with fail
    refine HV.out.mono ?_
    rintro e w1 ⟨rfl, m, rfl⟩
    go_wp2
    obtain ⟨e0, e1, _, _⟩ := (PairAt.set_ (w := (w.alloc (.cells #[.int .i64 0, .int .i64 0] 28)).drewN m) hk 0 0).facts
    have hB7 := below_set2 (B := w.heap.size) (below_drewN' hB m) (Nat.le_refl _) (.int .i64 0) (.int .i64 0)
    refine bodyPost_ret (v := nayV) (by simp [results, Try.results19, go_sem, nayV, frV, e0, e1]) rfl ⟨by rw [HE.out], hB7⟩
  | true =>
    have HE := Lib.hid (stV_yes (q := q) hv)
    have HF : Hid (∀ W', (∃ b off, A = some ⟨b, off, none⟩ ∧ RdR W' (some ⟨b, off, none⟩) c rows) → Calls Try.prog 42 #[.slice A rows.length c] W' fun e w' => e = .returned (frV (byQ id rows).num ((byQ id rows).den : Int)) ∧ Below W'.heap.size W' w') := Lib.hid (fun W' hx => by
      obtain ⟨b, off, rfl, hR⟩ := hx
      exact bestStop_any b off c rows W' hR hv)
    obtain ⟨b, off, hA, _⟩ := h.open_ (vs_is hv).1.1
    rw [hv] at HV HE
    have HK := Lib.hid hk
    have HBB := Lib.hid hB
    have HA := Lib.hid hA
    have HH := Lib.hid h'
    clear hv hk hB hA h h'
    go_enter Try.func19, Try.ntmps19
    go_wp2_with fail
    refine HV.out.mono ?_
    rintro e w1 ⟨rfl, m, rfl⟩
    have HK5 := Lib.hid (HK.out.drewN m)
    have HBW := Lib.hid (below_drewN' HBB.out m)
    go_wp2_with fail
    refine (HF.out _ ⟨b, off, HA.out, HA.out ▸ HH.out.drewN m⟩).mono ?_
    rintro e w5 ⟨rfl, hb5⟩
    have hk5 := HK5.out.below hb5
    have hB5 := HBW.out.trans (hb5.mono HBW.out.size)
    obtain ⟨d0, d1, g0, g1⟩ := hk5.facts
    rw [← HQ.out]
    unfold frV
    go_wp2
    obtain ⟨e0, e1, _, _⟩ := (hk5.set_ q.num (q.den : Int)).facts
    have hB7 := below_set2 hB5 (Nat.le_refl _) (.int .i64 q.num) (.int .i64 (q.den : Int))
    refine bodyPost_ret (v := yesV q) (by simp [results, Try.results19, go_sem, yesV, frV, e0, e1]) rfl ⟨by rw [HE.out], hB7⟩

set_option maxHeartbeats 2000000 in
theorem SStopAt_any (A : Option Addr) (c : Nat) (rows : List (List Int)) (up down : Int) (w : World) (h : RdR w A c rows) (hl : rows.length ≤ 1099511627776) (hl2 : ∀ r ∈ rows, r.length ≤ 1099511627776) :
    Calls Try.prog 21 #[.slice A rows.length c, .int .i64 up, .int .i64 down] w fun e w' => e = .returned (stV (stAtB rows up down) (byQ (fun _ => fq up down) rows)) ∧ Below w.heap.size w w' := by
  obtain ⟨q, hq⟩ : ∃ q, q = byQ (fun _ => fq up down) rows := ⟨_, rfl⟩
  rw [← hq]
  have HQ := Lib.hid hq
  clear hq
  have hB : Below w.heap.size w (w.alloc (.cells #[.int .i64 0, .int .i64 0] 28)) := below_al w _
  have h' := h.below hB
  have hk := PairAt.new (w := w) (x := 0) (y := 0)
  have HV := Lib.hid (validStages_any A c rows _ h' hl hl2)
  obtain ⟨c0, c1, f0, f1⟩ := hk.facts
  have HU := Lib.hid (fun w => inRange_any up 0 6 w)
  have HD := Lib.hid (fun w => inRange_any down 1 6 w)
  cases hv : vsB rows with
  | false =>
    have HE := Lib.hid (stV_no (q := q) (show stAtB rows up down = false by unfold stAtB; rw [hv]; rfl))
    rw [hv] at HV
    clear hv
    go_enter Try.func21, Try.ntmps21
    go_wp2_with fail
    refine HV.out.mono ?_
    rintro e w1 ⟨rfl, m, rfl⟩
    go_wp2
    obtain ⟨e0, e1, _, _⟩ := (PairAt.set_ (w := (w.alloc (.cells #[.int .i64 0, .int .i64 0] 28)).drewN m) hk 0 0).facts
    have hB7 := below_set2 (B := w.heap.size) (below_drewN' hB m) (Nat.le_refl _) (.int .i64 0) (.int .i64 0)
    refine bodyPost_ret (v := nayV) (by simp [results, Try.results21, go_sem, nayV, frV, e0, e1]) rfl ⟨by rw [HE.out], hB7⟩
  | true =>
    cases hu : inR up 0 6 with
    | false =>
      have HE := Lib.hid (stV_no (q := q) (show stAtB rows up down = false by unfold stAtB; rw [hv, hu]; rfl))
      rw [hv] at HV
      rw [hu] at HU
      clear hv hu
      go_enter Try.func21, Try.ntmps21
      go_wp2_with fail
      refine HV.out.mono ?_
      rintro e w1 ⟨rfl, m, rfl⟩
      go_wp2_with fail
      refine (HU.out _).mono ?_
      rintro e w1 ⟨rfl, rfl⟩
      go_wp2
      obtain ⟨e0, e1, _, _⟩ := (PairAt.set_ (w := (w.alloc (.cells #[.int .i64 0, .int .i64 0] 28)).drewN m) hk 0 0).facts
      have hB7 := below_set2 (B := w.heap.size) (below_drewN' hB m) (Nat.le_refl _) (.int .i64 0) (.int .i64 0)
      refine bodyPost_ret (v := nayV) (by simp [results, Try.results21, go_sem, nayV, frV, e0, e1]) rfl ⟨by rw [HE.out], hB7⟩
    | true =>
      cases hd : inR down 1 6 with
      | false =>
        have HE := Lib.hid (stV_no (q := q) (show stAtB rows up down = false by unfold stAtB; rw [hv, hu, hd]; rfl))
        rw [hv] at HV
        rw [hu] at HU
        rw [hd] at HD
        clear hv hu hd
        go_enter Try.func21, Try.ntmps21
        go_wp2_with fail
        refine HV.out.mono ?_
        rintro e w1 ⟨rfl, m, rfl⟩
        go_wp2_with fail
        refine (HU.out _).mono ?_
        rintro e w1 ⟨rfl, rfl⟩
        go_wp2_with fail
        refine (HD.out _).mono ?_
        rintro e w1 ⟨rfl, rfl⟩
        go_wp2
        obtain ⟨e0, e1, _, _⟩ := (PairAt.set_ (w := (w.alloc (.cells #[.int .i64 0, .int .i64 0] 28)).drewN m) hk 0 0).facts
        have hB7 := below_set2 (B := w.heap.size) (below_drewN' hB m) (Nat.le_refl _) (.int .i64 0) (.int .i64 0)
        refine bodyPost_ret (v := nayV) (by simp [results, Try.results21, go_sem, nayV, frV, e0, e1]) rfl ⟨by rw [HE.out], hB7⟩
      | true =>
        have hdd := inR_true.1 hd
        have huu := inR_true.1 hu
        have HE := Lib.hid (stV_yes (q := q) (show stAtB rows up down = true by unfold stAtB; rw [hv, hu, hd]; rfl))
        have hn := FrIs.self (fq up down)
        have hb3 := fq_bd hn hdd.1 (by omega) huu.1 (by omega)
        have HF : Hid (∀ W', (∃ b off, A = some ⟨b, off, none⟩ ∧ RdR W' (some ⟨b, off, none⟩) c rows) → Calls Try.prog 46 #[.slice A rows.length c, frV (fq up down).num ((fq up down).den : Int)] W' fun e w' => e = .returned (frV (byQ (fun _ => fq up down) rows).num ((byQ (fun _ => fq up down) rows).den : Int)) ∧ Below W'.heap.size W' w') := Lib.hid (fun W' hx => by
          obtain ⟨b, off, rfl, hR⟩ := hx
          exact stopAt_any b off c rows (fq up down) _ _ W' hR hv hn hb3.1 hb3.2.1 hb3.2.2)
        have HFR := Lib.hid (fun w => Sfrac_any up down _ _ w hn hdd.1 (by omega) (by omega) (by omega))
        obtain ⟨b, off, hA, _⟩ := h.open_ (vs_is hv).1.1
        rw [hv] at HV
        rw [hu] at HU
        rw [hd] at HD
        have HK := Lib.hid hk
        have HBB := Lib.hid hB
        have HA := Lib.hid hA
        have HH := Lib.hid h'
        clear hv hu hd hk hB hA h h' hn hb3
        go_enter Try.func21, Try.ntmps21
        go_wp2_with fail
        refine HV.out.mono ?_
        rintro e w1 ⟨rfl, m, rfl⟩
        have HK1 := Lib.hid (HK.out.drewN m)
        have HB1 := Lib.hid (below_drewN' HBB.out m)
        have HH1 := Lib.hid (HH.out.drewN m)
        go_wp2_with fail
        refine (HU.out _).mono ?_
        rintro e w1 ⟨rfl, rfl⟩
        go_wp2_with fail
        refine (HD.out _).mono ?_
        rintro e w1 ⟨rfl, rfl⟩
        go_wp2_with fail
        refine (HFR.out _).mono ?_
        rintro e w3 ⟨rfl, hb3⟩
        have HK5 := Lib.hid (HK1.out.below hb3)
        have HBW := Lib.hid (HB1.out.trans (hb3.mono HB1.out.size))
        have hh3 := HH1.out.below hb3
        go_wp2_with fail
        refine (HF.out _ ⟨b, off, HA.out, HA.out ▸ hh3⟩).mono ?_
        rintro e w5 ⟨rfl, hb5⟩
        have hk5 := HK5.out.below hb5
        have hB5 := HBW.out.trans (hb5.mono HBW.out.size)
        obtain ⟨d0, d1, g0, g1⟩ := hk5.facts
        rw [← HQ.out]
        unfold frV
        go_wp2
        obtain ⟨e0, e1, _, _⟩ := (hk5.set_ q.num (q.den : Int)).facts
        have hB7 := below_set2 hB5 (Nat.le_refl _) (.int .i64 q.num) (.int .i64 (q.den : Int))
        refine bodyPost_ret (v := yesV q) (by simp [results, Try.results21, go_sem, yesV, frV, e0, e1]) rfl ⟨by rw [HE.out], hB7⟩

set_option maxHeartbeats 2000000 in
theorem SHalfStop_any (A : Option Addr) (c : Nat) (rows : List (List Int)) (w : World) (h : RdR w A c rows) (hl : rows.length ≤ 1099511627776) (hl2 : ∀ r ∈ rows, r.length ≤ 1099511627776) :
    Calls Try.prog 23 #[.slice A rows.length c] w fun e w' => e = .returned (stV (vsB rows) (byQ (fun _ => halfQ rows) rows)) ∧ Below w.heap.size w w' := by
  obtain ⟨q, hq⟩ : ∃ q, q = byQ (fun _ => halfQ rows) rows := ⟨_, rfl⟩
  rw [← hq]
  have HQ := Lib.hid hq
  clear hq
  have hB : Below w.heap.size w (w.alloc (.cells #[.int .i64 0, .int .i64 0] 28)) := below_al w _
  have h' := h.below hB
  have hk := PairAt.new (w := w) (x := 0) (y := 0)
  have HV := Lib.hid (validStages_any A c rows _ h' hl hl2)
  obtain ⟨c0, c1, f0, f1⟩ := hk.facts
  cases hv : vsB rows with
  | false =>
    have HE := Lib.hid (stV_no (q := q) hv)
    rw [hv] at HV HE
    clear hv
    go_enter Try.func23, Try.ntmps23
    go_wp2_with fail
    refine HV.out.mono ?_
    rintro e w1 ⟨rfl, m, rfl⟩
    go_wp2
    obtain ⟨e0, e1, _, _⟩ := (PairAt.set_ (w := (w.alloc (.cells #[.int .i64 0, .int .i64 0] 28)).drewN m) hk 0 0).facts
    have hB7 := below_set2 (B := w.heap.size) (below_drewN' hB m) (Nat.le_refl _) (.int .i64 0) (.int .i64 0)
    refine bodyPost_ret (v := nayV) (by simp [results, Try.results23, go_sem, nayV, frV, e0, e1]) rfl ⟨by rw [HE.out], hB7⟩
  | true =>
    have HE := Lib.hid (stV_yes (q := q) hv)
    have hvs := vs_VS hv
    have hl4 := (vs_is hv).1.2
    have hww := ways_36 hvs hl4
    have hss := bestS_8 hvs hl4 (m := 0) (by omega)
    have HS := Lib.hid (fun w1 h1 => bestSum_any rows A c 0 w1 h1 (vs_is hv).2 hl4 (by omega))
    have HW := Lib.hid (fun w1 h1 => ways_any A c rows w1 h1 hv)
    have hn : FrIs (fq (bestS rows 0) (2 * waysL rows)) (halfQ rows).num (halfQ rows).den := by rw [bestS_seen hvs]; exact FrIs.self _
    have hb3 := fq_bd hn (by omega) (by omega) hss.1 (by omega)
    have HFR := Lib.hid (fun w => Sfrac_any (bestS rows 0) (2 * waysL rows) _ _ w hn (by omega) (by omega) (by omega) (by omega))
    have HF : Hid (∀ W', (∃ b off, A = some ⟨b, off, none⟩ ∧ RdR W' (some ⟨b, off, none⟩) c rows) → Calls Try.prog 46 #[.slice A rows.length c, frV (halfQ rows).num ((halfQ rows).den : Int)] W' fun e w' => e = .returned (frV (byQ (fun _ => halfQ rows) rows).num ((byQ (fun _ => halfQ rows) rows).den : Int)) ∧ Below W'.heap.size W' w') := Lib.hid (fun W' hx => by
      obtain ⟨b, off, rfl, hR⟩ := hx
      exact stopAt_any b off c rows (halfQ rows) _ _ W' hR hv (FrIs.self _) hb3.1 hb3.2.1 hb3.2.2)
    obtain ⟨b, off, hA, _⟩ := h.open_ (vs_is hv).1.1
    rw [hv] at HV HE
    have HK := Lib.hid hk
    have HBB := Lib.hid hB
    have HA := Lib.hid hA
    have HH := Lib.hid h'
    have hw1 := hww.1
    have hw2 := hww.2
    have hs1 := hss.1
    have hs2 := hss.2
    clear hv hvs hk hB hA h h' hn hb3 hww hss
    generalize bestS rows 0 = S at *
    generalize waysL rows = T at *
    go_enter Try.func23, Try.ntmps23
    go_wp2_with fail
    refine HV.out.mono ?_
    rintro e w1 ⟨rfl, m, rfl⟩
    have HH1 := Lib.hid (HH.out.drewN m)
    go_wp2_with fail
    refine (HS.out _ HH1.out).mono ?_
    rintro e w2 ⟨rfl, m2, rfl⟩
    go_wp2_with fail
    refine (HW.out _ (HH.out.drewN (m + m2))).mono ?_
    rintro e w3 ⟨rfl, m3, rfl⟩
    go_wp2_with fail
    refine (HFR.out _).mono ?_
    rintro e w4 ⟨rfl, hb4⟩
    have hB4 := below_drewN' HBB.out (m + m2 + m3)
    have hB5 := hB4.trans (hb4.mono hB4.size)
    have HK5 := Lib.hid (((HK.out.drewN (m + m2 + m3)).below hb4).old (.cells #[.int .i64 (halfQ rows).num, .int .i64 ((halfQ rows).den : Int)] 28))
    have HBW := Lib.hid (hB5.trans ((below_al w4 (.cells #[.int .i64 (halfQ rows).num, .int .i64 ((halfQ rows).den : Int)] 28)).mono hB5.size))
    have hh4 := ((HH.out.drewN (m + m2 + m3)).below hb4).below (below_al w4 (.cells #[.int .i64 (halfQ rows).num, .int .i64 ((halfQ rows).den : Int)] 28))
    obtain ⟨t0, t1, _, _⟩ := (PairAt.new (w := w4) (x := (halfQ rows).num) (y := ((halfQ rows).den : Int))).facts
    clear hB4 hB5 hb4
    unfold frV
    go_wp2_with fail
    refine (HF.out _ ⟨b, off, HA.out, HA.out ▸ hh4⟩).mono ?_
    rintro e w5 ⟨rfl, hb5⟩
    have hk5 := HK5.out.below hb5
    have hB5 := HBW.out.trans (hb5.mono HBW.out.size)
    obtain ⟨d0, d1, g0, g1⟩ := hk5.facts
    rw [← HQ.out]
    unfold frV
    go_wp2
    obtain ⟨e0, e1, _, _⟩ := (hk5.set_ q.num (q.den : Int)).facts
    have hB7 := below_set2 hB5 (Nat.le_refl _) (.int .i64 q.num) (.int .i64 (q.den : Int))
    refine bodyPost_ret (v := yesV q) (by simp [results, Try.results23, go_sem, yesV, frV, e0, e1]) rfl ⟨by rw [HE.out], hB7⟩

theorem BestStop_both (rows : List (List Int)) : ∃ x y v, rows.length ≤ 1099511627776 → (∀ r ∈ rows, r.length ≤ 1099511627776) →
    (∀ A c w, RdR w A c rows → Calls Try.prog 19 #[.slice A rows.length c] w fun e w' => e = .returned (.tuple #[frV x y, .bool v]) ∧ Below w.heap.size w w') ∧
    (∀ A c w, RdR w A c rows → Calls Try.prog 20 #[.slice A rows.length c] w fun e w' => e = .returned (.tuple #[frV x y, .bool v]) ∧ Below w.heap.size w w') := by
  obtain ⟨x, y, v, h⟩ := stV_parts (vsB rows) (byQ id rows)
  exact ⟨x, y, v, fun h1 h2 => ⟨fun A c w hR => by have := SBestStop_any A c rows w hR h1 h2; rwa [h] at this, fun A c w hR => by have := BestStop_any A c rows w hR h1 h2; rwa [h] at this⟩⟩
theorem StopAt_both (rows : List (List Int)) (up down : Int) : ∃ x y v, rows.length ≤ 1099511627776 → (∀ r ∈ rows, r.length ≤ 1099511627776) →
    (∀ A c w, RdR w A c rows → Calls Try.prog 21 #[.slice A rows.length c, .int .i64 up, .int .i64 down] w fun e w' => e = .returned (.tuple #[frV x y, .bool v]) ∧ Below w.heap.size w w') ∧
    (∀ A c w, RdR w A c rows → Calls Try.prog 22 #[.slice A rows.length c, .int .i64 up, .int .i64 down] w fun e w' => e = .returned (.tuple #[frV x y, .bool v]) ∧ Below w.heap.size w w') := by
  obtain ⟨x, y, v, h⟩ := stV_parts (stAtB rows up down) (byQ (fun _ => fq up down) rows)
  exact ⟨x, y, v, fun h1 h2 => ⟨fun A c w hR => by have := SStopAt_any A c rows up down w hR h1 h2; rwa [h] at this, fun A c w hR => by have := StopAt_any A c rows up down w hR h1 h2; rwa [h] at this⟩⟩
theorem HalfStop_both (rows : List (List Int)) : ∃ x y v, rows.length ≤ 1099511627776 → (∀ r ∈ rows, r.length ≤ 1099511627776) →
    (∀ A c w, RdR w A c rows → Calls Try.prog 23 #[.slice A rows.length c] w fun e w' => e = .returned (.tuple #[frV x y, .bool v]) ∧ Below w.heap.size w w') ∧
    (∀ A c w, RdR w A c rows → Calls Try.prog 24 #[.slice A rows.length c] w fun e w' => e = .returned (.tuple #[frV x y, .bool v]) ∧ Below w.heap.size w w') := by
  obtain ⟨x, y, v, h⟩ := stV_parts (vsB rows) (byQ (fun _ => halfQ rows) rows)
  exact ⟨x, y, v, fun h1 h2 => ⟨fun A c w hR => by have := SHalfStop_any A c rows w hR h1 h2; rwa [h] at this, fun A c w hR => by have := HalfStop_any A c rows w hR h1 h2; rwa [h] at this⟩⟩
end Go.Proofs.Ytnojlapjkdihmab

/-
  The walk of the exact law of BestStop.
-/
namespace Go.Proofs.Ytnojlapjkdihmab
open Go.RowKit

set_option maxRecDepth 100000 in
set_option maxHeartbeats 4000000 in
theorem fnExactBestStop_walk {A : Option Addr} {c : Nat} {rows : List (List Int)} {w : World} (h0 : CameR w A c rows) :
    Calls Try.prog 5 #[.slice A rows.length c] w fun e w' => e = .returned (.bool true) ∧ Below w.heap.size w w' := by
  have h := h0.1
  have HSZ := Lib.hid (szIntSS_any A c rows w h h0.2.1 h0.2.2)
  obtain ⟨x, y, v, HB⟩ := BestStop_both rows
  have HS : Hid (rows.length ≤ 1099511627776 → (∀ r ∈ rows, r.length ≤ 1099511627776) → ∀ A c w, RdR w A c rows → Calls Try.prog 19 #[.slice A rows.length c] w fun e w' => e = .returned (.tuple #[frV x y, .bool v]) ∧ Below w.heap.size w w') := Lib.hid (fun h1 h2 => (HB h1 h2).1)
  have HI : Hid (rows.length ≤ 1099511627776 → (∀ r ∈ rows, r.length ≤ 1099511627776) → ∀ A c w, RdR w A c rows → Calls Try.prog 20 #[.slice A rows.length c] w fun e w' => e = .returned (.tuple #[frV x y, .bool v]) ∧ Below w.heap.size w w') := Lib.hid (fun h1 h2 => (HB h1 h2).2)
  have hvv : (v != v) = false := by simp
  clear h0 HB
  go_enter Try.func5, Try.ntmps5
  go_wp2_with fail
  refine HSZ.out.mono ?_
  rintro e w1 ⟨⟨z, rfl, hz⟩, n1, rfl⟩
  rcases hz with ⟨rfl, _⟩ | ⟨hz0, hs⟩
  · go_wp2
    go_ret
    exact ⟨rfl, below_drewN' (Below.refl _ _) n1⟩
  have hzn : decide (z < 0) = false := by simp; omega
  have HZ := Lib.hid hs
  have HS := Lib.hid (HS.out (by have := szR_len hs; omega) (szR_each hs))
  have HI := Lib.hid (HI.out (by have := szR_len hs; omega) (szR_each hs))
  clear hs HSZ hz0
  go_wp2_with fail
  refine (toIntSS_any A c rows (w.drewN n1) (h.drewN n1) HZ.out).mono ?_
  rintro e w2 ⟨v2, ps2, rfl, R2, hm2, b2⟩
  have B2 : Below w.heap.size w w2 := (below_drewN' (Below.refl _ w) n1).trans b2
  obtain ⟨A2, c2, rfl, hR2⟩ := R2.rdr hm2
  go_wp2_with fail
  refine (HS.out A2 c2 w2 hR2).mono ?_
  rintro e w3 ⟨rfl, b3⟩
  unfold frV
  have hk3 := PairAt.new (w := w3) (x := x) (y := y)
  have B3 := (B2.trans (b3.mono B2.size)).trans ((below_al w3 (.cells #[.int .i64 x, .int .i64 y] 28)).mono (B2.trans (b3.mono B2.size)).size)
  clear R2 hm2 hR2 b2 b3 B2
  go_wp2_with fail
  refine (toIntSS_any A c rows _ (h.below B3) HZ.out).mono ?_
  rintro e w4 ⟨v4, ps4, rfl, R4, hm4, b4⟩
  have B4 := B3.trans (b4.mono B3.size)
  have hk4 := hk3.below b4
  obtain ⟨hpl, hps, hpe⟩ := nums_sz hm4 HZ.out
  have HPE := Lib.hid hpe
  have HM4 := Lib.hid hm4
  have hlen4 : ps4.length = rows.length := by have := congrArg List.length hm4; simpa using this
  obtain ⟨A4, c4, rfl, hR4⟩ := R4.rdr hm4
  clear hpe hm4 hk3
  go_wp2_with fail
  refine (HI.out A4 c4 w4 hR4).mono ?_
  rintro e w5 ⟨rfl, b5⟩
  unfold frV
  have hk5 := (hk4.below b5).old (.cells #[.int .i64 x, .int .i64 y] 28)
  have hg5 := PairAt.new (w := w5) (x := x) (y := y)
  have ba5 := below_al w5 (.cells #[.int .i64 x, .int .i64 y] 28)
  have B5' := B4.trans (b5.mono B4.size)
  have B5 := B5'.trans (ba5.mono B5'.size)
  have R5 := (R4.below b5).below ba5
  obtain ⟨c0, c1', f0, f1⟩ := hk5.facts
  obtain ⟨c2', c3, f2, f3⟩ := hg5.facts
  clear R4 b5 hR4 b4 B4 hk4 B5' hk5 hg5
  go_wp2_with fail
  refine (eqFrac_same _ _ _).mono ?_
  rintro e w6 ⟨rfl, b6⟩
  have R6 := R5.below b6
  have B6 := B5.trans (b6.mono B5.size)
  clear R5 B5 ba5 b6
  go_wp2_with fail
  refine (toIntSS_any A c rows w6 (h.below B6) HZ.out).mono ?_
  rintro e w7 ⟨v7, ps7, rfl, R7, hm7, b7⟩
  have B7 := B6.trans (b7.mono B6.size)
  have R57 := R6.below b7
  have HEQ : Hid (ps4.map (·.2.2) = ps7.map (·.2.2)) := Lib.hid (by rw [HM4.out, hm7])
  clear R6 B6 b7 hm7
  go_wp2_with fail
  refine (eqIntSSU w7 R57 R7 HEQ.out hpl HPE.out).mono ?_
  rintro e w8 ⟨rfl, b8⟩
  have B8 := B7.trans (b8.mono B7.size)
  go_wp2
  go_ret
  exact ⟨rfl, B8⟩

end Go.Proofs.Ytnojlapjkdihmab
