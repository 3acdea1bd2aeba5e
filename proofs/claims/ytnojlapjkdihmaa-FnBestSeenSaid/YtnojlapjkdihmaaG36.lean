/-
  Chapter 11, the model: BestStop, StopAt, HalfStop; both sides.
-/
import Derived.Test.YtnojlapjkdihmaaHt
import Derived.Test.YtnojlapjkdihmaaG35
import Derived.Test.YtnojlapjkdihmaaG07
namespace Go.Proofs.Ytnojlapjkdihmaa
open Go.RowKit

set_option maxHeartbeats 1000000 in
theorem SBestStop_any (A : Option Addr) (c : Nat) (rows : List (List Int)) (w : World) (h : RdR w A c rows) (hl : rows.length ≤ 1099511627776) (hl2 : ∀ r ∈ rows, r.length ≤ 1099511627776) :
    Calls Try.prog 36 #[.slice A rows.length c] w fun e w' => e = .returned (stV (vsB rows) (byQ id rows)) ∧ Below w.heap.size w w' := by
  obtain ⟨q, hq⟩ : ∃ q, q = byQ id rows := ⟨_, rfl⟩
  rw [← hq]
  have HQ := Lib.hid hq
  clear hq
  have hB : Below w.heap.size w (w.alloc (.cells #[.int .i64 0, .int .i64 0] 36)) := below_al w _
  have h' := h.below hB
  have hk := PairAt.new (w := w) (x := 0) (y := 0)
  have HV := Lib.hid (validStages_any A c rows _ h' hl hl2)
  obtain ⟨c0, c1, f0, f1⟩ := hk.facts
  cases hv : vsB rows with
  | false =>
    have HE := Lib.hid (stV_no (q := q) hv)
    rw [hv] at HV HE
    clear hv
    go_enter Try.func36, Try.ntmps36
    go_wp2_with fail
    refine HV.out.mono ?_
    rintro e w1 ⟨rfl, m, rfl⟩
    go_wp2
    obtain ⟨e0, e1, _, _⟩ := (PairAt.set_ (w := (w.alloc (.cells #[.int .i64 0, .int .i64 0] 36)).drewN m) hk 0 0).facts
    have hB7 := below_set2 (B := w.heap.size) (below_drewN' hB m) (Nat.le_refl _) (.int .i64 0) (.int .i64 0)
    refine bodyPost_ret (v := nayV) (by simp [results, Try.results36, go_sem, nayV, frV, e0, e1]) rfl ⟨by rw [HE.out], hB7⟩
  | true =>
    have HE := Lib.hid (stV_yes (q := q) hv)
    have HF : Hid (∀ W', (∃ b off, A = some ⟨b, off, none⟩ ∧ RdR W' (some ⟨b, off, none⟩) c rows) → Calls Try.prog 112 #[.slice A rows.length c] W' fun e w' => e = .returned (frV (byQ id rows).num ((byQ id rows).den : Int)) ∧ Below W'.heap.size W' w') := Lib.hid (fun W' hx => by
      obtain ⟨b, off, rfl, hR⟩ := hx
      exact bestStop_any b off c rows W' hR hv)
    obtain ⟨b, off, hA, _⟩ := h.open_ (vs_is hv).1.1
    rw [hv] at HV HE
    have HK := Lib.hid hk
    have HBB := Lib.hid hB
    have HA := Lib.hid hA
    have HH := Lib.hid h'
    clear hv hk hB hA h h'
    go_enter Try.func36, Try.ntmps36
    go_wp2_with fail
    refine HV.out.mono ?_
    rintro e w1 ⟨rfl, m, rfl⟩
    have HK5 := Lib.hid (HK.out.drewN m)
    have HBW := Lib.hid (below_drewN' HBB.out m)
    go_wp2_with fail
    refine (HF.out _ ⟨b, off, HA.out, HA.out ▸ HH.out.drewN m⟩).mono ?_
    rintro e w5 ⟨rfl, hb5⟩
    have hk5 := HK5.out.below hb5
    have hB5 := HBW.out.trans (hb5.mono HBW.out.size)
    obtain ⟨d0, d1, g0, g1⟩ := hk5.facts
    rw [← HQ.out]
    unfold frV
    go_wp2
    obtain ⟨e0, e1, _, _⟩ := (hk5.set_ q.num (q.den : Int)).facts
    have hB7 := below_set2 hB5 (Nat.le_refl _) (.int .i64 q.num) (.int .i64 (q.den : Int))
    refine bodyPost_ret (v := yesV q) (by simp [results, Try.results36, go_sem, yesV, frV, e0, e1]) rfl ⟨by rw [HE.out], hB7⟩

set_option maxHeartbeats 2000000 in
theorem SStopAt_any (A : Option Addr) (c : Nat) (rows : List (List Int)) (up down : Int) (w : World) (h : RdR w A c rows) (hl : rows.length ≤ 1099511627776) (hl2 : ∀ r ∈ rows, r.length ≤ 1099511627776) :
    Calls Try.prog 40 #[.slice A rows.length c, .int .i64 up, .int .i64 down] w fun e w' => e = .returned (stV (stAtB rows up down) (byQ (fun _ => fq up down) rows)) ∧ Below w.heap.size w w' := by
  obtain ⟨q, hq⟩ : ∃ q, q = byQ (fun _ => fq up down) rows := ⟨_, rfl⟩
  rw [← hq]
  have HQ := Lib.hid hq
  clear hq
  have hB : Below w.heap.size w (w.alloc (.cells #[.int .i64 0, .int .i64 0] 36)) := below_al w _
  have h' := h.below hB
  have hk := PairAt.new (w := w) (x := 0) (y := 0)
  have HV := Lib.hid (validStages_any A c rows _ h' hl hl2)
  obtain ⟨c0, c1, f0, f1⟩ := hk.facts
  have HU := Lib.hid (fun w => inRange_any up 0 6 w)
  have HD := Lib.hid (fun w => inRange_any down 1 6 w)
  cases hv : vsB rows with
  | false =>
    have HE := Lib.hid (stV_no (q := q) (show stAtB rows up down = false by unfold stAtB; rw [hv]; rfl))
    rw [hv] at HV
    clear hv
    go_enter Try.func40, Try.ntmps40
    go_wp2_with fail
    refine HV.out.mono ?_
    rintro e w1 ⟨rfl, m, rfl⟩
    go_wp2
    obtain ⟨e0, e1, _, _⟩ := (PairAt.set_ (w := (w.alloc (.cells #[.int .i64 0, .int .i64 0] 36)).drewN m) hk 0 0).facts
    have hB7 := below_set2 (B := w.heap.size) (below_drewN' hB m) (Nat.le_refl _) (.int .i64 0) (.int .i64 0)
    refine bodyPost_ret (v := nayV) (by simp [results, Try.results40, go_sem, nayV, frV, e0, e1]) rfl ⟨by rw [HE.out], hB7⟩
  | true =>
    cases hu : inR up 0 6 with
    | false =>
      have HE := Lib.hid (stV_no (q := q) (show stAtB rows up down = false by unfold stAtB; rw [hv, hu]; rfl))
      rw [hv] at HV
      rw [hu] at HU
      clear hv hu
      go_enter Try.func40, Try.ntmps40
      go_wp2_with fail
      refine HV.out.mono ?_
      rintro e w1 ⟨rfl, m, rfl⟩
      go_wp2_with fail
      refine (HU.out _).mono ?_
      rintro e w1 ⟨rfl, rfl⟩
      go_wp2
      obtain ⟨e0, e1, _, _⟩ := (PairAt.set_ (w := (w.alloc (.cells #[.int .i64 0, .int .i64 0] 36)).drewN m) hk 0 0).facts
      have hB7 := below_set2 (B := w.heap.size) (below_drewN' hB m) (Nat.le_refl _) (.int .i64 0) (.int .i64 0)
      refine bodyPost_ret (v := nayV) (by simp [results, Try.results40, go_sem, nayV, frV, e0, e1]) rfl ⟨by rw [HE.out], hB7⟩
    | true =>
      cases hd : inR down 1 6 with
      | false =>
        have HE := Lib.hid (stV_no (q := q) (show stAtB rows up down = false by unfold stAtB; rw [hv, hu, hd]; rfl))
        rw [hv] at HV
        rw [hu] at HU
        rw [hd] at HD
        clear hv hu hd
        go_enter Try.func40, Try.ntmps40
        go_wp2_with fail
        refine HV.out.mono ?_
        rintro e w1 ⟨rfl, m, rfl⟩
        go_wp2_with fail
        refine (HU.out _).mono ?_
        rintro e w1 ⟨rfl, rfl⟩
        go_wp2_with fail
        refine (HD.out _).mono ?_
        rintro e w1 ⟨rfl, rfl⟩
        go_wp2
        obtain ⟨e0, e1, _, _⟩ := (PairAt.set_ (w := (w.alloc (.cells #[.int .i64 0, .int .i64 0] 36)).drewN m) hk 0 0).facts
        have hB7 := below_set2 (B := w.heap.size) (below_drewN' hB m) (Nat.le_refl _) (.int .i64 0) (.int .i64 0)
        refine bodyPost_ret (v := nayV) (by simp [results, Try.results40, go_sem, nayV, frV, e0, e1]) rfl ⟨by rw [HE.out], hB7⟩
      | true =>
        have hdd := inR_true.1 hd
        have huu := inR_true.1 hu
        have HE := Lib.hid (stV_yes (q := q) (show stAtB rows up down = true by unfold stAtB; rw [hv, hu, hd]; rfl))
        have hn := FrIs.self (fq up down)
        have hb3 := fq_bd hn hdd.1 (by omega) huu.1 (by omega)
        have HF : Hid (∀ W', (∃ b off, A = some ⟨b, off, none⟩ ∧ RdR W' (some ⟨b, off, none⟩) c rows) → Calls Try.prog 117 #[.slice A rows.length c, frV (fq up down).num ((fq up down).den : Int)] W' fun e w' => e = .returned (frV (byQ (fun _ => fq up down) rows).num ((byQ (fun _ => fq up down) rows).den : Int)) ∧ Below W'.heap.size W' w') := Lib.hid (fun W' hx => by
          obtain ⟨b, off, rfl, hR⟩ := hx
          exact stopAt_any b off c rows (fq up down) _ _ W' hR hv hn hb3.1 hb3.2.1 hb3.2.2)
        have HFR := Lib.hid (fun w => Sfrac_any up down _ _ w hn hdd.1 (by omega) (by omega) (by omega))
        obtain ⟨b, off, hA, _⟩ := h.open_ (vs_is hv).1.1
        rw [hv] at HV
        rw [hu] at HU
        rw [hd] at HD
        have HK := Lib.hid hk
        have HBB := Lib.hid hB
        have HA := Lib.hid hA
        have HH := Lib.hid h'
        clear hv hu hd hk hB hA h h' hn hb3
        go_enter Try.func40, Try.ntmps40
        go_wp2_with fail
        refine HV.out.mono ?_
        rintro e w1 ⟨rfl, m, rfl⟩
        have HK1 := Lib.hid (HK.out.drewN m)
        have HB1 := Lib.hid (below_drewN' HBB.out m)
        have HH1 := Lib.hid (HH.out.drewN m)
        go_wp2_with fail
        refine (HU.out _).mono ?_
        rintro e w1 ⟨rfl, rfl⟩
        go_wp2_with fail
        refine (HD.out _).mono ?_
        rintro e w1 ⟨rfl, rfl⟩
        go_wp2_with fail
        refine (HFR.out _).mono ?_
        rintro e w3 ⟨rfl, hb3⟩
        have HK5 := Lib.hid (HK1.out.below hb3)
        have HBW := Lib.hid (HB1.out.trans (hb3.mono HB1.out.size))
        have hh3 := HH1.out.below hb3
        go_wp2_with fail
        refine (HF.out _ ⟨b, off, HA.out, HA.out ▸ hh3⟩).mono ?_
        rintro e w5 ⟨rfl, hb5⟩
        have hk5 := HK5.out.below hb5
        have hB5 := HBW.out.trans (hb5.mono HBW.out.size)
        obtain ⟨d0, d1, g0, g1⟩ := hk5.facts
        rw [← HQ.out]
        unfold frV
        go_wp2
        obtain ⟨e0, e1, _, _⟩ := (hk5.set_ q.num (q.den : Int)).facts
        have hB7 := below_set2 hB5 (Nat.le_refl _) (.int .i64 q.num) (.int .i64 (q.den : Int))
        refine bodyPost_ret (v := yesV q) (by simp [results, Try.results40, go_sem, yesV, frV, e0, e1]) rfl ⟨by rw [HE.out], hB7⟩

set_option maxHeartbeats 2000000 in
theorem SHalfStop_any (A : Option Addr) (c : Nat) (rows : List (List Int)) (w : World) (h : RdR w A c rows) (hl : rows.length ≤ 1099511627776) (hl2 : ∀ r ∈ rows, r.length ≤ 1099511627776) :
    Calls Try.prog 42 #[.slice A rows.length c] w fun e w' => e = .returned (stV (vsB rows) (byQ (fun _ => halfQ rows) rows)) ∧ Below w.heap.size w w' := by
  obtain ⟨q, hq⟩ : ∃ q, q = byQ (fun _ => halfQ rows) rows := ⟨_, rfl⟩
  rw [← hq]
  have HQ := Lib.hid hq
  clear hq
  have hB : Below w.heap.size w (w.alloc (.cells #[.int .i64 0, .int .i64 0] 36)) := below_al w _
  have h' := h.below hB
  have hk := PairAt.new (w := w) (x := 0) (y := 0)
  have HV := Lib.hid (validStages_any A c rows _ h' hl hl2)
  obtain ⟨c0, c1, f0, f1⟩ := hk.facts
  cases hv : vsB rows with
  | false =>
    have HE := Lib.hid (stV_no (q := q) hv)
    rw [hv] at HV HE
    clear hv
    go_enter Try.func42, Try.ntmps42
    go_wp2_with fail
    refine HV.out.mono ?_
    rintro e w1 ⟨rfl, m, rfl⟩
    go_wp2
    obtain ⟨e0, e1, _, _⟩ := (PairAt.set_ (w := (w.alloc (.cells #[.int .i64 0, .int .i64 0] 36)).drewN m) hk 0 0).facts
    have hB7 := below_set2 (B := w.heap.size) (below_drewN' hB m) (Nat.le_refl _) (.int .i64 0) (.int .i64 0)
    refine bodyPost_ret (v := nayV) (by simp [results, Try.results42, go_sem, nayV, frV, e0, e1]) rfl ⟨by rw [HE.out], hB7⟩
  | true =>
    have HE := Lib.hid (stV_yes (q := q) hv)
    have hvs := vs_VS hv
    have hl4 := (vs_is hv).1.2
    have hww := ways_36 hvs hl4
    have hss := bestS_8 hvs hl4 (m := 0) (by omega)
    have HS := Lib.hid (fun w1 h1 => bestSum_any rows A c 0 w1 h1 (vs_is hv).2 hl4 (by omega))
    have HW := Lib.hid (fun w1 h1 => ways_any A c rows w1 h1 hv)
    have hn : FrIs (fq (bestS rows 0) (2 * waysL rows)) (halfQ rows).num (halfQ rows).den := by rw [bestS_seen hvs]; exact FrIs.self _
    have hb3 := fq_bd hn (by omega) (by omega) hss.1 (by omega)
    have HFR := Lib.hid (fun w => Sfrac_any (bestS rows 0) (2 * waysL rows) _ _ w hn (by omega) (by omega) (by omega) (by omega))
    have HF : Hid (∀ W', (∃ b off, A = some ⟨b, off, none⟩ ∧ RdR W' (some ⟨b, off, none⟩) c rows) → Calls Try.prog 117 #[.slice A rows.length c, frV (halfQ rows).num ((halfQ rows).den : Int)] W' fun e w' => e = .returned (frV (byQ (fun _ => halfQ rows) rows).num ((byQ (fun _ => halfQ rows) rows).den : Int)) ∧ Below W'.heap.size W' w') := Lib.hid (fun W' hx => by
      obtain ⟨b, off, rfl, hR⟩ := hx
      exact stopAt_any b off c rows (halfQ rows) _ _ W' hR hv (FrIs.self _) hb3.1 hb3.2.1 hb3.2.2)
    obtain ⟨b, off, hA, _⟩ := h.open_ (vs_is hv).1.1
    rw [hv] at HV HE
    have HK := Lib.hid hk
    have HBB := Lib.hid hB
    have HA := Lib.hid hA
    have HH := Lib.hid h'
    have hw1 := hww.1
    have hw2 := hww.2
    have hs1 := hss.1
    have hs2 := hss.2
    clear hv hvs hk hB hA h h' hn hb3 hww hss
    generalize bestS rows 0 = S at *
    generalize waysL rows = T at *
    go_enter Try.func42, Try.ntmps42
    go_wp2_with fail
    refine HV.out.mono ?_
    rintro e w1 ⟨rfl, m, rfl⟩
    have HH1 := Lib.hid (HH.out.drewN m)
    go_wp2_with fail
    refine (HS.out _ HH1.out).mono ?_
    rintro e w2 ⟨rfl, m2, rfl⟩
    go_wp2_with fail
    refine (HW.out _ (HH.out.drewN (m + m2))).mono ?_
    rintro e w3 ⟨rfl, m3, rfl⟩
    go_wp2_with fail
    refine (HFR.out _).mono ?_
    rintro e w4 ⟨rfl, hb4⟩
    have hB4 := below_drewN' HBB.out (m + m2 + m3)
    have hB5 := hB4.trans (hb4.mono hB4.size)
    have HK5 := Lib.hid (((HK.out.drewN (m + m2 + m3)).below hb4).old (.cells #[.int .i64 (halfQ rows).num, .int .i64 ((halfQ rows).den : Int)] 36))
    have HBW := Lib.hid (hB5.trans ((below_al w4 (.cells #[.int .i64 (halfQ rows).num, .int .i64 ((halfQ rows).den : Int)] 36)).mono hB5.size))
    have hh4 := ((HH.out.drewN (m + m2 + m3)).below hb4).below (below_al w4 (.cells #[.int .i64 (halfQ rows).num, .int .i64 ((halfQ rows).den : Int)] 36))
    obtain ⟨t0, t1, _, _⟩ := (PairAt.new (w := w4) (x := (halfQ rows).num) (y := ((halfQ rows).den : Int))).facts
    clear hB4 hB5 hb4
    unfold frV
    go_wp2_with fail
    refine (HF.out _ ⟨b, off, HA.out, HA.out ▸ hh4⟩).mono ?_
    rintro e w5 ⟨rfl, hb5⟩
    have hk5 := HK5.out.below hb5
    have hB5 := HBW.out.trans (hb5.mono HBW.out.size)
    obtain ⟨d0, d1, g0, g1⟩ := hk5.facts
    rw [← HQ.out]
    unfold frV
    go_wp2
    obtain ⟨e0, e1, _, _⟩ := (hk5.set_ q.num (q.den : Int)).facts
    have hB7 := below_set2 hB5 (Nat.le_refl _) (.int .i64 q.num) (.int .i64 (q.den : Int))
    refine bodyPost_ret (v := yesV q) (by simp [results, Try.results42, go_sem, yesV, frV, e0, e1]) rfl ⟨by rw [HE.out], hB7⟩

theorem BestStop_both (rows : List (List Int)) : ∃ x y v, rows.length ≤ 1099511627776 → (∀ r ∈ rows, r.length ≤ 1099511627776) →
    (∀ A c w, RdR w A c rows → Calls Try.prog 36 #[.slice A rows.length c] w fun e w' => e = .returned (.tuple #[frV x y, .bool v]) ∧ Below w.heap.size w w') ∧
    (∀ A c w, RdR w A c rows → Calls Try.prog 32 #[.slice A rows.length c] w fun e w' => e = .returned (.tuple #[frV x y, .bool v]) ∧ Below w.heap.size w w') := by
  obtain ⟨x, y, v, h⟩ := stV_parts (vsB rows) (byQ id rows)
  exact ⟨x, y, v, fun h1 h2 => ⟨fun A c w hR => by have := SBestStop_any A c rows w hR h1 h2; rwa [h] at this, fun A c w hR => by have := BestStop_any A c rows w hR h1 h2; rwa [h] at this⟩⟩
theorem StopAt_both (rows : List (List Int)) (up down : Int) : ∃ x y v, rows.length ≤ 1099511627776 → (∀ r ∈ rows, r.length ≤ 1099511627776) →
    (∀ A c w, RdR w A c rows → Calls Try.prog 40 #[.slice A rows.length c, .int .i64 up, .int .i64 down] w fun e w' => e = .returned (.tuple #[frV x y, .bool v]) ∧ Below w.heap.size w w') ∧
    (∀ A c w, RdR w A c rows → Calls Try.prog 37 #[.slice A rows.length c, .int .i64 up, .int .i64 down] w fun e w' => e = .returned (.tuple #[frV x y, .bool v]) ∧ Below w.heap.size w w') := by
  obtain ⟨x, y, v, h⟩ := stV_parts (stAtB rows up down) (byQ (fun _ => fq up down) rows)
  exact ⟨x, y, v, fun h1 h2 => ⟨fun A c w hR => by have := SStopAt_any A c rows up down w hR h1 h2; rwa [h] at this, fun A c w hR => by have := StopAt_any A c rows up down w hR h1 h2; rwa [h] at this⟩⟩
theorem HalfStop_both (rows : List (List Int)) : ∃ x y v, rows.length ≤ 1099511627776 → (∀ r ∈ rows, r.length ≤ 1099511627776) →
    (∀ A c w, RdR w A c rows → Calls Try.prog 42 #[.slice A rows.length c] w fun e w' => e = .returned (.tuple #[frV x y, .bool v]) ∧ Below w.heap.size w w') ∧
    (∀ A c w, RdR w A c rows → Calls Try.prog 38 #[.slice A rows.length c] w fun e w' => e = .returned (.tuple #[frV x y, .bool v]) ∧ Below w.heap.size w w') := by
  obtain ⟨x, y, v, h⟩ := stV_parts (vsB rows) (byQ (fun _ => halfQ rows) rows)
  exact ⟨x, y, v, fun h1 h2 => ⟨fun A c w hR => by have := SHalfStop_any A c rows w hR h1 h2; rwa [h] at this, fun A c w hR => by have := HalfStop_any A c rows w hR h1 h2; rwa [h] at this⟩⟩
end Go.Proofs.Ytnojlapjkdihmaa

/-
  The walk of the law of HalfStop.
-/
namespace Go.Proofs.Ytnojlapjkdihmaa
open Go.RowKit

theorem seen_is {rows : List (List Int)} (hv : VS rows) : seenQ rows 0 = fq (seenN rows) (waysL rows) := by rw [seen_fq rows 0 hv, bestS_seen hv]
theorem fr_cross {p q : Rat} {a b c d : Int} (hp : FrIs p a b) (hq : FrIs q c d) : (a : Rat) = p * (b : Rat) ∧ (c : Rat) = q * (d : Rat) ∧ (0 : Rat) < (b : Rat) ∧ (0 : Rat) < (d : Rat) :=
  ⟨by rw [hp.1, hp.2]; exact rat_num p, by rw [hq.1, hq.2]; exact rat_num q, Rat.intCast_pos.2 (by have := hp.pos; omega), Rat.intCast_pos.2 (by have := hq.pos; omega)⟩
theorem fr_two {p q : Rat} {a b c d : Int} (hp : FrIs p a b) (hq : FrIs q c d) (h : p ≤ 2 * q) : a * d ≤ 2 * c * b := by
  obtain ⟨e1, e2, hb, hd⟩ := fr_cross hp hq
  have k := Rat.mul_le_mul_of_nonneg_right h (Rat.le_of_lt (Rat.mul_pos hb hd))
  rw [← Rat.intCast_le_intCast, Rat.intCast_mul, Rat.intCast_mul, Rat.intCast_mul, e1, e2]
  have l : p * ((b : Rat) * (d : Rat)) = p * (b : Rat) * (d : Rat) := by grind
  have r : 2 * q * ((b : Rat) * (d : Rat)) = ((2 : Int) : Rat) * (q * (d : Rat)) * (b : Rat) := by
    have : ((2 : Int) : Rat) = 2 := rfl
    rw [this]; grind
  rw [l, r] at k
  exact k
theorem fr_leS {p q : Rat} {a b c d : Int} (hp : FrIs p a b) (hq : FrIs q c d) (h : p ≤ q) : a * d ≤ c * b := by
  obtain ⟨rfl, rfl⟩ := hp
  obtain ⟨rfl, rfl⟩ := hq
  exact (Rat.le_iff _ _).1 h
theorem mul_bdS {a b A B : Int} (h1 : -A ≤ a) (h2 : a ≤ A) (h3 : 0 ≤ b) (h4 : b ≤ B) (hA : 0 ≤ A) : -(A * B) ≤ a * b ∧ a * b ≤ A * B := by
  have k1 := Int.mul_le_mul_of_nonneg_right h2 h3
  have k2 := Int.mul_le_mul_of_nonneg_right h1 h3
  have k3 := Int.mul_le_mul_of_nonneg_left h4 hA
  rw [Int.neg_mul] at k2
  omega
/-- What is had at stages is small. -/
theorem by_bd (e : Rat → Rat) {rows : List (List Int)} {n d : Int} (hv : VS rows) (hl : rows.length ≤ 4) (hq : FrIs (byQ e rows) n d) : -8398080 ≤ n ∧ n ≤ 8398080 ∧ 1 ≤ d ∧ d ≤ 1679616 := by
  have h1 := ways_36 hv hl
  have h2 := (by_had e rows hv).sc.bd h1.1 hq
  omega
theorem seen_bdS {rows : List (List Int)} {n d : Int} (hv : VS rows) (hl : rows.length ≤ 4) (hq : FrIs (fq (seenN rows) (waysL rows)) n d) : -8398080 ≤ n ∧ n ≤ 8398080 ∧ 1 ≤ d ∧ d ≤ 1679616 := by
  have h1 := ways_36 hv hl
  have h2 := seenTo_bd hv hl 5 (by omega)
  have h2 : 0 ≤ seenN rows ∧ seenN rows ≤ 8398080 := h2
  have h3 := fq_le h1.1 hq
  omega
/-- Half of the best is sure. -/
theorem half_law {rows : List (List Int)} (hv : VS rows) (hl : rows.length ≤ 4) : fq (seenN rows) (waysL rows) ≤ 2 * byQ (fun _ => halfQ rows) rows := by
  have hw := ways_36 hv hl
  rw [← seen_is hv]
  refine half_sure hv ?_
  rw [seen_is hv]
  have h1 : (waysL rows : Rat) ≠ 0 := by have : (0 : Rat) < (waysL rows : Rat) := Rat.intCast_pos.2 (by omega); grind
  have h3 : (((2 * waysL rows : Int)) : Rat) ≠ 0 := by have : (0 : Rat) < ((2 * waysL rows : Int) : Rat) := Rat.intCast_pos.2 (by omega); grind
  have e1 := Rat.div_mul_cancel (a := (seenN rows : Rat)) h1
  have e3 := Rat.div_mul_cancel (a := (seenN rows : Rat)) h3
  unfold halfQ fq
  rw [Rat.intCast_mul] at e3 h3 ⊢
  have e2 : ((2 : Int) : Rat) = 2 := rfl
  rw [e2] at e3 h3 ⊢
  symm
  refine div_eq h1 ?_
  grind

set_option maxRecDepth 100000 in
set_option maxHeartbeats 4000000 in
theorem fnHalfStop_walk {A : Option Addr} {c : Nat} {xs : List Int} {w : World} (h : Came .u8 w A c xs) :
    Calls Try.prog 9 #[.slice A xs.length c] w fun e w' => e = .returned (.bool true) ∧ Below w.heap.size w w' := by
  by_cases hlen : 1048576 < xs.length
  · go_enter Try.func9, Try.ntmps9
    go_wp2
    go_ret
    exact ⟨rfl, Below.refl _ _⟩
  have hl0 : xs.length ≤ 1048576 := by omega
  have HDR := Lib.hid (DrawHalfStop_any A c xs w h)
  clear hlen h
  go_enter Try.func9, Try.ntmps9
  go_wp2_with fail
  refine HDR.out.mono ?_
  rintro e w1 ⟨A1, c1, rows, rfl, hR, hl4, hl6, B1⟩
  have hl5 : rows.length ≤ 1099511627776 := by omega
  have hl7 : ∀ r ∈ rows, r.length ≤ 1099511627776 := fun r hr => by have := hl6 r hr; omega
  clear HDR
  cases hv : vsB rows with
  | false =>
    have HI : Hid (∀ w1, RdR w1 A1 c1 rows → Calls Try.prog 38 #[.slice A1 rows.length c1] w1 fun e w' => e = .returned (.tuple #[frV 0 0, .bool false]) ∧ Below w1.heap.size w1 w') := Lib.hid (fun w1 h => by have := HalfStop_any A1 c1 rows w1 h hl5 hl7; rw [stV_no hv] at this; exact this)
    have HS : Hid (∀ w1, RdR w1 A1 c1 rows → Calls Try.prog 42 #[.slice A1 rows.length c1] w1 fun e w' => e = .returned (.tuple #[frV 0 0, .bool false]) ∧ Below w1.heap.size w1 w') := Lib.hid (fun w1 h => by have := SHalfStop_any A1 c1 rows w1 h hl5 hl7; rw [stV_no hv] at this; exact this)
    clear hv hl6 hl7
    go_wp2_with fail
    refine (HI.out _ hR).mono ?_
    rintro e w2 ⟨rfl, b2⟩
    unfold frV
    have hk2 := PairAt.new (w := w2) (x := 0) (y := 0)
    have hr2 := (hR.below b2).below (below_al w2 (.cells #[.int .i64 0, .int .i64 0] 36))
    have B2 := below_up (B1.trans (b2.mono B1.size)) (below_al w2 (.cells #[.int .i64 0, .int .i64 0] 36))
    go_wp2_with fail
    refine (HS.out _ hr2).mono ?_
    rintro e w3 ⟨rfl, b3⟩
    have hk3 := (hk2.below b3).old (.cells #[.int .i64 0, .int .i64 0] 36)
    have hd3 := PairAt.new (w := w3) (x := 0) (y := 0)
    have B3 := below_up (below_up B2 b3) (below_al w3 (.cells #[.int .i64 0, .int .i64 0] 36))
    obtain ⟨c0, c1', f0, f1⟩ := hk3.facts
    obtain ⟨c2, c3, f2, f3⟩ := hd3.facts
    unfold frV
    go_wp2
    go_ret
    exact ⟨rfl, B3⟩
  | true =>
    obtain ⟨q, hq⟩ : ∃ q, q = byQ (fun _ => halfQ rows) rows := ⟨_, rfl⟩
    have HI : Hid (∀ w1, RdR w1 A1 c1 rows → Calls Try.prog 38 #[.slice A1 rows.length c1] w1 fun e w' => e = .returned (.tuple #[frV q.num (q.den : Int), .bool true]) ∧ Below w1.heap.size w1 w') := Lib.hid (fun w1 h => by have := HalfStop_any A1 c1 rows w1 h hl5 hl7; rw [stV_yes hv, ← hq] at this; exact this)
    have HS : Hid (∀ w1, RdR w1 A1 c1 rows → Calls Try.prog 42 #[.slice A1 rows.length c1] w1 fun e w' => e = .returned (.tuple #[frV q.num (q.den : Int), .bool true]) ∧ Below w1.heap.size w1 w') := Lib.hid (fun w1 h => by have := SHalfStop_any A1 c1 rows w1 h hl5 hl7; rw [stV_yes hv, ← hq] at this; exact this)
    have HQF := Lib.hid (FrIs.self q)
    have HVS := Lib.hid (vs_VS hv)
    have HQ := Lib.hid hq
    have h14 := (vs_is hv).1
    obtain ⟨s, hs⟩ : ∃ s, s = fq (seenN rows) (waysL rows) := ⟨_, rfl⟩
    have HBS : Hid (∀ w1, RdR w1 A1 c1 rows → Calls Try.prog 30 #[.slice A1 rows.length c1] w1 fun e w' => e = .returned (.tuple #[frV s.num (s.den : Int), .bool true]) ∧ Below w1.heap.size w1 w') := Lib.hid (fun w1 h => by have := BestSeen_any A1 c1 rows w1 h hl5 hl7; rw [stV_yes hv, ← hs] at this; exact this)
    have sb := seen_bdS HVS.out h14.2 (hs ▸ FrIs.self _ : FrIs (fq (seenN rows) (waysL rows)) s.num s.den)
    have qb := by_bd (fun _ => halfQ rows) HVS.out h14.2 (hq ▸ FrIs.self _ : FrIs (byQ (fun _ => halfQ rows) rows) q.num q.den)
    have hle := fr_two (FrIs.self s) (FrIs.self q) (by rw [hs, hq]; exact half_law HVS.out h14.2)
    have p1 := mul_bdS (a := 2 * q.num) (b := (s.den : Int)) (A := 16796160) (B := 1679616) (by omega) (by omega) (by omega) (by omega) (by omega)
    have p2 := mul_bdS (a := s.num) (b := (q.den : Int)) (A := 8398080) (B := 1679616) (by omega) (by omega) (by omega) (by omega) (by omega)
    have HLL := Lib.hid (fun w => lessOf_any (2 * q.num) (q.den : Int) s.num (s.den : Int) false w (by unfold lessF; exact decide_eq_false (by omega)) (by omega) (by omega) (by omega) (by omega))
    generalize s.num = sn at HBS HLL
    generalize (s.den : Int) = sd at HBS HLL
    have qb1 := qb.1
    have qb2 := qb.2.1
    clear sb qb hle p1 p2 hs
    generalize q.num = qn at HI HS HQF HLL qb1 qb2
    generalize (q.den : Int) = qd at HI HS HQF HLL
    clear hq
    go_wp2_with fail
    refine (HI.out _ hR).mono ?_
    rintro e w2 ⟨rfl, b2⟩
    unfold frV
    have hk2 := PairAt.new (w := w2) (x := qn) (y := qd)
    have hr2 := (hR.below b2).below (below_al w2 (.cells #[.int .i64 qn, .int .i64 qd] 36))
    have B2 := below_up (B1.trans (b2.mono B1.size)) (below_al w2 (.cells #[.int .i64 qn, .int .i64 qd] 36))
    go_wp2_with fail
    refine (HS.out _ hr2).mono ?_
    rintro e w3 ⟨rfl, b3⟩
    have hk3 := (hk2.below b3).old (.cells #[.int .i64 qn, .int .i64 qd] 36)
    have hd3 := PairAt.new (w := w3) (x := qn) (y := qd)
    have hr3 := (hr2.below b3).below (below_al w3 (.cells #[.int .i64 qn, .int .i64 qd] 36))
    have B3 := below_up (below_up B2 b3) (below_al w3 (.cells #[.int .i64 qn, .int .i64 qd] 36))
    obtain ⟨c0, c1', f0, f1⟩ := hk3.facts
    obtain ⟨c2, c3, f2, f3⟩ := hd3.facts
    clear hk2 hr2 B2 b2 b3 hR B1 hd3
    unfold frV
    go_wp2_with fail
    refine (HBS.out _ hr3).mono ?_
    rintro e w4 ⟨rfl, b4⟩
    have hk4 := (hk3.below b4).old (.cells #[.int .i64 sn, .int .i64 sd] 36)
    have hs4 := PairAt.new (w := w4) (x := sn) (y := sd)
    have B4 := below_up (below_up B3 b4) (below_al w4 (.cells #[.int .i64 sn, .int .i64 sd] 36))
    obtain ⟨d0, d1, _, _⟩ := hk4.facts
    obtain ⟨s0, s1, _, _⟩ := hs4.facts
    clear hk3 c0 c1' f0 f1 c2 c3 f2 f3 b4 B3 hr3
    unfold frV
    go_wp2_with fail
    refine (HLL.out _).mono ?_
    rintro e w5 ⟨rfl, b5⟩
    have B5 := B4.trans (b5.mono B4.size)
    go_wp2
    go_ret
    exact ⟨rfl, B5⟩
end Go.Proofs.Ytnojlapjkdihmaa
