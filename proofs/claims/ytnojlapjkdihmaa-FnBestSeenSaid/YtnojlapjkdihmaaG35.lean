/-
  Chapter 11, the program: BestStop, StopAt, HalfStop.
-/
import Derived.Test.YtnojlapjkdihmaaG30
import Derived.Test.YtnojlapjkdihmaaHh
import Derived.Test.YtnojlapjkdihmaaG31
namespace Go.Proofs.Ytnojlapjkdihmaa
open Go.RowKit

theorem restB_any (n d : Int) (w : World) :
    Calls Try.prog 110 #[frV n d] w fun e w' => e = .returned (frV n d) ∧ Below w.heap.size w w' := by
  have hB : Below w.heap.size w ((w.alloc (.cells #[.int .i64 n, .int .i64 d] 36)).alloc (.cells #[.int .i64 n, .int .i64 d] 36)) := ((Below.refl _ w).alloc (Nat.le_refl _) _).alloc (by simp) _
  have hk := PairAt.new (w := w.alloc (.cells #[.int .i64 n, .int .i64 d] 36)) (x := n) (y := d)
  rw [World.size_alloc] at hk
  obtain ⟨c0, c1, _, _⟩ := hk.facts
  unfold frV
  go_enter Try.func110, Try.ntmps110
  go_wp2
  refine bodyPost_ret (v := frV n d) (by simp [results, Try.results110, go_sem, frV, c0, c1]) rfl ⟨rfl, hB⟩

theorem edgeE_any (p : Nat) (n d en ed : Int) (w : World) (hp : PairAt w p en ed) :
    Calls Try.prog 173 #[frV n d, .pointer (some ⟨p, 0, none⟩)] w fun e w' => e = .returned (frV en ed) ∧ Below w.heap.size w w' := by
  have hB : Below w.heap.size w ((w.alloc (.cells #[.int .i64 n, .int .i64 d] 36)).alloc (.cells #[.int .i64 en, .int .i64 ed] 36)) := ((Below.refl _ w).alloc (Nat.le_refl _) _).alloc (by simp) _
  have hk := PairAt.new (w := w.alloc (.cells #[.int .i64 n, .int .i64 d] 36)) (x := en) (y := ed)
  rw [World.size_alloc] at hk
  obtain ⟨d0, d1, _, _⟩ := hk.facts
  obtain ⟨c0, c1, _, _⟩ := ((hp.old (.cells #[.int .i64 n, .int .i64 d] 36)).old (.cells #[.int .i64 0, .int .i64 0] 36)).facts
  unfold frV
  go_enter Try.func173, Try.ntmps173
  go_wp2
  refine bodyPost_ret (v := frV en ed) (by simp [results, Try.results173, go_sem, frV, d0, d1]) rfl ⟨rfl, hB⟩

set_option maxHeartbeats 1000000 in
theorem meanFromEdge_any (b off c : Nat) (rows : List (List Int)) (e : Rat) (en ed : Int) (w : World) (h : RdR w (some ⟨b, off, none⟩) c rows) (hv : vsB rows = true) (he : FrIs e en ed) (e1 : -4611686018427387 ≤ en) (e2 : en ≤ 4611686018427387) (e3 : ed ≤ 4611686018427387) :
    Calls Try.prog 114 #[.slice (some ⟨b, off, none⟩) rows.length c, frV en ed] w fun e' w' => e' = .returned (frV (byQ (fun _ => e) rows).num ((byQ (fun _ => e) rows).den : Int)) ∧ Below w.heap.size w w' := by
  have hmf : ∀ (fn : Fn) (first cap : Array Value) (w : World), (Instr.makeFunc fn first cap).run Try.prog w = .ok (.func fn first cap) w := fun _ _ _ _ => rfl
  have hB : Below w.heap.size w ((w.alloc (.cells #[.int .i64 en, .int .i64 ed] 36)).alloc (.cells #[.int .i64 0, .int .i64 0] 36)) := ((Below.refl _ w).alloc (Nat.le_refl _) _).alloc (by simp) _
  have hkE := (PairAt.new (w := w) (x := en) (y := ed)).old (.cells #[.int .i64 0, .int .i64 0] 36)
  have hkO := PairAt.new (w := w.alloc (.cells #[.int .i64 en, .int .i64 ed] 36)) (x := 0) (y := 0)
  rw [World.size_alloc] at hkO
  have HM := Lib.hid (meanByE_any b off c w.heap.size rows (fun _ => e) _ (h.below hB) hv (Lib.hid (fun q D n d _ _ _ _ => ⟨en, ed, he, e1, e2, e3, fun W' hW => edgeE_any w.heap.size n d en ed W' (hkE.below hW)⟩)))
  generalize (byQ (fun _ => e) rows).num = x at *
  generalize ((byQ (fun _ => e) rows).den : Int) = y at *
  clear hkE he
  unfold frV
  go_enter Try.func114, Try.ntmps114
  go_wp2_with fail
  refine HM.out.mono ?_
  rintro e' w5 ⟨rfl, hb5⟩
  have hk5 := hkO.below hb5
  have hB5 := hB.trans (hb5.mono hB.size)
  obtain ⟨d0, d1, g0, g1⟩ := hk5.facts
  unfold frV
  go_wp2
  obtain ⟨e0, e1, _, _⟩ := (hk5.set_ x y).facts
  have hB7 := below_set2 (B := w.heap.size + 1) hB5 (by omega) (.int .i64 x) (.int .i64 y)
  refine bodyPost_ret (v := frV x y) (by simp [results, Try.results114, go_sem, frV, e0, e1]) rfl ⟨rfl, hB7⟩

theorem had_bd {D : Int} {q : Rat} {n d : Int} (h : Had D q) (h1 : 1 ≤ D) (h2 : D ≤ 46656) (hq : FrIs q n d) : -4611686018427387 ≤ n ∧ n ≤ 4611686018427387 ∧ d ≤ 4611686018427387 := by
  have := h.sc.bd h1 hq
  omega

set_option maxHeartbeats 1000000 in
theorem BestStop_any (A : Option Addr) (c : Nat) (rows : List (List Int)) (w : World) (h : RdR w A c rows) (hl : rows.length ≤ 1099511627776) (hl2 : ∀ r ∈ rows, r.length ≤ 1099511627776) :
    Calls Try.prog 32 #[.slice A rows.length c] w fun e w' => e = .returned (stV (vsB rows) (byQ id rows)) ∧ Below w.heap.size w w' := by
  obtain ⟨q, hq⟩ : ∃ q, q = byQ id rows := ⟨_, rfl⟩
  rw [← hq]
  have HQ := Lib.hid hq
  clear hq
  have hB : Below w.heap.size w (w.alloc (.cells #[.int .i64 0, .int .i64 0] 36)) := below_al w _
  have h' := h.below hB
  have hk := PairAt.new (w := w) (x := 0) (y := 0)
  obtain ⟨W, hW⟩ : ∃ W, W = w.alloc (.cells #[.int .i64 0, .int .i64 0] 36) := ⟨_, rfl⟩
  have hmf : ∀ (fn : Fn) (first cap : Array Value) (w : World), (Instr.makeFunc fn first cap).run Try.prog w = .ok (.func fn first cap) w := fun _ _ _ _ => rfl
  have HV := Lib.hid (ValidStages_any A c rows _ h' hl hl2)
  obtain ⟨c0, c1, f0, f1⟩ := hk.facts
  cases hv : vsB rows with
  | false =>
    have HE := Lib.hid (stV_no (q := q) hv)
    rw [hv] at HV HE
    clear hv hW
    go_enter Try.func32, Try.ntmps32
    go_wp2_with fail
    refine HV.out.mono ?_
    rintro e w1 ⟨rfl, m, rfl⟩
    go_wp2
    obtain ⟨e0, e1, _, _⟩ := (PairAt.set_ (w := (w.alloc (.cells #[.int .i64 0, .int .i64 0] 36)).drewN m) hk 0 0).facts
    have hB7 := below_set2 (B := w.heap.size) (below_drewN' hB m) (Nat.le_refl _) (.int .i64 0) (.int .i64 0)
    refine bodyPost_ret (v := nayV) (by simp [results, Try.results32, go_sem, nayV, frV, e0, e1]) rfl ⟨by rw [HE.out], hB7⟩
  | true =>
    have HE := Lib.hid (stV_yes (q := q) hv)
    have HF : Hid (∀ W', (∃ b off, A = some ⟨b, off, none⟩ ∧ RdR W' (some ⟨b, off, none⟩) c rows) → Calls Try.prog 109 #[.slice A rows.length c, .func (.func 110) #[] #[]] W' fun e w' => e = .returned (frV (byQ id rows).num ((byQ id rows).den : Int)) ∧ Below W'.heap.size W' w') := Lib.hid (fun W' hx => by
      obtain ⟨b, off, rfl, hR⟩ := hx
      exact meanByB_any b off c rows id W' hR hv (Lib.hid (fun q D n d hh h1 h2 hq => ⟨n, d, hq, (had_bd hh h1 h2 hq).1, (had_bd hh h1 h2 hq).2.1, (had_bd hh h1 h2 hq).2.2, fun W2 _ => restB_any n d W2⟩)))
    obtain ⟨b, off, hA, _⟩ := h.open_ (vs_is hv).1.1
    rw [hv] at HV HE
    have HK := Lib.hid hk
    have HBB := Lib.hid hB
    have HA := Lib.hid hA
    have HH := Lib.hid h'
    clear hv hW hk hB hA h h'
    go_enter Try.func32, Try.ntmps32
    go_wp2_with fail
    refine HV.out.mono ?_
    rintro e w1 ⟨rfl, m, rfl⟩
    have HK5 := Lib.hid (HK.out.drewN m)
    have HBW := Lib.hid (below_drewN' HBB.out m)
    go_wp2_with fail
    refine (HF.out _ ⟨b, off, HA.out, HA.out ▸ HH.out.drewN m⟩).mono ?_
    rintro e w5 ⟨rfl, hb5⟩
    have hk5 := HK5.out.below hb5
    have hB5 := HBW.out.trans (hb5.mono HBW.out.size)
    obtain ⟨d0, d1, g0, g1⟩ := hk5.facts
    rw [← HQ.out]
    unfold frV
    go_wp2
    obtain ⟨e0, e1, _, _⟩ := (hk5.set_ q.num (q.den : Int)).facts
    have hB7 := below_set2 hB5 (Nat.le_refl _) (.int .i64 q.num) (.int .i64 (q.den : Int))
    refine bodyPost_ret (v := yesV q) (by simp [results, Try.results32, go_sem, yesV, frV, e0, e1]) rfl ⟨by rw [HE.out], hB7⟩

end Go.Proofs.Ytnojlapjkdihmaa

/-
  Chapter 11, the program: StopAt and HalfStop.
-/
namespace Go.Proofs.Ytnojlapjkdihmaa
open Go.RowKit

/-- What StopAt is asked. -/
def stAtB (rows : List (List Int)) (up down : Int) : Bool := vsB rows && inR up 0 6 && inR down 1 6
theorem fq_bd {up down n d : Int} (h : FrIs (fq up down) n d) (h1 : 1 ≤ down) (h2 : down ≤ 4611686018427) (h3 : 0 ≤ up) (h4 : up ≤ 4611686018427) : -4611686018427387 ≤ n ∧ n ≤ 4611686018427387 ∧ d ≤ 4611686018427387 := by
  have := fq_le h1 h
  omega

set_option maxHeartbeats 2000000 in
theorem StopAt_any (A : Option Addr) (c : Nat) (rows : List (List Int)) (up down : Int) (w : World) (h : RdR w A c rows) (hl : rows.length ≤ 1099511627776) (hl2 : ∀ r ∈ rows, r.length ≤ 1099511627776) :
    Calls Try.prog 37 #[.slice A rows.length c, .int .i64 up, .int .i64 down] w fun e w' => e = .returned (stV (stAtB rows up down) (byQ (fun _ => fq up down) rows)) ∧ Below w.heap.size w w' := by
  obtain ⟨q, hq⟩ : ∃ q, q = byQ (fun _ => fq up down) rows := ⟨_, rfl⟩
  rw [← hq]
  have HQ := Lib.hid hq
  clear hq
  have hB : Below w.heap.size w (w.alloc (.cells #[.int .i64 0, .int .i64 0] 36)) := below_al w _
  have h' := h.below hB
  have hk := PairAt.new (w := w) (x := 0) (y := 0)
  obtain ⟨W, hW⟩ : ∃ W, W = w.alloc (.cells #[.int .i64 0, .int .i64 0] 36) := ⟨_, rfl⟩
  have HV := Lib.hid (ValidStages_any A c rows _ h' hl hl2)
  have HU := Lib.hid (fun w => isEdge_any up w)
  have HD := Lib.hid (fun w => isEdge_any down w)
  obtain ⟨c0, c1, f0, f1⟩ := hk.facts
  cases hv : vsB rows with
  | false =>
    have HE := Lib.hid (stV_no (q := q) (show stAtB rows up down = false by unfold stAtB; rw [hv]; rfl))
    rw [hv] at HV
    clear hv hW
    go_enter Try.func37, Try.ntmps37
    go_wp2_with fail
    refine HV.out.mono ?_
    rintro e w1 ⟨rfl, m, rfl⟩
    go_wp2
    obtain ⟨e0, e1, _, _⟩ := (PairAt.set_ (w := (w.alloc (.cells #[.int .i64 0, .int .i64 0] 36)).drewN m) hk 0 0).facts
    have hB7 := below_set2 (B := w.heap.size) (below_drewN' hB m) (Nat.le_refl _) (.int .i64 0) (.int .i64 0)
    refine bodyPost_ret (v := nayV) (by simp [results, Try.results37, go_sem, nayV, frV, e0, e1]) rfl ⟨by rw [HE.out], hB7⟩
  | true =>
    cases hu : inR up 0 6 with
    | false =>
      have HE := Lib.hid (stV_no (q := q) (show stAtB rows up down = false by unfold stAtB; rw [hv, hu]; rfl))
      rw [hv] at HV
      rw [hu] at HU
      clear hv hu hW
      go_enter Try.func37, Try.ntmps37
      go_wp2_with fail
      refine HV.out.mono ?_
      rintro e w1 ⟨rfl, m, rfl⟩
      go_wp2_with fail
      refine (HU.out _).mono ?_
      rintro e w1 ⟨rfl, rfl⟩
      go_wp2
      obtain ⟨e0, e1, _, _⟩ := (PairAt.set_ (w := (w.alloc (.cells #[.int .i64 0, .int .i64 0] 36)).drewN m) hk 0 0).facts
      have hB7 := below_set2 (B := w.heap.size) (below_drewN' hB m) (Nat.le_refl _) (.int .i64 0) (.int .i64 0)
      refine bodyPost_ret (v := nayV) (by simp [results, Try.results37, go_sem, nayV, frV, e0, e1]) rfl ⟨by rw [HE.out], hB7⟩
    | true =>
      cases hd : inR down 0 6 with
      | false =>
        have hd1 : inR down 1 6 = false := inR_false.2 (fun hx => by have := inR_false.1 hd; omega)
        have HE := Lib.hid (stV_no (q := q) (show stAtB rows up down = false by unfold stAtB; rw [hv, hu, hd1]; rfl))
        rw [hv] at HV
        rw [hu] at HU
        rw [hd] at HD
        clear hv hu hd hd1 hW
        go_enter Try.func37, Try.ntmps37
        go_wp2_with fail
        refine HV.out.mono ?_
        rintro e w1 ⟨rfl, m, rfl⟩
        go_wp2_with fail
        refine (HU.out _).mono ?_
        rintro e w1 ⟨rfl, rfl⟩
        go_wp2_with fail
        refine (HD.out _).mono ?_
        rintro e w1 ⟨rfl, rfl⟩
        go_wp2
        obtain ⟨e0, e1, _, _⟩ := (PairAt.set_ (w := (w.alloc (.cells #[.int .i64 0, .int .i64 0] 36)).drewN m) hk 0 0).facts
        have hB7 := below_set2 (B := w.heap.size) (below_drewN' hB m) (Nat.le_refl _) (.int .i64 0) (.int .i64 0)
        refine bodyPost_ret (v := nayV) (by simp [results, Try.results37, go_sem, nayV, frV, e0, e1]) rfl ⟨by rw [HE.out], hB7⟩
      | true =>
        have hdd := inR_true.1 hd
        have huu := inR_true.1 hu
        by_cases hlt : down < 1
        · have hd1 : inR down 1 6 = false := inR_false.2 (fun hx => by omega)
          have HE := Lib.hid (stV_no (q := q) (show stAtB rows up down = false by unfold stAtB; rw [hv, hu, hd1]; rfl))
          rw [hv] at HV
          rw [hu] at HU
          rw [hd] at HD
          clear hv hu hd hd1 hW
          go_enter Try.func37, Try.ntmps37
          go_wp2_with fail
          refine HV.out.mono ?_
          rintro e w1 ⟨rfl, m, rfl⟩
          go_wp2_with fail
          refine (HU.out _).mono ?_
          rintro e w1 ⟨rfl, rfl⟩
          go_wp2_with fail
          refine (HD.out _).mono ?_
          rintro e w1 ⟨rfl, rfl⟩
          go_wp2
          obtain ⟨e0, e1, _, _⟩ := (PairAt.set_ (w := (w.alloc (.cells #[.int .i64 0, .int .i64 0] 36)).drewN m) hk 0 0).facts
          have hB7 := below_set2 (B := w.heap.size) (below_drewN' hB m) (Nat.le_refl _) (.int .i64 0) (.int .i64 0)
          refine bodyPost_ret (v := nayV) (by simp [results, Try.results37, go_sem, nayV, frV, e0, e1]) rfl ⟨by rw [HE.out], hB7⟩
        · have hd1 : inR down 1 6 = true := inR_true.2 ⟨by omega, hdd.2⟩
          have HE := Lib.hid (stV_yes (q := q) (show stAtB rows up down = true by unfold stAtB; rw [hv, hu, hd1]; rfl))
          have hn := FrIs.self (fq up down)
          have hb3 := fq_bd hn (by omega) (by omega) huu.1 (by omega)
          have HF : Hid (∀ W', (∃ b off, A = some ⟨b, off, none⟩ ∧ RdR W' (some ⟨b, off, none⟩) c rows) → Calls Try.prog 114 #[.slice A rows.length c, frV (fq up down).num ((fq up down).den : Int)] W' fun e w' => e = .returned (frV q.num (q.den : Int)) ∧ Below W'.heap.size W' w') := Lib.hid (fun W' hx => by
            obtain ⟨b, off, rfl, hR⟩ := hx
            rw [HQ.out]
            exact meanFromEdge_any b off c rows (fq up down) _ _ W' hR hv hn hb3.1 hb3.2.1 hb3.2.2)
          have HFR := Lib.hid (fun w => fracOf_any up down _ _ w hn (by omega) (by omega) (by omega) (by omega))
          obtain ⟨b, off, hA, _⟩ := h.open_ (vs_is hv).1.1
          rw [hv] at HV
          rw [hu] at HU
          rw [hd] at HD
          have HK := Lib.hid hk
          have HBB := Lib.hid hB
          have HA := Lib.hid hA
          have HH := Lib.hid h'
          clear hv hu hd hd1 hW hk hB hA h h' hn hb3
          go_enter Try.func37, Try.ntmps37
          go_wp2_with fail
          refine HV.out.mono ?_
          rintro e w1 ⟨rfl, m, rfl⟩
          have HK5 := Lib.hid (HK.out.drewN m)
          have HBW := Lib.hid (below_drewN' HBB.out m)
          have HH5 := Lib.hid (HH.out.drewN m)
          go_wp2_with fail
          refine (HU.out _).mono ?_
          rintro e w1 ⟨rfl, rfl⟩
          go_wp2_with fail
          refine (HD.out _).mono ?_
          rintro e w1 ⟨rfl, rfl⟩
          go_wp2_with fail
          refine (HFR.out _).mono ?_
          rintro e w3 ⟨rfl, hb3⟩
          have hk3 := HK5.out.below hb3
          have hB3 := HBW.out.trans (hb3.mono HBW.out.size)
          have hh3 := HH5.out.below hb3
          go_wp2_with fail
          refine (HF.out _ ⟨b, off, HA.out, HA.out ▸ hh3⟩).mono ?_
          rintro e w5 ⟨rfl, hb5⟩
          have hk5 := hk3.below hb5
          have hB5 := hB3.trans (hb5.mono hB3.size)
          obtain ⟨d0, d1, g0, g1⟩ := hk5.facts
          unfold frV
          go_wp2
          obtain ⟨e0, e1, _, _⟩ := (hk5.set_ q.num (q.den : Int)).facts
          have hB7 := below_set2 hB5 (Nat.le_refl _) (.int .i64 q.num) (.int .i64 (q.den : Int))
          refine bodyPost_ret (v := yesV q) (by simp [results, Try.results37, go_sem, yesV, frV, e0, e1]) rfl ⟨by rw [HE.out], hB7⟩

/-- Half of the greatest value's mean. -/
def halfQ (rows : List (List Int)) : Rat := fq (seenN rows) (2 * waysL rows)

set_option maxHeartbeats 2000000 in
theorem HalfStop_any (A : Option Addr) (c : Nat) (rows : List (List Int)) (w : World) (h : RdR w A c rows) (hl : rows.length ≤ 1099511627776) (hl2 : ∀ r ∈ rows, r.length ≤ 1099511627776) :
    Calls Try.prog 38 #[.slice A rows.length c] w fun e w' => e = .returned (stV (vsB rows) (byQ (fun _ => halfQ rows) rows)) ∧ Below w.heap.size w w' := by
  obtain ⟨q, hq⟩ : ∃ q, q = byQ (fun _ => halfQ rows) rows := ⟨_, rfl⟩
  rw [← hq]
  have HQ := Lib.hid hq
  clear hq
  have hB : Below w.heap.size w (w.alloc (.cells #[.int .i64 0, .int .i64 0] 36)) := below_al w _
  have h' := h.below hB
  have hk := PairAt.new (w := w) (x := 0) (y := 0)
  obtain ⟨W, hW⟩ : ∃ W, W = w.alloc (.cells #[.int .i64 0, .int .i64 0] 36) := ⟨_, rfl⟩
  obtain ⟨c0, c1, f0, f1⟩ := hk.facts
  cases hv : vsB rows with
  | false =>
    have HE := Lib.hid (stV_no (q := q) hv)
    have HS : Hid (∀ w1, RdR w1 A c rows → Calls Try.prog 30 #[.slice A rows.length c] w1 fun e w' => e = .returned nayV ∧ Below w1.heap.size w1 w') := Lib.hid (fun w1 h1 => by
      have := BestSeen_any A c rows w1 h1 hl hl2
      rwa [stV_no hv] at this)
    rw [hv] at HE
    clear hv hW
    go_enter Try.func38, Try.ntmps38
    go_wp2_with fail
    refine (HS.out _ h').mono ?_
    rintro e w1 ⟨rfl, b1⟩
    unfold nayV frV
    have hk1 := (hk.below b1).old (.cells #[.int .i64 0, .int .i64 0] 36)
    have hB1 := (hB.trans (b1.mono hB.size)).trans ((below_al w1 (.cells #[.int .i64 0, .int .i64 0] 36)).mono (hB.trans (b1.mono hB.size)).size)
    obtain ⟨d0, d1, g0, g1⟩ := hk1.facts
    go_wp2
    obtain ⟨e0, e1, _, _⟩ := (hk1.set_ 0 0).facts
    have hB7 := below_set2 hB1 (Nat.le_refl _) (.int .i64 0) (.int .i64 0)
    refine bodyPost_ret (v := nayV) (by simp [results, Try.results38, go_sem, nayV, frV, e0, e1]) rfl ⟨by rw [HE.out], hB7⟩
  | true =>
    have HE := Lib.hid (stV_yes (q := q) hv)
    obtain ⟨s, hs⟩ : ∃ s, s = fq (seenN rows) (waysL rows) := ⟨_, rfl⟩
    have hww := ways_36 (vs_VS hv) (vs_is hv).1.2
    have hsn := seenTo_bd (vs_VS hv) (vs_is hv).1.2 5 (by omega)
    have hsf : FrIs (fq (seenN rows) (waysL rows)) s.num s.den := hs ▸ FrIs.self _
    have hsb := fq_le hww.1 hsf
    have hsn2 : 0 ≤ seenN rows ∧ seenN rows ≤ 8398080 := hsn
    have HS : Hid (∀ w1, RdR w1 A c rows → Calls Try.prog 30 #[.slice A rows.length c] w1 fun e w' => e = .returned (.tuple #[frV s.num (s.den : Int), .bool true]) ∧ Below w1.heap.size w1 w') := Lib.hid (fun w1 h1 => by
      have := BestSeen_any A c rows w1 h1 hl hl2
      rw [stV_yes hv, ← hs] at this
      exact this)
    have hhalf : halfQ rows = s / ((2 : Int) : Rat) := by
      have h1 : (waysL rows : Rat) ≠ 0 := by have : (0 : Rat) < (waysL rows : Rat) := Rat.intCast_pos.2 (by omega); grind
      have h2 : ((2 : Int) : Rat) ≠ 0 := by decide
      have h3 : (((2 * waysL rows : Int)) : Rat) ≠ 0 := by have : (0 : Rat) < ((2 * waysL rows : Int) : Rat) := Rat.intCast_pos.2 (by omega); grind
      unfold halfQ
      show (seenN rows : Rat) / ((2 * waysL rows : Int) : Rat) = _
      refine div_eq h3 ?_
      rw [hs, Rat.intCast_mul]
      unfold fq
      have e1 := Rat.div_mul_cancel (a := (seenN rows : Rat)) h1
      have e2 := Rat.div_mul_cancel (a := (seenN rows : Rat) / (waysL rows : Rat)) h2
      grind
    have hn := FrIs.self (halfQ rows)
    have hb3 := fq_bd (show FrIs (fq (seenN rows) (2 * waysL rows)) (halfQ rows).num (halfQ rows).den from hn) (by omega) (by omega) hsn2.1 (by omega)
    have HO := Lib.hid (fun w => over_any s.num s.den 2 (halfQ rows).num ((halfQ rows).den : Int) w (fr_over (by decide) (FrIs.self s) (by rw [← hhalf]; exact hn)) (by omega) (by omega) (by omega) (by omega))
    have HF : Hid (∀ W', (∃ b off, A = some ⟨b, off, none⟩ ∧ RdR W' (some ⟨b, off, none⟩) c rows) → Calls Try.prog 114 #[.slice A rows.length c, frV (halfQ rows).num ((halfQ rows).den : Int)] W' fun e w' => e = .returned (frV q.num (q.den : Int)) ∧ Below W'.heap.size W' w') := Lib.hid (fun W' hx => by
      obtain ⟨b, off, rfl, hR⟩ := hx
      rw [HQ.out]
      exact meanFromEdge_any b off c rows (halfQ rows) _ _ W' hR hv hn hb3.1 hb3.2.1 hb3.2.2)
    obtain ⟨b, off, hA, _⟩ := h.open_ (vs_is hv).1.1
    rw [hv] at HE
    have HK := Lib.hid hk
    have HBB := Lib.hid hB
    have HA := Lib.hid hA
    have HH := Lib.hid h'
    generalize s.num = sn at *
    generalize (s.den : Int) = sd at *
    generalize (halfQ rows).num = hn1 at *
    generalize ((halfQ rows).den : Int) = hd1 at *
    clear hv hW hk hB hA h hn hb3 hs hww hsn hsf hsb hsn2 hhalf
    go_enter Try.func38, Try.ntmps38
    go_wp2_with fail
    refine (HS.out _ h').mono ?_
    rintro e w1 ⟨rfl, b1⟩
    unfold frV
    have hk1 := (HK.out.below b1).old (.cells #[.int .i64 sn, .int .i64 sd] 36)
    have hB0 := HBB.out.trans (b1.mono HBB.out.size)
    have hB1 := hB0.trans ((below_al w1 (.cells #[.int .i64 sn, .int .i64 sd] 36)).mono hB0.size)
    have hks := PairAt.new (w := w1) (x := sn) (y := sd)
    have hh1 := ((HH.out.below b1).below (below_al w1 (.cells #[.int .i64 sn, .int .i64 sd] 36)))
    obtain ⟨s0, s1, _, _⟩ := hks.facts
    have HK1 := Lib.hid hk1
    have HB1 := Lib.hid hB1
    have HH1 := Lib.hid hh1
    clear hk1 hB0 hB1 hh1 h' b1
    go_wp2_with fail
    refine (HO.out _).mono ?_
    rintro e w3 ⟨rfl, hb3⟩
    have hk3 := HK1.out.below hb3
    have hB3 := HB1.out.trans (hb3.mono HB1.out.size)
    have hh3 := HH1.out.below hb3
    go_wp2_with fail
    refine (HF.out _ ⟨b, off, HA.out, HA.out ▸ hh3⟩).mono ?_
    rintro e w5 ⟨rfl, hb5⟩
    have hk5 := hk3.below hb5
    have hB5 := hB3.trans (hb5.mono hB3.size)
    obtain ⟨d0, d1, g0, g1⟩ := hk5.facts
    unfold frV
    go_wp2
    obtain ⟨e0, e1, _, _⟩ := (hk5.set_ q.num (q.den : Int)).facts
    have hB7 := below_set2 hB5 (Nat.le_refl _) (.int .i64 q.num) (.int .i64 (q.den : Int))
    refine bodyPost_ret (v := yesV q) (by simp [results, Try.results38, go_sem, yesV, frV, e0, e1]) rfl ⟨by rw [HE.out], hB7⟩
end Go.Proofs.Ytnojlapjkdihmaa

/-
  Chapter 11: BestSeen of the program and of the model.
-/
namespace Go.Proofs.Ytnojlapjkdihmaa
open Go.RowKit

theorem stV_parts (b : Bool) (q : Rat) : ∃ x y v, stV b q = .tuple #[frV x y, .bool v] := by
  cases b with
  | false => exact ⟨0, 0, false, rfl⟩
  | true => exact ⟨q.num, q.den, true, rfl⟩
theorem BestSeen_both (rows : List (List Int)) : ∃ x y v, rows.length ≤ 1099511627776 → (∀ r ∈ rows, r.length ≤ 1099511627776) →
    (∀ A c w, RdR w A c rows → Calls Try.prog 31 #[.slice A rows.length c] w fun e w' => e = .returned (.tuple #[frV x y, .bool v]) ∧ Below w.heap.size w w') ∧
    (∀ A c w, RdR w A c rows → Calls Try.prog 30 #[.slice A rows.length c] w fun e w' => e = .returned (.tuple #[frV x y, .bool v]) ∧ Below w.heap.size w w') := by
  obtain ⟨x, y, v, h⟩ := stV_parts (vsB rows) (fq (seenN rows) (waysL rows))
  exact ⟨x, y, v, fun h1 h2 => ⟨fun A c w hR => by have := SBestSeen_any A c rows w hR h1 h2; rwa [h] at this, fun A c w hR => by have := BestSeen_any A c rows w hR h1 h2; rwa [h] at this⟩⟩
end Go.Proofs.Ytnojlapjkdihmaa
