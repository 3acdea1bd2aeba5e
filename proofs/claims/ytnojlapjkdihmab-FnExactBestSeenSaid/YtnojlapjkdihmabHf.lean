/-
  Chapter 11, the program: BestSeen.
-/
import Derived.Test.YtnojlapjkdihmabG37
namespace Go.Proofs.Ytnojlapjkdihmab
open Go.RowKit

theorem seenN_step {rows : List (List Int)} (v : Nat) : sI (v + 1) (fun t => waysL rows - belowL (t + 1) rows) = sI v (fun t => waysL rows - belowL (t + 1) rows) + (waysL rows - belowL (v + 1) rows) := rfl
theorem seenTo_bd {rows : List (List Int)} (hv : VS rows) (hl : rows.length ≤ 4) (v : Nat) (h5 : v ≤ 5) : 0 ≤ sI v (fun t => waysL rows - belowL (t + 1) rows) ∧ sI v (fun t => waysL rows - belowL (t + 1) rows) ≤ 8398080 := by
  have hw := ways_36 hv hl
  have h : ∀ t, 0 ≤ waysL rows - belowL (t + 1) rows ∧ waysL rows - belowL (t + 1) rows ≤ 1679616 := fun t => by
    have := belowL_bd (t + 1) rows hv
    omega
  refine ⟨sI_nn fun t _ => (h t).1, ?_⟩
  have h1 := sI_le (n := v) (f := fun t => waysL rows - belowL (t + 1) rows) (g := fun _ => 1679616) fun t _ => (h t).2
  have : v = 0 ∨ v = 1 ∨ v = 2 ∨ v = 3 ∨ v = 4 ∨ v = 5 := by omega
  refine Int.le_trans h1 ?_
  rcases this with rfl | rfl | rfl | rfl | rfl | rfl <;> simp [sI]

set_option maxHeartbeats 1000000 in
theorem BestSeen_any (A : Option Addr) (c : Nat) (rows : List (List Int)) (w : World) (h : RdR w A c rows) (hl : rows.length ≤ 1099511627776) (hl2 : ∀ r ∈ rows, r.length ≤ 1099511627776) :
    Calls Try.prog 17 #[.slice A rows.length c] w fun e w' => e = .returned (stV (vsB rows) (fq (seenN rows) (waysL rows))) ∧ Below w.heap.size w w' := by
  obtain ⟨q, hq⟩ : ∃ q, q = fq (seenN rows) (waysL rows) := ⟨_, rfl⟩
  rw [← hq]
  have HQ := Lib.hid hq
  clear hq
  have hB : Below w.heap.size w (w.alloc (.cells #[.int .i64 0, .int .i64 0] 28)) := below_al w _
  have h' := h.below hB
  have hk := PairAt.new (w := w) (x := 0) (y := 0)
  obtain ⟨W, hW⟩ : ∃ W, W = w.alloc (.cells #[.int .i64 0, .int .i64 0] 28) := ⟨_, rfl⟩
  have HV := Lib.hid (ValidStages_any A c rows _ h' hl hl2)
  obtain ⟨c0, c1, f0, f1⟩ := hk.facts
  cases hv : vsB rows with
  | false =>
    have HE := Lib.hid (stV_no (q := q) hv)
    rw [hv] at HV HE
    clear hv hW
    go_enter Try.func17, Try.ntmps17
    go_wp2_with fail
    refine HV.out.mono ?_
    rintro e w1 ⟨rfl, m, rfl⟩
    go_wp2
    obtain ⟨e0, e1, _, _⟩ := (PairAt.set_ (w := (w.alloc (.cells #[.int .i64 0, .int .i64 0] 28)).drewN m) hk 0 0).facts
    have hB7 := below_set2 (B := w.heap.size) (below_drewN' hB m) (Nat.le_refl _) (.int .i64 0) (.int .i64 0)
    refine bodyPost_ret (v := nayV) (by simp [results, Try.results17, go_sem, nayV, frV, e0, e1]) rfl ⟨by rw [HE.out], hB7⟩
  | true =>
    have HE := Lib.hid (stV_yes (q := q) hv)
    have hvs := vs_VS hv
    have hl4 := (vs_is hv).1.2
    have hww := ways_36 hvs hl4
    have HB6 := Lib.hid (belowL_all rows hvs)
    have HBD : Hid (∀ v, v ≤ 6 → 0 ≤ belowL v rows ∧ belowL v rows ≤ waysL rows) := Lib.hid (fun v _ => belowL_bd v rows hvs)
    have HSD : Hid (∀ v, v ≤ 5 → 0 ≤ sI v (fun t => waysL rows - belowL (t + 1) rows) ∧ sI v (fun t => waysL rows - belowL (t + 1) rows) ≤ 8398080) := Lib.hid (fun v hv => seenTo_bd hvs hl4 v hv)
    have HWB : Hid (∀ (v n : Nat), v ≤ 6 → Calls Try.prog 40 #[.slice A rows.length c, .int .i64 v] (W.drewN n) fun e w' => e = .returned (.int .i64 (belowL v rows)) ∧ ∃ m, w' = (W.drewN n).drewN m) :=
      Lib.hid (fun v n h6 => waysBelow_any A c v rows _ (by rw [hW]; exact h'.drewN n) hv h6)
    have HWL : Hid (waysL rows = sI 0 (fun t => waysL rows - belowL (t + 1) rows) + waysL rows) := Lib.hid (by simp [sI])
    have HBB : Hid (Below w.heap.size w W) := Lib.hid (hW ▸ hB)
    rw [hv] at HV HE
    rw [← hW] at HV hk c0 c1 f0 f1
    have HK := Lib.hid hk
    have HWW := Lib.hid hW
    clear hv hvs h' hB hk hW
    go_enter Try.func17, Try.ntmps17
    go_wp2_with fail
    rw [← HWW.out]
    refine HV.out.mono ?_
    rintro e w1 ⟨rfl, m, rfl⟩
    go_wp2_with fail
    refine (HWB.out 6 m (by decide)).mono ?_
    rintro e w1 ⟨rfl, m2, rfl⟩
    rw [HB6.out]
    go_wp2_with fail
    go_loopw [5, 6] (fun s i wr => ∃ v n : Nat, v ≤ 5 ∧ i = .int .i64 ((v + 1 : Nat) : Int) ∧ (∃ x, s = .int .i64 x ∧ Hid (x = sI v (fun t => waysL rows - belowL (t + 1) rows))) ∧ wr = W.drewN n) (fun _ i _ => 7 - (intOf i).toNat)
    case atStart => exact ⟨0, _, by omega, rfl, ⟨_, rfl, Lib.hid rfl⟩, rfl⟩
    case round =>
      obtain ⟨v, n, hv5, rfl, ⟨x, rfl, HX⟩, rfl⟩ := hrel
      by_cases hlt : v < 5
      · have hb := HBD.out (v + 1) (by omega)
        have hs := HSD.out v (by omega)
        have hs2 := HSD.out (v + 1) (by omega)
        have HN : Hid (x + (waysL rows - belowL (v + 1) rows) = sI (v + 1) (fun t => waysL rows - belowL (t + 1) rows)) := Lib.hid (by rw [seenN_step, ← HX.out])
        have HC := Lib.hid (HWB.out (v + 1) n (by omega))
        rw [← HX.out] at hs
        rw [← HN.out] at hs2
        have hvv : ((v + 1 : Nat) : Int) < 6 := by omega
        generalize belowL (v + 1) rows = z at *
        have hvl : ((v : Int) + 1) < 6 := by omega
        go_wp2_with (go_at_call 40; refine HC.out.mono ?_; rintro e w1 ⟨rfl, m3, rfl⟩)
        exact ⟨⟨v + 1, _, by omega, by go_num, ⟨_, rfl, HN⟩, rfl⟩, by simp [intOf]; omega⟩
      · obtain rfl : v = 5 := by omega
        have hs := HSD.out 5 (by omega)
        have e5 : x = seenN rows := HX.out
        rw [← HX.out] at hs
        have HF := Lib.hid (fun w => fracOf_any x (waysL rows) q.num q.den w (by rw [e5, ← HQ.out]; exact FrIs.self _) hww.1 (by omega) (by omega) (by omega))
        clear e5
        go_wp2_with fail
        refine (HF.out _).mono ?_
        rintro e w5 ⟨rfl, hb5⟩
        have hk5 := (HK.out.drewN n).below hb5
        have hB5 := (below_drewN' HBB.out n).trans (hb5.mono HBB.out.size)
        obtain ⟨d0, d1, g0, g1⟩ := hk5.facts
        unfold frV
        go_wp2
        obtain ⟨e0, e1, _, _⟩ := (hk5.set_ q.num (q.den : Int)).facts
        have hB7 := below_set2 hB5 (Nat.le_refl _) (.int .i64 q.num) (.int .i64 (q.den : Int))
        refine bodyPost_ret (v := yesV q) (by simp [results, Try.results17, go_sem, yesV, frV, e0, e1]) rfl ⟨by rw [HE.out], hB7⟩
end Go.Proofs.Ytnojlapjkdihmab
