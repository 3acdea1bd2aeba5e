/-
  The walk of the law of BestSeen.
-/
import Derived.Test.YtnojlapjkdihmaaG36
namespace Go.Proofs.Ytnojlapjkdihmaa
open Go.RowKit

/-- The greatest length but one of the first k rows. -/
def mostF (rows : List (List Int)) : Nat → Nat
  | 0 => 0
  | k + 1 => max (mostF rows k) ((RW rows k).length - 1)
theorem mostF_ge (rows : List (List Int)) : ∀ k i, i < k → (RW rows i).length ≤ mostF rows k + 1
  | 0, i, h => by omega
  | k + 1, i, h => by
    rw [mostF]
    rcases Nat.lt_or_ge i k with h1 | h1
    · have := mostF_ge rows k i h1; omega
    · obtain rfl : i = k := by omega
      omega
theorem mostF_le {rows : List (List Int)} (h : ∀ r ∈ rows, r.length ≤ 6) : ∀ k, k ≤ rows.length → mostF rows k ≤ 5
  | 0, _ => by simp [mostF]
  | k + 1, hk => by
    have h1 := mostF_le h k (by omega)
    have h2 := h _ (rw_mem (rows := rows) (i := k) (by omega))
    rw [mostF]; omega
theorem most_law {rows : List (List Int)} (hv : VS rows) : fq (seenN rows) (waysL rows) ≤ ((mostF rows rows.length : Nat) : Rat) := by
  rw [← seen_is hv]
  refine seen_le rows 0 _ hv (Nat.zero_le _) fun w hw => ?_
  obtain ⟨i, hi, rfl⟩ := List.getElem_of_mem hw
  have := mostF_ge rows rows.length i hi
  rwa [rw_of (List.getElem?_eq_getElem hi)] at this

set_option maxRecDepth 100000 in
set_option maxHeartbeats 4000000 in
theorem fnBestSeen_walk {A : Option Addr} {c : Nat} {xs : List Int} {w : World} (h : Came .u8 w A c xs) :
    Calls Try.prog 6 #[.slice A xs.length c] w fun e w' => e = .returned (.bool true) ∧ Below w.heap.size w w' := by
  by_cases hlen : 1048576 < xs.length
  · go_enter Try.func6, Try.ntmps6
    go_wp2
    go_ret
    exact ⟨rfl, Below.refl _ _⟩
  have hl0 : xs.length ≤ 1048576 := by omega
  have HDR := Lib.hid (DrawBestSeen_any A c xs w h)
  clear hlen h
  go_enter Try.func6, Try.ntmps6
  go_wp2_with fail
  refine HDR.out.mono ?_
  rintro e w1 ⟨A1, c1, rows, rfl, hR, hl4, hl6, B1⟩
  have hl5 : rows.length ≤ 1099511627776 := by omega
  have hl7 : ∀ r ∈ rows, r.length ≤ 1099511627776 := fun r hr => by have := hl6 r hr; omega
  clear HDR
  cases hv : vsB rows with
  | false =>
    have HI : Hid (∀ w1, RdR w1 A1 c1 rows → Calls Try.prog 30 #[.slice A1 rows.length c1] w1 fun e w' => e = .returned (.tuple #[frV 0 0, .bool false]) ∧ Below w1.heap.size w1 w') := Lib.hid (fun w1 h => by have := BestSeen_any A1 c1 rows w1 h hl5 hl7; rw [stV_no hv] at this; exact this)
    have HS : Hid (∀ w1, RdR w1 A1 c1 rows → Calls Try.prog 31 #[.slice A1 rows.length c1] w1 fun e w' => e = .returned (.tuple #[frV 0 0, .bool false]) ∧ Below w1.heap.size w1 w') := Lib.hid (fun w1 h => by have := SBestSeen_any A1 c1 rows w1 h hl5 hl7; rw [stV_no hv] at this; exact this)
    clear hv hl6 hl7
    go_wp2_with fail
    refine (HI.out _ hR).mono ?_
    rintro e w2 ⟨rfl, b2⟩
    unfold frV
    have hk2 := PairAt.new (w := w2) (x := 0) (y := 0)
    have hr2 := (hR.below b2).below (below_al w2 (.cells #[.int .i64 0, .int .i64 0] 36))
    have B2 := below_up (B1.trans (b2.mono B1.size)) (below_al w2 (.cells #[.int .i64 0, .int .i64 0] 36))
    go_wp2_with fail
    refine (HS.out _ hr2).mono ?_
    rintro e w3 ⟨rfl, b3⟩
    have hk3 := (hk2.below b3).old (.cells #[.int .i64 0, .int .i64 0] 36)
    have hd3 := PairAt.new (w := w3) (x := 0) (y := 0)
    have B3 := below_up (below_up B2 b3) (below_al w3 (.cells #[.int .i64 0, .int .i64 0] 36))
    obtain ⟨c0, c1', f0, f1⟩ := hk3.facts
    obtain ⟨c2, c3, f2, f3⟩ := hd3.facts
    unfold frV
    go_wp2
    go_ret
    exact ⟨rfl, B3⟩
  | true =>
    obtain ⟨q, hq⟩ : ∃ q, q = fq (seenN rows) (waysL rows) := ⟨_, rfl⟩
    have HI : Hid (∀ w1, RdR w1 A1 c1 rows → Calls Try.prog 30 #[.slice A1 rows.length c1] w1 fun e w' => e = .returned (.tuple #[frV q.num (q.den : Int), .bool true]) ∧ Below w1.heap.size w1 w') := Lib.hid (fun w1 h => by have := BestSeen_any A1 c1 rows w1 h hl5 hl7; rw [stV_yes hv, ← hq] at this; exact this)
    have HS : Hid (∀ w1, RdR w1 A1 c1 rows → Calls Try.prog 31 #[.slice A1 rows.length c1] w1 fun e w' => e = .returned (.tuple #[frV q.num (q.den : Int), .bool true]) ∧ Below w1.heap.size w1 w') := Lib.hid (fun w1 h => by have := SBestSeen_any A1 c1 rows w1 h hl5 hl7; rw [stV_yes hv, ← hq] at this; exact this)
    have HQF := Lib.hid (FrIs.self q)
    have HVS := Lib.hid (vs_VS hv)
    have HQ := Lib.hid hq
    have h14 := (vs_is hv).1
    obtain ⟨s, hs⟩ : ∃ s, s = byQ id rows := ⟨_, rfl⟩
    have HBS : Hid (∀ w1, RdR w1 A1 c1 rows → Calls Try.prog 32 #[.slice A1 rows.length c1] w1 fun e w' => e = .returned (.tuple #[frV s.num (s.den : Int), .bool true]) ∧ Below w1.heap.size w1 w') := Lib.hid (fun w1 h => by have := BestStop_any A1 c1 rows w1 h hl5 hl7; rw [stV_yes hv, ← hs] at this; exact this)
    have qb := seen_bdS HVS.out h14.2 (hq ▸ FrIs.self _ : FrIs (fq (seenN rows) (waysL rows)) q.num q.den)
    have sb := by_bd id HVS.out h14.2 (hs ▸ FrIs.self _ : FrIs (byQ id rows) s.num s.den)
    have hle := fr_leS (FrIs.self s) (FrIs.self q) (by rw [hs, hq, ← seen_is HVS.out]; exact best_le_seen rows HVS.out)
    obtain ⟨M, hM⟩ : ∃ M, M = mostF rows rows.length := ⟨_, rfl⟩
    have hM5 : M ≤ 5 := by rw [hM]; exact mostF_le hl6 _ (Nat.le_refl _)
    have hle2 := fr_leS (FrIs.self q) (FrIs.int (M : Int)) (by rw [hq, hM]; exact most_law HVS.out)
    have p1 := mul_bdS (a := q.num) (b := (s.den : Int)) (A := 8398080) (B := 1679616) (by omega) (by omega) (by omega) (by omega) (by omega)
    have p2 := mul_bdS (a := s.num) (b := (q.den : Int)) (A := 8398080) (B := 1679616) (by omega) (by omega) (by omega) (by omega) (by omega)
    have p3 := mul_bdS (a := (M : Int)) (b := (q.den : Int)) (A := 5) (B := 1679616) (by omega) (by omega) (by omega) (by omega) (by omega)
    have HLL := Lib.hid (fun w => lessOf_any q.num (q.den : Int) s.num (s.den : Int) false w (by unfold lessF; exact decide_eq_false (by omega)) (by omega) (by omega) (by omega) (by omega))
    have HLM := Lib.hid (fun w => lessOf_any (M : Int) 1 q.num (q.den : Int) false w (by unfold lessF; exact decide_eq_false (by omega)) (by omega) (by omega) (by omega) (by omega))
    have HFM := Lib.hid (fun w => LfracOf_any (M : Int) 1 (M : Int) 1 w (by rw [fq_one]; exact FrIs.int (M : Int)) (by decide) (by omega) (by omega) (by decide))
    have HMM := Lib.hid hM
    generalize s.num = sn at HBS HLL
    generalize (s.den : Int) = sd at HBS HLL
    have HL6 := Lib.hid hl6
    clear sb qb hle hle2 p1 p2 p3 hs hM
    generalize q.num = qn at HI HS HQF HLL HLM
    generalize (q.den : Int) = qd at HI HS HQF HLL HLM
    clear hq
    go_wp2_with fail
    refine (HI.out _ hR).mono ?_
    rintro e w2 ⟨rfl, b2⟩
    unfold frV
    have hk2 := PairAt.new (w := w2) (x := qn) (y := qd)
    have hr2 := (hR.below b2).below (below_al w2 (.cells #[.int .i64 qn, .int .i64 qd] 36))
    have B2 := below_up (B1.trans (b2.mono B1.size)) (below_al w2 (.cells #[.int .i64 qn, .int .i64 qd] 36))
    go_wp2_with fail
    refine (HS.out _ hr2).mono ?_
    rintro e w3 ⟨rfl, b3⟩
    have hk3 := (hk2.below b3).old (.cells #[.int .i64 qn, .int .i64 qd] 36)
    have hd3 := PairAt.new (w := w3) (x := qn) (y := qd)
    have hr3 := (hr2.below b3).below (below_al w3 (.cells #[.int .i64 qn, .int .i64 qd] 36))
    have B3 := below_up (below_up B2 b3) (below_al w3 (.cells #[.int .i64 qn, .int .i64 qd] 36))
    obtain ⟨c0, c1', f0, f1⟩ := hk3.facts
    obtain ⟨c2, c3, f2, f3⟩ := hd3.facts
    clear hk2 hr2 B2 b2 b3 hR B1 hd3
    unfold frV
    go_wp2_with fail
    refine (HBS.out _ hr3).mono ?_
    rintro e w4 ⟨rfl, b4⟩
    have hk4 := (hk3.below b4).old (.cells #[.int .i64 sn, .int .i64 sd] 36)
    have hs4 := PairAt.new (w := w4) (x := sn) (y := sd)
    have hr4 := (hr3.below b4).below (below_al w4 (.cells #[.int .i64 sn, .int .i64 sd] 36))
    have B4 := below_up (below_up B3 b4) (below_al w4 (.cells #[.int .i64 sn, .int .i64 sd] 36))
    obtain ⟨W, hW⟩ : ∃ W, W = w4.alloc (.cells #[.int .i64 sn, .int .i64 sd] 36) := ⟨_, rfl⟩
    rw [← hW] at hk4 hs4 hr4 B4
    have HW := Lib.hid hW
    clear hk3 c0 c1' f0 f1 c2 c3 f2 f3 b4 B3 hr3 hW
    unfold frV
    go_wp2_with fail
    rw [← HW.out]
    have hVW := (vs_is hv).2
    have HVW := Lib.hid hVW
    clear hVW
    go_loopw [10, 11] (fun m i wr => ∃ (k n : Nat), k ≤ rows.length ∧ i = .int .i64 k ∧ (∃ x : Nat, m = .int .i64 x ∧ x ≤ 5 ∧ Hid (x = mostF rows k)) ∧ wr = W.drewN n) (fun _ i _ => rows.length - (intOf i).toNat)
    case atStart => exact ⟨0, 0, Nat.zero_le _, rfl, ⟨0, rfl, by omega, Lib.hid rfl⟩, rfl⟩
    case round =>
      obtain ⟨k, n, hk, rfl, ⟨x, rfl, hx5, HX⟩, rfl⟩ := hrel
      by_cases hlt : k < rows.length
      · obtain ⟨b, off, r, A', c', rfl, hr, hc, hcap, hrd⟩ := hr4.at_ hlt
        have hr1 := (vW_le (HVW.out r (List.mem_of_getElem? hr.out)))
        obtain ⟨L, hL⟩ : ∃ L, r.length = L + 1 := ⟨r.length - 1, by omega⟩
        have HN : Hid (max x L = mostF rows (k + 1)) := Lib.hid (by rw [mostF, rw_of hr.out, ← HX.out, hL]; rfl)
        have hL5 : L ≤ 5 := by omega
        have hLr : (r.length : Int) = (L : Int) + 1 := by omega
        rw [hL] at hc
        clear hr hcap hrd hr1 hL hLr
        rcases Nat.lt_or_ge x L with hxl | hxl
        · have HN2 : Hid (L = mostF rows (k + 1)) := Lib.hid (by rw [← HN.out]; omega)
          have e1 : (x : Int) < (L : Int) := by omega
          have e2 : IntKind.i64.wrap (((L + 1 : Nat) : Int) - 1) = (L : Int) := by rw [IntWalk.i64_in _ (by omega)]; omega
          go_wp2
          exact ⟨⟨k + 1, n, by omega, by go_num, ⟨L, rfl, hL5, HN2⟩, rfl⟩, by simp [intOf]; omega⟩
        · have HN2 : Hid (x = mostF rows (k + 1)) := Lib.hid (by rw [← HN.out]; omega)
          have e1 : ¬ (x : Int) < (L : Int) := by omega
          have e2 : IntKind.i64.wrap (((L + 1 : Nat) : Int) - 1) = (L : Int) := by rw [IntWalk.i64_in _ (by omega)]; omega
          go_wp2
          exact ⟨⟨k + 1, n, by omega, by go_num, ⟨x, rfl, hx5, HN2⟩, rfl⟩, by simp [intOf]; omega⟩
      · obtain rfl : k = rows.length := by omega
        have hxM : x = M := by rw [HX.out, HMM.out]
        subst hxM
        obtain ⟨d0, d1, _, _⟩ := hk4.facts
        obtain ⟨s0, s1, _, _⟩ := hs4.facts
        have HFX : Hid (∀ W', Below (W.drewN n).heap.size (W.drewN n) W' → W'.cell? ⟨w2.heap.size, 0, none⟩ = some (.int .i64 qn) ∧ W'.cell? ⟨w2.heap.size, 1, none⟩ = some (.int .i64 qd) ∧ W'.cell? ⟨w4.heap.size, 0, none⟩ = some (.int .i64 sn) ∧ W'.cell? ⟨w4.heap.size, 1, none⟩ = some (.int .i64 sd)) := Lib.hid (fun W' hW => by
          have cl := fun (p : Addr) (v : Value) (hc : (W.drewN n).cell? p = some v) => (hW.cell (World.block_lt_of_cell? _ p hc)).trans hc
          exact ⟨cl _ _ d0, cl _ _ d1, cl _ _ s0, cl _ _ s1⟩)
        have BD := (Below.refl (W.drewN n).heap.size (W.drewN n)).drew
        have HFD := Lib.hid (HFX.out (W.drewN n).drew BD)
        go_wp2_with fail
        refine wp_region_noPanic ?_
        refine wp_region_held_drew (S := fun W' => Below (W.drewN n).heap.size (W.drewN n) W' ∧ (W'.cell? ⟨w2.heap.size, 0, none⟩ = some (.int .i64 qn) ∧ W'.cell? ⟨w2.heap.size, 1, none⟩ = some (.int .i64 qd) ∧ W'.cell? ⟨w4.heap.size, 0, none⟩ = some (.int .i64 sn) ∧ W'.cell? ⟨w4.heap.size, 1, none⟩ = some (.int .i64 sd))) (by kernel_rfl) ⟨BD, HFD.out⟩ (fun hHeld => ?_)
        refine wpAnyH_take (i := 0) (v := _) rfl (by kernel_rfl) (by kernel_rfl) (by kernel_rfl) (fun _ _ _ h => h) (Or.inl ⟨by rfl, fun w hSw => by (obtain ⟨_, t0, t1, t2, t3⟩ := hSw; go_simp; try rfl)⟩) (by assumption) ?_
        refine wpAnyH_take (i := 1) (v := _) rfl (by kernel_rfl) (by kernel_rfl) (by kernel_rfl) (fun _ _ _ h => h) (Or.inl ⟨by rfl, fun w hSw => by (obtain ⟨_, t0, t1, t2, t3⟩ := hSw; go_simp; try rfl)⟩) (by assumption) ?_
        refine wpAnyH_take (i := 2) (v := _) rfl (by kernel_rfl) (by kernel_rfl) (by kernel_rfl) (fun _ _ _ h => h) (Or.inl ⟨by rfl, fun w hSw => by (obtain ⟨_, t0, t1, t2, t3⟩ := hSw; go_simp; try rfl)⟩) (by assumption) ?_
        refine wpAnyH_take (i := 3) (v := _) rfl (by kernel_rfl) (by kernel_rfl) (by kernel_rfl) (fun _ _ _ h => h) (Or.inl ⟨by rfl, fun w hSw => by (obtain ⟨_, t0, t1, t2, t3⟩ := hSw; go_simp; try rfl)⟩) (by assumption) ?_
        refine wpAnyH_ready (rs := [4]) (by kernel_rfl) (by simp) ?_
        refine AllReadyH.cons rfl (fun K hK => ?_) AllReadyH.nil
        go_simp
        refine (HLL.out _).mono ?_
        rintro e y4 ⟨rfl, g4⟩
        have Dy4 := BD.trans (g4.mono BD.size)
        refine hK.out _ _ ⟨Dy4, HFX.out _ Dy4⟩ (fun hHeld => ?_)
        clear hK K
        refine wpAnyH_take (i := 5) (v := _) rfl (by kernel_rfl) (by kernel_rfl) (by kernel_rfl) (fun _ _ _ h => h) (Or.inl ⟨by rfl, fun w hSw => by (obtain ⟨_, t0, t1, t2, t3⟩ := hSw; go_simp; try rfl)⟩) (by assumption) ?_
        refine wpAnyH_take (i := 6) (v := _) rfl (by kernel_rfl) (by kernel_rfl) (by kernel_rfl) (fun _ _ _ h => h) (Or.inl ⟨by rfl, fun w hSw => by (obtain ⟨_, t0, t1, t2, t3⟩ := hSw; go_simp; try rfl)⟩) (by assumption) ?_
        refine wpAnyH_take (i := 7) (v := _) rfl (by kernel_rfl) (by kernel_rfl) (by kernel_rfl) (fun _ _ _ h => h) (Or.inl ⟨by rfl, fun w hSw => by (obtain ⟨_, t0, t1, t2, t3⟩ := hSw; go_simp; try rfl)⟩) (by assumption) ?_
        refine wpAnyH_take (i := 8) (v := _) rfl (by kernel_rfl) (by kernel_rfl) (by kernel_rfl) (fun _ _ _ h => h) (Or.inl ⟨by rfl, fun w hSw => by (obtain ⟨_, t0, t1, t2, t3⟩ := hSw; go_simp; try rfl)⟩) (by assumption) ?_
        refine wpAnyH_take (i := 10) (v := _) rfl (by kernel_rfl) (by kernel_rfl) (by kernel_rfl) (fun _ _ _ h => h) (Or.inl ⟨by rfl, fun w hSw => by (obtain ⟨_, t0, t1, t2, t3⟩ := hSw; go_simp; try rfl)⟩) (by assumption) ?_
        refine wpAnyH_ready (rs := [9]) (by kernel_rfl) (by simp) ?_
        refine AllReadyH.cons rfl (fun K hK => ?_) AllReadyH.nil
        go_simp
        refine (HFM.out _).mono ?_
        rintro e y5 ⟨rfl, g5⟩
        have Dy5 := Dy4.trans (g5.mono Dy4.size)
        refine hK.out _ _ ⟨Dy5, HFX.out _ Dy5⟩ (fun hHeld => ?_)
        clear hK K
        refine wpAnyH_ready (rs := [11]) (by kernel_rfl) (by simp) ?_
        refine AllReadyH.cons rfl (fun K hK => ?_) AllReadyH.nil
        go_simp
        refine (HLM.out _).mono ?_
        rintro e y6 ⟨rfl, g6⟩
        have Dy6 := Dy5.trans (g6.mono Dy5.size)
        refine hK.out _ _ ⟨Dy6, HFX.out _ Dy6⟩ (fun hHeld => ?_)
        clear hK K
        refine wpAnyH_take (i := 12) (v := _) rfl (by kernel_rfl) (by kernel_rfl) (by kernel_rfl) (fun _ _ _ h => h) (Or.inl ⟨by rfl, fun w hSw => by (obtain ⟨_, t0, t1, t2, t3⟩ := hSw; go_simp; try rfl)⟩) (by assumption) ?_
        refine wpAnyH_take (i := 13) (v := _) rfl (by kernel_rfl) (by kernel_rfl) (by kernel_rfl) (fun _ _ _ h => h) (Or.inl ⟨by rfl, fun w hSw => by (obtain ⟨_, t0, t1, t2, t3⟩ := hSw; go_simp; try rfl)⟩) (by assumption) ?_
        refine wpAnyH_take (i := 14) (v := _) rfl (by kernel_rfl) (by kernel_rfl) (by kernel_rfl) (fun _ _ _ h => h) (Or.inl ⟨by rfl, fun w hSw => by (obtain ⟨_, t0, t1, t2, t3⟩ := hSw; go_simp; try rfl)⟩) (by assumption) ?_
        refine wpAnyH_done (by kernel_rfl) (NoPanic.normal ?_) _
        have BF := (below_drewN' B4 n).trans (Dy6.mono (below_drewN' B4 n).size)
        clear Dy4 Dy5 Dy6 d0 d1 s0 s1
        go_wp2
        go_ret
        exact ⟨rfl, BF⟩
end Go.Proofs.Ytnojlapjkdihmaa
