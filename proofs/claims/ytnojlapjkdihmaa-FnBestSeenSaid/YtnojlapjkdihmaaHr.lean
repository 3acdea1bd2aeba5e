/-
  Chapter 11, the model: bestStop and stopAt.
-/
import Derived.Test.YtnojlapjkdihmaaG31
import Derived.Test.YtnojlapjkdihmaaHh
namespace Go.Proofs.Ytnojlapjkdihmaa
open Go.RowKit

theorem fq_inv {T : Int} (h : 1 ≤ T) : FrIs (fq 1 T) 1 T := by
  have := fq_is (up := 1) h
  simpa using this

set_option maxRecDepth 100000 in
set_option maxHeartbeats 4000000 in
theorem bestStop_any (b off c : Nat) (rows : List (List Int)) (w : World) (h : RdR w (some ⟨b, off, none⟩) c rows) (hv : vsB rows = true) :
    Calls Try.prog 112 #[.slice (some ⟨b, off, none⟩) rows.length c] w fun e w' => e = .returned (frV (byQ id rows).num ((byQ id rows).den : Int)) ∧ Below w.heap.size w w' := by
  have hl := (vs_is hv).1.2
  have HM := Lib.hid (vs_is hv).2
  have HVS := Lib.hid (vs_VS hv)
  have z01 : FrIs (fq 0 1) 0 1 := by rw [fq_one]; exact FrIs.int 0
  have HZ := Lib.hid (fun w => Sfrac_any 0 1 0 1 w z01 (by decide) (by decide) (by decide) (by decide))
  clear hv z01
  unfold frV
  go_enter Try.func112, Try.ntmps112
  go_wp2_with fail
  refine (HZ.out _).mono ?_
  rintro e w1 ⟨rfl, b1⟩
  unfold frV
  have kR := ((PairAt.new (w := w) (x := 0) (y := 0)).below b1).old (.cells #[.int .i64 0, .int .i64 1] 36)
  have kO := PairAt.new (w := w1) (x := 0) (y := 1)
  have hB0 : Below w.heap.size w w1 := (below_al w (.cells #[.int .i64 0, .int .i64 0] 36)).trans (b1.mono (below_al w (.cells #[.int .i64 0, .int .i64 0] 36)).size)
  have hO : w.heap.size + 1 ≤ w1.heap.size := by have := b1.size; simpa using this
  have hB := hB0.trans ((below_al w1 (.cells #[.int .i64 0, .int .i64 1] 36)).mono hB0.size)
  have hN0 : FrIs (byQ id (rows.drop rows.length)) 0 1 := by rw [List.drop_length]; exact FrIs.int 0
  have HN0 := Lib.hid hN0
  clear b1 hB0 hN0
  go_wp2_with fail
  go_loopw [4] (fun i wr => ∃ (k : Nat) (n d : Int), k ≤ rows.length ∧ i = .int .i64 ((k : Int) - 1) ∧ Below w.heap.size w wr ∧ PairAt wr w.heap.size 0 0 ∧ PairAt wr w1.heap.size n d ∧ Hid (FrIs (byQ id (rows.drop k)) n d)) (fun i _ => (intOf i + 1).toNat)
  case atStart => exact ⟨rows.length, 0, 1, Nat.le_refl _, rfl, hB, kR, kO, HN0⟩
  case round =>
    clear kR kO hB HN0
    obtain ⟨k, n, d, hk, rfl, hb, kR, kO, HQ⟩ := hrel
    cases k with
    | zero =>
      have HQ0 := Lib.hid (show FrIs (byQ id rows) n d from HQ.out)
      obtain ⟨c0, c1, f0, f1⟩ := kR.facts
      obtain ⟨o0, o1, _, _⟩ := kO.facts
      have hB7 := below_set2 hb (Nat.le_refl _) (.int .i64 n) (.int .i64 d)
      have kR7 := kR.set_ n d
      obtain ⟨e0, e1, _, _⟩ := kR7.facts
      clear kR kO kR7 HQ
      go_wp2
      refine bodyPost_ret (v := frV n d) (by simp [results, Try.results112, go_sem, frV, e0, e1]) rfl ⟨by rw [HQ0.out.1, HQ0.out.2]; rfl, hB7⟩
    | succ k =>
      have hkl : k < rows.length := by omega
      have e1 : (((k + 1 : Nat) : Int) - 1) = (k : Int) := by omega
      rw [e1]
      have hk0 : (0 : Int) ≤ (k : Int) := by omega
      obtain ⟨b0, off0, r, A', c', e0, hr, hc, hcap, hrd⟩ := h.at_ hkl
      injection e0 with e0
      injection e0 with e2 e3
      subst e2 e3
      have hrv := HM.out r (List.mem_of_getElem? hr.out)
      obtain ⟨b', off', rfl⟩ := hrd.out.open1 (vW_le hrv).1
      have HRV := Lib.hid hrv
      have hr6 := vW_le hrv
      have hD := ways_small (rows := rows.drop (k + 1)) (HVS.out.drop _) (by rw [List.length_drop]; omega)
      have HH := Lib.hid (by_had id (rows.drop (k + 1)) (HVS.out.drop _))
      obtain ⟨D, hDD⟩ : ∃ D, D = waysL (rows.drop (k + 1)) := ⟨_, rfl⟩
      obtain ⟨q, hq⟩ : ∃ q, q = byQ id (rows.drop (k + 1)) := ⟨_, rfl⟩
      rw [← hDD] at hD HH
      rw [← hq] at HH HQ
      have HNX : Hid (byQ id (rows.drop k) = meanQ r q q) := Lib.hid (by rw [drop_at hr.out, hq]; rfl)
      have hcw := (hb.cell (p := ⟨b, off + k, none⟩) (World.block_lt_of_cell? w _ hc)).trans hc
      have hcl : r.length ≤ c' := hcap.out
      have HC0 := Lib.hid hc
      clear hc hrv hDD hq hr hcap e1
      go_wp2_with fail
      refine (HZ.out _).mono ?_
      rintro e w2 ⟨rfl, b2⟩
      unfold frV
      have hBS := (below_al w2 (.cells #[.int .i64 0, .int .i64 1] 36))
      have kS := PairAt.new (w := w2) (x := 0) (y := 1)
      have kR2 := (kR.below b2).old (.cells #[.int .i64 0, .int .i64 1] 36)
      have kO2 := (kO.below b2).old (.cells #[.int .i64 0, .int .i64 1] 36)
      have hb2 := hb.trans (b2.mono hb.size)
      have hB2 := hb2.trans (hBS.mono hb2.size)
      have hSO : w1.heap.size < w2.heap.size := Nat.lt_of_lt_of_le kO.lt b2.size
      have hS0 : w.heap.size < w2.heap.size := by omega
      clear hBS b2 hb2 kR kO hb
      go_wp2_with fail
      go_loopw [6] (fun v wr2 => ∃ (j : Nat) (x y : Int), j ≤ r.length ∧ v = .int .i64 j ∧ Below w.heap.size w wr2 ∧ PairAt wr2 w.heap.size 0 0 ∧ PairAt wr2 w1.heap.size n d ∧ PairAt wr2 w2.heap.size x y ∧ Hid (FrIs (sumQ ((termL r q q).take j)) x y)) (fun v _ => r.length - (intOf v).toNat)
      case atStart => exact ⟨0, 0, 1, Nat.zero_le _, rfl, hB2, kR2, kO2, kS, Lib.hid (FrIs.int 0)⟩
      case round =>
        clear kR2 kO2 kS hB2
        obtain ⟨j, x, y, hj, rfl, hb, kR, kO, kS, HS⟩ := hrel
        have hcwj := (hb.cell (p := ⟨b, off + k, none⟩) (World.block_lt_of_cell? w _ HC0.out)).trans HC0.out
        by_cases hlt : j < r.length
        · obtain ⟨wx, hwx⟩ : ∃ wx, wx = wt r j := ⟨_, rfl⟩
          obtain ⟨tn, td, pn, pd, sn, sd, hst⟩ := step_is (e := q) HRV.out hlt hD.1 hD.2 HH.out HS.out
          rw [← hwx] at hst
          have hxj : r[j]? = some wx := by rw [hwx]; exact wt_at hlt
          have hcx := (hrd.out.below hb).cell hxj
          have hw6 := validW_hi (vW_valid HRV.out) j
          have hw1 := validW_lo (vW_valid HRV.out) hlt
          rw [← hwx] at hw6 hw1
          have hq5 := HH.out.sc.bd hD.1 HQ.out
          have hjd := mul_six (a := d) (k := (j : Int)) (B := 46656) (by omega) (by omega) (by omega) (by omega)
          have F1 := Lib.hid (fun w => Sfrac_any wx 1 wx 1 w (by rw [fq_one]; exact FrIs.int wx) (by decide) (by omega) (by omega) (by decide))
          have F2 := Lib.hid (fun w => Sfrac_any (j : Int) 1 (j : Int) 1 w (by rw [fq_one]; exact FrIs.int (j : Int)) (by decide) (by omega) (by omega) (by decide))
          have LG := Lib.hid (fun w => larger_any (j : Int) 1 n d tn td ((j : Int) : Rat) q w (FrIs.int _) HQ.out hst.take (by rw [Int.mul_comm]; omega) (by rw [Int.mul_comm]; omega) (by omega) (by omega))
          have TM := Lib.hid (fun w => Stimes_any wx 1 tn td pn pd w hst.times hst.t1 hst.t2 hst.t3 hst.t4)
          have PL := Lib.hid (fun w => Splus_any x y pn pd sn sd w hst.plus hst.p1 hst.p2 hst.p3 hst.p4 hst.p5 hst.p6)
          have HSN := Lib.hid hst.sum
          obtain ⟨a0, a1, _, _⟩ := kS.facts
          obtain ⟨o0, o1, _, _⟩ := kO.facts
          have HFX : Hid (∀ W', Below wr.heap.size wr W' → W'.cell? ⟨w2.heap.size, 0, none⟩ = some (.int .i64 x) ∧ W'.cell? ⟨w2.heap.size, 1, none⟩ = some (.int .i64 y) ∧ W'.cell? ⟨w1.heap.size, 0, none⟩ = some (.int .i64 n) ∧ W'.cell? ⟨w1.heap.size, 1, none⟩ = some (.int .i64 d) ∧ W'.cell? ⟨b, off + k, none⟩ = some (.slice (some ⟨b', off', none⟩) r.length c') ∧ W'.cell? ⟨b', off' + j, none⟩ = some (.int .i64 wx)) := Lib.hid (fun W' hW => by
            have cl := fun (p : Addr) (v : Value) (hc : wr.cell? p = some v) => (hW.cell (World.block_lt_of_cell? wr p hc)).trans hc
            exact ⟨cl _ _ a0, cl _ _ a1, cl _ _ o0, cl _ _ o1, cl _ _ hcwj, cl _ _ hcx⟩)
          have KS := Lib.hid kS
          have KO := Lib.hid kO
          have KR := Lib.hid kR
          have HB := Lib.hid hb
          have HFD := Lib.hid (HFX.out wr.drew ((Below.refl _ _).drew))
          have BD := (Below.refl wr.heap.size wr).drew
          clear hst hxj hwx hq5 hjd kS kO kR hb hw6 hw1
          go_wp2_with fail
          refine wp_region_noPanic ?_
          refine wp_region_last 15 (fun W' => Below wr.heap.size wr W' ∧ (W'.cell? ⟨w2.heap.size, 0, none⟩ = some (.int .i64 x) ∧ W'.cell? ⟨w2.heap.size, 1, none⟩ = some (.int .i64 y) ∧ W'.cell? ⟨w1.heap.size, 0, none⟩ = some (.int .i64 n) ∧ W'.cell? ⟨w1.heap.size, 1, none⟩ = some (.int .i64 d) ∧ W'.cell? ⟨b, off + k, none⟩ = some (.slice (some ⟨b', off', none⟩) r.length c') ∧ W'.cell? ⟨b', off' + j, none⟩ = some (.int .i64 wx))) (by kernel_rfl) ⟨BD, HFD.out⟩ (fun hHeld => ?_)
          refine wpAnyL_take (i := 0) (v := _) rfl rfl (by kernel_rfl) (by kernel_rfl) (by kernel_rfl) (by kernel_rfl) (fun _ _ _ h => h) (Or.inl ⟨by rfl, fun w hSw => by (obtain ⟨_, s0, s1, s2, s3, s4, s5⟩ := hSw; go_simp; try rfl)⟩) (by assumption) ?_
          refine wpAnyL_take (i := 1) (v := _) rfl rfl (by kernel_rfl) (by kernel_rfl) (by kernel_rfl) (by kernel_rfl) (fun _ _ _ h => h) (Or.inl ⟨by rfl, fun w hSw => by (obtain ⟨_, s0, s1, s2, s3, s4, s5⟩ := hSw; go_simp; try rfl)⟩) (by assumption) ?_
          refine wpAnyL_take (i := 2) (v := _) rfl rfl (by kernel_rfl) (by kernel_rfl) (by kernel_rfl) (by kernel_rfl) (fun _ _ _ h => h) (Or.inl ⟨by rfl, fun w hSw => by (obtain ⟨_, s0, s1, s2, s3, s4, s5⟩ := hSw; go_simp; try rfl)⟩) (by assumption) ?_
          refine wpAnyL_take (i := 3) (v := _) rfl rfl (by kernel_rfl) (by kernel_rfl) (by kernel_rfl) (by kernel_rfl) (fun _ _ _ h => h) (Or.inl ⟨by rfl, fun w hSw => by (obtain ⟨_, s0, s1, s2, s3, s4, s5⟩ := hSw; go_simp; try rfl)⟩) (by assumption) ?_
          refine wpAnyL_take (i := 4) (v := _) rfl rfl (by kernel_rfl) (by kernel_rfl) (by kernel_rfl) (by kernel_rfl) (fun _ _ _ h => h) (Or.inl ⟨by rfl, fun w hSw => by (obtain ⟨_, s0, s1, s2, s3, s4, s5⟩ := hSw; go_simp; try rfl)⟩) (by assumption) ?_
          refine wpAnyL_take (i := 5) (v := _) rfl rfl (by kernel_rfl) (by kernel_rfl) (by kernel_rfl) (by kernel_rfl) (fun _ _ _ h => h) (Or.inl ⟨by rfl, fun w hSw => by (obtain ⟨_, s0, s1, s2, s3, s4, s5⟩ := hSw; go_simp; try rfl)⟩) (by assumption) ?_
          refine wpAnyL_take (i := 6) (v := _) rfl rfl (by kernel_rfl) (by kernel_rfl) (by kernel_rfl) (by kernel_rfl) (fun _ _ _ h => h) (Or.inl ⟨by rfl, fun w hSw => by (obtain ⟨_, s0, s1, s2, s3, s4, s5⟩ := hSw; go_simp; try rfl)⟩) (by assumption) ?_
          refine wpAnyL_take (i := 7) (v := _) rfl rfl (by kernel_rfl) (by kernel_rfl) (by kernel_rfl) (by kernel_rfl) (fun _ _ _ h => h) (Or.inl ⟨by rfl, fun w hSw => by (obtain ⟨_, s0, s1, s2, s3, s4, s5⟩ := hSw; go_simp; try rfl)⟩) (by assumption) ?_
          refine wpAnyL_take (i := 9) (v := _) rfl rfl (by kernel_rfl) (by kernel_rfl) (by kernel_rfl) (by kernel_rfl) (fun _ _ _ h => h) (Or.inl ⟨by rfl, fun w hSw => by (obtain ⟨_, s0, s1, s2, s3, s4, s5⟩ := hSw; go_simp; try rfl)⟩) (by assumption) ?_
          refine wpAnyL_take (i := 11) (v := _) rfl rfl (by kernel_rfl) (by kernel_rfl) (by kernel_rfl) (by kernel_rfl) (fun _ _ _ h => h) (Or.inl ⟨by rfl, fun w hSw => by (obtain ⟨_, s0, s1, s2, s3, s4, s5⟩ := hSw; go_simp; try rfl)⟩) (by assumption) ?_
          refine wpAnyL_one (i := 8) (by kernel_rfl) rfl (fun K hK => ?_)
          go_simp
          refine (F1.out _).mono ?_
          rintro e w3 ⟨rfl, b3⟩
          have B3 := BD.trans (b3.mono BD.size)
          refine hK.out _ _ ⟨B3, HFX.out _ B3⟩ (fun hHeld => ?_)
          clear hK K
          refine wpAnyL_one (i := 10) (by kernel_rfl) rfl (fun K hK => ?_)
          go_simp
          refine (F2.out _).mono ?_
          rintro e w4 ⟨rfl, b4⟩
          have B4 := B3.trans (b4.mono B3.size)
          refine hK.out _ _ ⟨B4, HFX.out _ B4⟩ (fun hHeld => ?_)
          clear hK K
          refine wpAnyL_one (i := 12) (by kernel_rfl) rfl (fun K hK => ?_)
          go_simp
          refine (LG.out _).mono ?_
          rintro e w5 ⟨rfl, b5⟩
          have B5 := B4.trans (b5.mono B4.size)
          refine hK.out _ _ ⟨B5, HFX.out _ B5⟩ (fun hHeld => ?_)
          clear hK K
          refine wpAnyL_one (i := 13) (by kernel_rfl) rfl (fun K hK => ?_)
          go_simp
          refine (TM.out _).mono ?_
          rintro e w6 ⟨rfl, b6⟩
          have B6 := B5.trans (b6.mono B5.size)
          refine hK.out _ _ ⟨B6, HFX.out _ B6⟩ (fun hHeld => ?_)
          clear hK K
          refine wpAnyL_one (i := 14) (by kernel_rfl) rfl (fun K hK => ?_)
          go_simp
          refine (PL.out _).mono ?_
          rintro e w7 ⟨rfl, b7⟩
          have B7 := B6.trans (b7.mono B6.size)
          refine hK.out _ _ ⟨B7, HFX.out _ B7⟩ (fun hHeld => ?_)
          obtain ⟨d0, d1, g0, g1⟩ := (KS.out.below B7).facts
          clear hK K
          refine wpAnyL_last (by kernel_rfl) rfl (fun K hK => ?_)
          unfold frV
          go_simp
          refine hK.out _ _ ?_
          refine wpAnyL_done (by kernel_rfl) (NoPanic.normal ?_) _
          have kS9 := (KS.out.below B7).set_ sn sd
          have kO9 := (KO.out.below B7).other (C := w2.heap.size) (by omega) (.int .i64 sn) (.int .i64 sd)
          have kR9 := (KR.out.below B7).other (C := w2.heap.size) (by omega) (.int .i64 sn) (.int .i64 sd)
          have hB9 := below_set2 (B := w2.heap.size) (HB.out.trans (B7.mono HB.out.size)) (by omega) (.int .i64 sn) (.int .i64 sd)
          clear d0 d1 g0 g1 B3 B4 B5 B6 B7
          go_wp2
          go_roundw
          case rel => exact ⟨j + 1, sn, sd, hlt, by go_num, hB9, kR9, kO9, kS9, HSN⟩
          case measure => simp [intOf]; omega
        · have hjl : j = r.length := by omega
          obtain ⟨T, hT⟩ : ∃ T, T = tailW r 0 := ⟨_, rfl⟩
          have h36 := rev_b HRV.out 0
          have hT1 := tot_pos (vW_valid HRV.out)
          rw [← hT] at h36 hT1
          obtain ⟨n2, hn2⟩ : ∃ n2, n2 = (meanQ r q q).num := ⟨_, rfl⟩
          obtain ⟨d2, hd2⟩ : ∃ d2, d2 = ((meanQ r q q).den : Int) := ⟨_, rfl⟩
          have HM2 : Hid (FrIs (byQ id (rows.drop k)) n2 d2) := Lib.hid (by rw [HNX.out]; exact ⟨hn2, hd2⟩)
          have hs2 : FrIs (sumQ (termL r q q)) x y := by have := HS.out; rwa [hjl, List.take_of_length_le (by rw [termL_len]; omega)] at this
          have hts : ∀ u ∈ termL r q q, Sc D 2176782336 u := fun u hu => by
            obtain ⟨v, hv1, rfl⟩ := List.mem_map.1 hu
            have hlt := List.mem_range.1 hv1
            exact term_sc HH.out hD.1 hD.2 (by omega) (by have := validW_lo (vW_valid HRV.out) hlt; omega) (validW_hi (vW_valid HRV.out) v)
          have hsb := (sumQ_sc (D := D) (B := 2176782336) (by decide) (termL r q q) hts).bd hD.1 hs2
          rw [termL_len] at hsb
          have hov := fr_over hT1 hs2 (show FrIs (sumQ (termL r q q) / (T : Rat)) n2 d2 by rw [hT, termL_sum]; exact ⟨hn2, hd2⟩)
          have o1 := Int.mul_le_mul hsb.2.2.1 hT1 (by omega) (by omega)
          have o2 := Int.mul_le_mul (Int.le_trans hsb.2.2.2 hD.2) h36.2 (by omega) (by omega)
          have HTT := Lib.hid (fun w1 h1 => Stotal_any (some ⟨b', off', none⟩) c' r w1 h1 HRV.out)
          rw [← hT] at HTT
          have HF1 := Lib.hid (fun w => Sfrac_any 1 T 1 T w (fq_inv hT1) hT1 (by decide) (by decide) (by omega))
          have HTM := Lib.hid (fun w => Stimes_any x y 1 T n2 d2 w (by rw [Int.mul_one]; exact hov) (by omega) (by omega) (by omega) (by omega))
          have hrj : Rd wr (some ⟨b', off', none⟩) c' r := hrd.out.below hb
          have HRJ := Lib.hid hrj
          have hjn : ¬ (j : Int) < (r.length : Int) := by omega
          obtain ⟨a0, a1, _, _⟩ := kS.facts
          have HFX : Hid (∀ W', Below wr.heap.size wr W' → W'.cell? ⟨w2.heap.size, 0, none⟩ = some (.int .i64 x) ∧ W'.cell? ⟨w2.heap.size, 1, none⟩ = some (.int .i64 y) ∧ W'.cell? ⟨b, off + k, none⟩ = some (.slice (some ⟨b', off', none⟩) r.length c')) := Lib.hid (fun W' hW => by
            have cl := fun (p : Addr) (v : Value) (hc : wr.cell? p = some v) => (hW.cell (World.block_lt_of_cell? wr p hc)).trans hc
            exact ⟨cl _ _ a0, cl _ _ a1, cl _ _ hcwj⟩)
          have KO := Lib.hid kO
          have KR := Lib.hid kR
          have HB := Lib.hid hb
          have HFD := Lib.hid (HFX.out wr.drew ((Below.refl _ _).drew))
          have BD := (Below.refl wr.heap.size wr).drew
          clear hT hn2 hd2 hs2 hts hsb hov o1 o2 hrj kS kO kR hb hjl h36 hj hlt
          go_wp2_with fail
          refine wp_region_noPanic ?_
          refine wp_region_last 8 (fun W' => Below wr.heap.size wr W' ∧ (W'.cell? ⟨w2.heap.size, 0, none⟩ = some (.int .i64 x) ∧ W'.cell? ⟨w2.heap.size, 1, none⟩ = some (.int .i64 y) ∧ W'.cell? ⟨b, off + k, none⟩ = some (.slice (some ⟨b', off', none⟩) r.length c'))) (by kernel_rfl) ⟨BD, HFD.out⟩ (fun hHeld => ?_)
          refine wpAnyL_take (i := 0) (v := _) rfl rfl (by kernel_rfl) (by kernel_rfl) (by kernel_rfl) (by kernel_rfl) (fun _ _ _ h => h) (Or.inl ⟨by rfl, fun w hSw => by (obtain ⟨_, s0, s1, s2⟩ := hSw; go_simp; try rfl)⟩) (by assumption) ?_
          refine wpAnyL_take (i := 1) (v := _) rfl rfl (by kernel_rfl) (by kernel_rfl) (by kernel_rfl) (by kernel_rfl) (fun _ _ _ h => h) (Or.inl ⟨by rfl, fun w hSw => by (obtain ⟨_, s0, s1, s2⟩ := hSw; go_simp; try rfl)⟩) (by assumption) ?_
          refine wpAnyL_take (i := 2) (v := _) rfl rfl (by kernel_rfl) (by kernel_rfl) (by kernel_rfl) (by kernel_rfl) (fun _ _ _ h => h) (Or.inl ⟨by rfl, fun w hSw => by (obtain ⟨_, s0, s1, s2⟩ := hSw; go_simp; try rfl)⟩) (by assumption) ?_
          refine wpAnyL_take (i := 3) (v := _) rfl rfl (by kernel_rfl) (by kernel_rfl) (by kernel_rfl) (by kernel_rfl) (fun _ _ _ h => h) (Or.inl ⟨by rfl, fun w hSw => by (obtain ⟨_, s0, s1, s2⟩ := hSw; go_simp; try rfl)⟩) (by assumption) ?_
          refine wpAnyL_take (i := 4) (v := _) rfl rfl (by kernel_rfl) (by kernel_rfl) (by kernel_rfl) (by kernel_rfl) (fun _ _ _ h => h) (Or.inl ⟨by rfl, fun w hSw => by (obtain ⟨_, s0, s1, s2⟩ := hSw; go_simp; try rfl)⟩) (by assumption) ?_
          refine wpAnyL_one (i := 5) (by kernel_rfl) rfl (fun K hK => ?_)
          go_simp
          refine (HTT.out wr.drew (HRJ.out.drewN 1)).mono ?_
          rintro e w3 ⟨rfl, rfl⟩
          refine hK.out _ _ ⟨BD, HFX.out _ BD⟩ (fun hHeld => ?_)
          clear hK K
          refine wpAnyL_one (i := 6) (by kernel_rfl) rfl (fun K hK => ?_)
          go_simp
          refine (HF1.out _).mono ?_
          rintro e w4 ⟨rfl, b4⟩
          have B4 := BD.trans (b4.mono BD.size)
          refine hK.out _ _ ⟨B4, HFX.out _ B4⟩ (fun hHeld => ?_)
          clear hK K
          refine wpAnyL_one (i := 7) (by kernel_rfl) rfl (fun K hK => ?_)
          go_simp
          refine (HTM.out _).mono ?_
          rintro e w5 ⟨rfl, b5⟩
          have B5 := B4.trans (b5.mono B4.size)
          refine hK.out _ _ ⟨B5, HFX.out _ B5⟩ (fun hHeld => ?_)
          obtain ⟨d0, d1, g0, g1⟩ := (KO.out.below B5).facts
          clear hK K
          refine wpAnyL_last (by kernel_rfl) rfl (fun K hK => ?_)
          unfold frV
          go_simp
          refine hK.out _ _ ?_
          refine wpAnyL_done (by kernel_rfl) (NoPanic.normal ?_) _
          have kO9 := (KO.out.below B5).set_ n2 d2
          have kR9 := (KR.out.below B5).other (C := w1.heap.size) (by omega) (.int .i64 n2) (.int .i64 d2)
          have hB9 := below_set2 (B := w1.heap.size) (HB.out.trans (B5.mono HB.out.size)) (by omega) (.int .i64 n2) (.int .i64 d2)
          clear d0 d1 g0 g1 B4 B5
          go_wp2
          go_roundw
          case rel => exact ⟨k, n2, d2, by omega, by go_num, hB9, kR9, kO9, HM2⟩
          case measure => simp [intOf]

end Go.Proofs.Ytnojlapjkdihmaa
