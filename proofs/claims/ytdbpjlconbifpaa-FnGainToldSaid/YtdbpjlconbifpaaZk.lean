/-
  Chapter 5, the model: GainTold; both sides.
-/
import Derived.Test.YtdbpjlconbifpaaZj
namespace Go.Proofs.Ytdbpjlconbifpaa
open Go.RowKit

/-- S may say more behind a call than ahead of it. -/
theorem wpAnyH_mono {P : Program} {md : Region.Mode} {ops : Array Oper} {Q : Exit → Act → World → Prop} {S S' : World → Prop} (h : ∀ w, S' w → S w) : ∀ (fuel : Nat) (listed : Array Bool) (a : Act) (w : World), wpAnyH P md ops Q S' fuel listed a w → wpAnyH P md ops Q S fuel listed a w
  | 0, _, _, _, hh => hh
  | fuel + 1, _, _, _, hh => ⟨hh.1, fun i hi => wpOp_mono (fun a w hw => ⟨h w hw.1, wpAnyH_mono h fuel _ a w hw.2⟩) (hh.2 i hi)⟩

set_option maxHeartbeats 400000 in
theorem GainTold_no (A U : Option Addr) (c d : Nat) (i : Int) (ts : List (List Int)) (told : List Int) (w : World) (hR : RdR w A c ts) (hT : Rd w U d told) (hl2 : ∀ r ∈ ts, r.length ≤ 1099511627776) (hl3 : told.length ≤ 1099511627776) (hno : (hbB ts i && vt told) = false) :
    Calls Try.prog 25 #[.slice A ts.length c, .int .i64 i, .slice U told.length d] w (GnIs w 0 false) := by
  have HB := Lib.hid (hasBidder_any A c ts i w hR hl2)
  have HVT := Lib.hid (fun (W : World) (hW : Below w.heap.size w W) => ValidTable_any U d told W (hT.below hW) hl3)
  cases hb : hbB ts i with
  | false =>
    rw [hb] at HB
    clear hb hno hR hT hl2 hl3 HVT
    go_enter Try.func25, Try.ntmps25
    go_wp2_with fail
    refine HB.out.mono ?_
    rintro e w1 ⟨rfl, b1⟩
    go_wp2
    go_ret2
    exact ⟨rfl, b1⟩
  | true =>
    rw [hb, Bool.true_and] at hno
    rw [hb] at HB
    rw [hno] at HVT
    clear hb hno hR hT hl2 hl3
    go_enter Try.func25, Try.ntmps25
    go_wp2_with fail
    refine HB.out.mono ?_
    rintro e w1 ⟨rfl, b1⟩
    go_wp2_with fail
    refine (HVT.out w1 b1).mono ?_
    rintro e w2 ⟨rfl, b2⟩
    go_wp2
    go_ret2
    exact ⟨rfl, b1.trans (b2.mono b1.size)⟩

set_option maxHeartbeats 1000000 in
theorem SGainTold_no (A U : Option Addr) (c d : Nat) (i : Int) (ts : List (List Int)) (told : List Int) (w : World) (hR : RdR w A c ts) (hT : Rd w U d told) (hl : ts.length ≤ 1099511627776) (hl2 : ∀ r ∈ ts, r.length ≤ 1099511627776) (hl3 : told.length ≤ 1099511627776) (hno : (hbB ts i && vt told) = false) :
    Calls Try.prog 26 #[.slice A ts.length c, .int .i64 i, .slice U told.length d] w (GnIs w 0 false) := by
  have HC := Lib.hid (SvalidTables_any A c ts w hR hl hl2)
  have HI := Lib.hid (fun w1 => inRange_any i 0 ((ts.length : Int) - 1) w1)
  have HVT := Lib.hid (fun (W : World) (hW : Below w.heap.size w W) => SvalidTable_any U d told W (hT.below hW) hl3)
  have e1 : IntKind.i64.wrap ((ts.length : Int) - 1) = (ts.length : Int) - 1 := IntWalk.i64_in _ (by omega)
  unfold hbB at hno
  cases hb : vtsB ts with
  | false =>
    rw [hb] at HC
    clear hb hno hR hT hl2 hl3 HVT HI hl
    go_enter Try.func26, Try.ntmps26
    go_wp2_with fail
    refine HC.out.mono ?_
    rintro e w1 ⟨rfl, n1, rfl⟩
    go_wp2
    go_ret2
    exact ⟨rfl, below_drewN' (Below.refl _ _) n1⟩
  | true =>
    rw [hb, Bool.true_and] at hno
    rw [hb] at HC
    cases hi : inR i 0 ((ts.length : Int) - 1) with
    | false =>
      rw [hi] at HI
      clear hb hno hR hT hl2 hl3 HVT hi hl
      go_enter Try.func26, Try.ntmps26
      go_wp2_with fail
      refine HC.out.mono ?_
      rintro e w1 ⟨rfl, n1, rfl⟩
      go_wp2_with fail
      refine (HI.out _).mono ?_
      rintro e w2 ⟨rfl, rfl⟩
      go_wp2
      go_ret2
      exact ⟨rfl, below_drewN' (Below.refl _ _) n1⟩
    | true =>
      rw [hi, Bool.true_and] at hno
      rw [hi] at HI
      rw [hno] at HVT
      clear hb hno hR hT hl2 hl3 hi hl
      go_enter Try.func26, Try.ntmps26
      go_wp2_with fail
      refine HC.out.mono ?_
      rintro e w1 ⟨rfl, n1, rfl⟩
      go_wp2_with fail
      refine (HI.out _).mono ?_
      rintro e w2 ⟨rfl, rfl⟩
      have B1 : Below w.heap.size w (w.drewN n1) := below_drewN' (Below.refl _ _) n1
      go_wp2_with fail
      refine (HVT.out _ B1).mono ?_
      rintro e w3 ⟨rfl, n3, rfl⟩
      have B3 := Lib.hid (show Below w.heap.size w (w.drewN (n1 + n3)) from below_drewN' (Below.refl _ _) (n1 + n3))
      go_wp2
      go_ret2
      exact ⟨rfl, B3.out⟩

set_option maxHeartbeats 1000000 in
theorem SGainTold_yes (A U : Option Addr) (c d i : Nat) (ts : List (List Int)) (told : List Int) (w : World) (hR : RdR w A c ts) (hT : Rd w U d told) (hTd : told.length ≤ d) (hl2 : ∀ r ∈ ts, r.length ≤ 1099511627776) (hv : VTs ts) (hi : i < ts.length) (ht : VT told) :
    Calls Try.prog 26 #[.slice A ts.length c, .int .i64 i, .slice U told.length d] w (GnIs w (gtF ts i told) true) := by
  have h1l : 1 ≤ ts.length := hv.1.1
  have h4 : ts.length ≤ 4 := hv.1.2
  have HC := Lib.hid (SvalidTables_any A c ts w hR (by omega) hl2)
  rw [vtsB_true hv] at HC
  have hIR := fun w1 => inRange_any (i : Int) 0 ((ts.length : Int) - 1) w1
  rw [inR_true.2 (by omega)] at hIR
  have HIR := Lib.hid hIR
  have e1 : IntKind.i64.wrap ((ts.length : Int) - 1) = (ts.length : Int) - 1 := IntWalk.i64_in _ (by omega)
  have HVT := Lib.hid (fun (W : World) (hW : Below w.heap.size w W) => SvalidTable_any U d told W (hT.below hW) (by have := ht.1; omega))
  rw [vt_true ht] at HVT
  obtain ⟨b, off, rfl, hcapR, hrows⟩ := hR.open_ h1l
  have HSB := Lib.hid (fun (W : World) (hW : Below w.heap.size w W) => SwithTable_any b off c i ts.length d told.length U ts told W rfl rfl (hR.below hW) (hT.below hW) hTd hi (by omega))
  obtain ⟨A0, c0, hc0, hcap0, hrd0⟩ := hrows i _ (List.getElem?_eq_getElem hi)
  obtain ⟨r, hr⟩ : ∃ r, r = ts[i] := ⟨_, rfl⟩
  rw [← hr] at hc0 hcap0 hrd0
  have hgd : ts.getD i [] = r := by rw [List.getD_eq_getElem?_getD, List.getElem?_eq_getElem hi, hr]; rfl
  have hrt : VT r := by rw [hr]; exact hv.2 _ (List.getElem_mem hi)
  obtain ⟨b0, off0, rfl⟩ := hrd0.some_ hrt.1
  rw [hrt.1] at hc0
  have hsv := hv.set_ i ht
  have hsl : (ts.set i told).length = ts.length := by simp
  obtain ⟨s, hs⟩ : ∃ s, s = setOf (wayF (ts.set i told)) i := ⟨_, rfl⟩
  have hs8 : s < 8 := by rw [hs]; exact setOf_lt _ _
  obtain ⟨b3, o3, x, hA3, hblx, hx, hcx0⟩ := hrd0.at_ (k := s) (by rw [hrt.1]; exact hs8)
  cases hA3
  have hxe := T_of hx.out
  have hxb := hrt.bd hs8
  rw [hxe] at hxb
  obtain ⟨y, hy⟩ : ∃ y, y = pvF (ts.set i told) i := ⟨_, rfl⟩
  have hyb := pv_bd hsv.2 hsv.1.2 (i := i) (by rw [hsl]; exact hi)
  rw [← hy] at hyb
  have hx0 := hxb.1
  have hx1 := hxb.2
  have hy0 := hyb.1
  have hy1 := hyb.2
  have e2 : IntKind.i64.wrap (x - y) = x - y := IntWalk.i64_in _ (by omega)
  have HE : Hid (gtF ts i told = x - y) := Lib.hid (by unfold gtF; rw [hgd, ← hs, hxe, hy])
  have HBS := Lib.hid (fun (W : World) (g5 c5 : Nat) (h : RdR W (some ⟨g5, 0, none⟩) c5 (ts.set i told)) => SbestSplit_any (some ⟨g5, 0, none⟩) c5 ts.length (ts.set i told) W h hsv hsl)
  have HPV := Lib.hid (fun (W : World) (g5 c5 : Nat) (h : RdR W (some ⟨g5, 0, none⟩) c5 (ts.set i told)) => Spivot_any (some ⟨g5, 0, none⟩) c5 ts.length (ts.set i told) W hsl h hsv)
  have HSC : Hid (∀ (W : World) (B : Nat) (g c' : Nat), Own W B (some ⟨g, 0, none⟩) c' (setsF (wayF (ts.set i told)) ts.length) → W.cell? ⟨g, i, none⟩ = some (.int .i64 (s : Int))) := Lib.hid (fun W B g c' h => h.cell (by rw [setsF_at _ hi, hs]))
  have HPC : Hid (∀ (W : World) (B : Nat) (g c' : Nat), Own W B (some ⟨g, 0, none⟩) c' (vls (pvF (ts.set i told)) ts.length) → W.cell? ⟨g, i, none⟩ = some (.int .i64 y)) := Lib.hid (fun W B g c' h => h.cell (by rw [vls_at hi, hy]))
  have HSL : Hid ((ts.set i told).length = ts.length) := Lib.hid hsl
  have hblk := World.block_lt_of_cell? w _ hc0
  have HKC := Lib.hid (fun (W : World) (hW : Below w.heap.size w W) => (⟨(hW.cell (p := ⟨b, off + i, none⟩) hblk).trans hc0, (hW.cell (p := ⟨b0, off0 + s, none⟩) hblx).trans hcx0⟩ : W.cell? ⟨b, off + i, none⟩ = some (.slice (some ⟨b0, off0, none⟩) 8 c0) ∧ W.cell? ⟨b0, off0 + s, none⟩ = some (.int .i64 x)))
  have hi0 : (0 : Int) ≤ (i : Int) := by omega
  have hi1 : (i : Int) < (ts.length : Int) := by omega
  have hs0 : (0 : Int) ≤ (s : Int) := by omega
  have hs7 : (s : Int) < 8 := by omega
  rw [HE.out]
  clear hR hT hl2 hv ht hrows hrd0 hr hgd hrt hcap0 hsv hsl hs hx hxe hxb hy hyb hc0 hcx0 hIR
  go_enter Try.func26, Try.ntmps26
  go_wp2_with fail
  refine HC.out.mono ?_
  rintro e w1 ⟨rfl, n1, rfl⟩
  go_wp2_with fail
  refine (HIR.out _).mono ?_
  rintro e w2 ⟨rfl, rfl⟩
  have B1 : Below w.heap.size w (w.drewN n1) := below_drewN' (Below.refl _ _) n1
  go_wp2_with fail
  refine (HVT.out _ B1).mono ?_
  rintro e w3 ⟨rfl, n3, rfl⟩
  have B3 := below_drewN' B1 n3
  rw [World.drewN_drewN] at B3
  go_wp2_with fail
  refine (HSB.out _ B3).mono ?_
  rintro e w4 ⟨g4, c4, vs4, rfl, o4, v4, b4⟩
  have B4 := B3.trans (b4.mono B3.size)
  have HR4 := Lib.hid (CopyIs.shape_ o4 v4 HSL.out b4)
  clear o4 v4 b4
  have hbd : Below w.heap.size w w4.drew := below_drewN' B4 1
  go_wp2_with fail
  refine wp_region_noPanic ?_
  refine wp_region_held_drew (S := fun W : World => W.cell? ⟨b, off + i, none⟩ = some (.slice (some ⟨b0, off0, none⟩) 8 c0) ∧ W.cell? ⟨b0, off0 + s, none⟩ = some (.int .i64 x)) (by kernel_rfl) (HKC.out _ hbd) (fun hHeld => ?_)
  refine wpAnyH_take (i := 0) (v := _) rfl (by kernel_rfl) (by kernel_rfl) (by kernel_rfl) (fun _ _ _ h => h) (Or.inl ⟨by rfl, fun w hSw => by (obtain ⟨s0, s1⟩ := hSw; go_simp; try rfl)⟩) (by assumption) ?_
  refine wpAnyH_take (i := 1) (v := _) rfl (by kernel_rfl) (by kernel_rfl) (by kernel_rfl) (fun _ _ _ h => h) (Or.inl ⟨by rfl, fun w hSw => by (obtain ⟨s0, s1⟩ := hSw; go_simp; try rfl)⟩) (by assumption) ?_
  refine wpAnyH_take (i := 2) (v := _) rfl (by kernel_rfl) (by kernel_rfl) (by kernel_rfl) (fun _ _ _ h => h) (Or.inl ⟨by rfl, fun w hSw => by (obtain ⟨s0, s1⟩ := hSw; go_simp; try rfl)⟩) (by assumption) ?_
  refine wpAnyH_take (i := 3) (v := _) rfl (by kernel_rfl) (by kernel_rfl) (by kernel_rfl) (fun _ _ _ h => h) (Or.inl ⟨by rfl, fun w hSw => by (obtain ⟨s0, s1⟩ := hSw; go_simp; try rfl)⟩) (by assumption) ?_
  refine wpAnyH_take (i := 4) (v := _) rfl (by kernel_rfl) (by kernel_rfl) (by kernel_rfl) (fun _ _ _ h => h) (Or.inl ⟨by rfl, fun w hSw => by (obtain ⟨s0, s1⟩ := hSw; go_simp; try rfl)⟩) (by assumption) ?_
  refine wpAnyH_take (i := 6) (v := _) rfl (by kernel_rfl) (by kernel_rfl) (by kernel_rfl) (fun _ _ _ h => h) (Or.inl ⟨by rfl, fun w hSw => by (obtain ⟨s0, s1⟩ := hSw; go_simp; try rfl)⟩) (by assumption) ?_
  refine wpAnyH_take (i := 11) (v := _) rfl (by kernel_rfl) (by kernel_rfl) (by kernel_rfl) (fun _ _ _ h => h) (Or.inl ⟨by rfl, fun w hSw => by (obtain ⟨s0, s1⟩ := hSw; go_simp; try rfl)⟩) (by assumption) ?_
  refine wpAnyH_take (i := 13) (v := _) rfl (by kernel_rfl) (by kernel_rfl) (by kernel_rfl) (fun _ _ _ h => h) (Or.inl ⟨by rfl, fun w hSw => by (obtain ⟨s0, s1⟩ := hSw; go_simp; try rfl)⟩) (by assumption) ?_
  refine wpAnyH_ready (rs := [5]) (by kernel_rfl) (by simp) ?_
  refine AllReadyH.cons rfl (fun K hK => ?_) AllReadyH.nil
  go_simp
  refine (HBS.out _ g4 c4 (HR4.out.drewN 1)).mono ?_
  rintro e w5 ⟨g5, c5, rfl, o5, b5⟩
  have B5 := hbd.trans (b5.mono hbd.size)
  have hs5 := HSC.out _ _ _ _ o5
  have HR5 := Lib.hid ((HR4.out.drewN 1).below b5)
  clear b5
  refine hK.out _ _ (HKC.out w5 B5) (fun hHeld => ?_)
  clear hK K
  refine wpAnyH_mono (S' := fun W : World => W.cell? ⟨b, off + i, none⟩ = some (.slice (some ⟨b0, off0, none⟩) 8 c0) ∧ W.cell? ⟨b0, off0 + s, none⟩ = some (.int .i64 x) ∧ W.cell? ⟨g5, i, none⟩ = some (.int .i64 (s : Int))) (fun _ h => ⟨h.1, h.2.1⟩) _ _ _ _ ?_
  have hHeld := (⟨(HKC.out w5 B5).1, (HKC.out w5 B5).2, hs5⟩ : (fun W : World => W.cell? ⟨b, off + i, none⟩ = some (.slice (some ⟨b0, off0, none⟩) 8 c0) ∧ W.cell? ⟨b0, off0 + s, none⟩ = some (.int .i64 x) ∧ W.cell? ⟨g5, i, none⟩ = some (.int .i64 (s : Int))) w5)
  refine wpAnyH_take (i := 7) (v := _) rfl (by kernel_rfl) (by kernel_rfl) (by kernel_rfl) (fun _ _ _ h => h) (Or.inl ⟨by rfl, fun w hSw => by (obtain ⟨s0, s1, s2⟩ := hSw; go_simp; try rfl)⟩) (by assumption) ?_
  refine wpAnyH_take (i := 8) (v := _) rfl (by kernel_rfl) (by kernel_rfl) (by kernel_rfl) (fun _ _ _ h => h) (Or.inl ⟨by rfl, fun w hSw => by (obtain ⟨s0, s1, s2⟩ := hSw; go_simp; try rfl)⟩) (by assumption) ?_
  refine wpAnyH_take (i := 9) (v := _) rfl (by kernel_rfl) (by kernel_rfl) (by kernel_rfl) (fun _ _ _ h => h) (Or.inl ⟨by rfl, fun w hSw => by (obtain ⟨s0, s1, s2⟩ := hSw; go_simp; try rfl)⟩) (by assumption) ?_
  refine wpAnyH_take (i := 10) (v := _) rfl (by kernel_rfl) (by kernel_rfl) (by kernel_rfl) (fun _ _ _ h => h) (Or.inl ⟨by rfl, fun w hSw => by (obtain ⟨s0, s1, s2⟩ := hSw; go_simp; try rfl)⟩) (by assumption) ?_
  refine wpAnyH_ready (rs := [12]) (by kernel_rfl) (by simp) ?_
  refine AllReadyH.cons rfl (fun K hK => ?_) AllReadyH.nil
  go_simp
  refine (HPV.out _ g4 c4 HR5.out).mono ?_
  rintro e w6 ⟨g6, c6, rfl, o6, b6⟩
  have B6 := B5.trans (b6.mono B5.size)
  have hs6 := HSC.out _ _ _ _ (o5.below b6)
  have hp6 := HPC.out _ _ _ _ o6
  clear b6
  refine hK.out _ _ ⟨(HKC.out w6 B6).1, (HKC.out w6 B6).2, hs6⟩ (fun hHeld => ?_)
  clear hK K
  refine wpAnyH_mono (S' := fun W : World => W.cell? ⟨b, off + i, none⟩ = some (.slice (some ⟨b0, off0, none⟩) 8 c0) ∧ W.cell? ⟨b0, off0 + s, none⟩ = some (.int .i64 x) ∧ W.cell? ⟨g5, i, none⟩ = some (.int .i64 (s : Int)) ∧ W.cell? ⟨g6, i, none⟩ = some (.int .i64 y)) (fun _ h => ⟨h.1, h.2.1, h.2.2.1⟩) _ _ _ _ ?_
  have hHeld := (⟨(HKC.out w6 B6).1, (HKC.out w6 B6).2, hs6, hp6⟩ : (fun W : World => W.cell? ⟨b, off + i, none⟩ = some (.slice (some ⟨b0, off0, none⟩) 8 c0) ∧ W.cell? ⟨b0, off0 + s, none⟩ = some (.int .i64 x) ∧ W.cell? ⟨g5, i, none⟩ = some (.int .i64 (s : Int)) ∧ W.cell? ⟨g6, i, none⟩ = some (.int .i64 y)) w6)
  refine wpAnyH_take (i := 14) (v := _) rfl (by kernel_rfl) (by kernel_rfl) (by kernel_rfl) (fun _ _ _ h => h) (Or.inl ⟨by rfl, fun w hSw => by (obtain ⟨s0, s1, s2, s3⟩ := hSw; go_simp; try rfl)⟩) (by assumption) ?_
  refine wpAnyH_take (i := 15) (v := _) rfl (by kernel_rfl) (by kernel_rfl) (by kernel_rfl) (fun _ _ _ h => h) (Or.inl ⟨by rfl, fun w hSw => by (obtain ⟨s0, s1, s2, s3⟩ := hSw; go_simp; try rfl)⟩) (by assumption) ?_
  refine wpAnyH_take (i := 16) (v := _) rfl (by kernel_rfl) (by kernel_rfl) (by kernel_rfl) (fun _ _ _ h => h) (Or.inl ⟨by rfl, fun w hSw => by (obtain ⟨s0, s1, s2, s3⟩ := hSw; go_simp; try rfl)⟩) (by assumption) ?_
  refine wpAnyH_ready (rs := [17]) (by kernel_rfl) (by simp) ?_
  refine AllReadyH.cons rfl (fun K hK => ?_) AllReadyH.nil
  go_simp
  refine hK.out _ _ hHeld (fun hHeld => ?_)
  clear hK K
  refine wpAnyH_ready (rs := [18]) (by kernel_rfl) (by simp) ?_
  refine AllReadyH.cons rfl (fun K hK => ?_) AllReadyH.nil
  go_simp
  refine hK.out _ _ hHeld (fun hHeld => ?_)
  clear hK K
  refine wpAnyH_done (by kernel_rfl) (NoPanic.normal ?_) _
  go_wp2
  go_ret2
  exact ⟨rfl, B6⟩

end Go.Proofs.Ytdbpjlconbifpaa
