/-
  Chapter 5, the model: GainAsTwo; both sides.
-/
import Derived.Test.YtfjncipekjnbjaaZn
namespace Go.Proofs.Ytfjncipekjnbjaa
open Go.RowKit

set_option maxHeartbeats 2000000 in
theorem SGainAsTwo_yes (A U V : Option Addr) (c d f i : Nat) (ts : List (List Int)) (ta tb : List Int) (w : World) (hR : RdR w A c ts) (hT : Rd w U d ta) (hTd : ta.length ≤ d) (hT2 : Rd w V f tb) (hTf : tb.length ≤ f) (hl2 : ∀ r ∈ ts, r.length ≤ 1099511627776) (hv : VTs ts) (hi : i < ts.length) (h3 : ts.length ≤ 3) (ht : VT ta) (ht2 : VT tb) :
    Calls Try.prog 16 #[.slice A ts.length c, .int .i64 i, .slice U ta.length d, .slice V tb.length f] w (GnIs w (gwF ts i ta tb) true) := by
  have h1l : 1 ≤ ts.length := hv.1.1
  have HC := Lib.hid (SvalidTables_any A c ts w hR (by omega) hl2)
  rw [vtsB_true hv] at HC
  have hIR := fun w1 => inRange_any (i : Int) 0 ((ts.length : Int) - 1) w1
  rw [inR_true.2 (by omega)] at hIR
  have HIR := Lib.hid hIR
  have e1 : IntKind.i64.wrap ((ts.length : Int) - 1) = (ts.length : Int) - 1 := IntWalk.i64_in _ (by omega)
  have HVT := Lib.hid (fun (W : World) (hW : Below w.heap.size w W) => SvalidTable_any U d ta W (hT.below hW) (by have := ht.1; omega))
  rw [vt_true ht] at HVT
  have HVT2 := Lib.hid (fun (W : World) (hW : Below w.heap.size w W) => SvalidTable_any V f tb W (hT2.below hW) (by have := ht2.1; omega))
  rw [vt_true ht2] at HVT2
  obtain ⟨b, off, rfl, hcapR, hrows⟩ := hR.open_ h1l
  have HSB := Lib.hid (fun (W : World) (hW : Below w.heap.size w W) => SwithTable_any b off c i ts.length d ta.length U ts ta W rfl rfl (hR.below hW) (hT.below hW) hTd hi (by omega))
  obtain ⟨A0, c0, hc0, hcap0, hrd0⟩ := hrows i _ (List.getElem?_eq_getElem hi)
  obtain ⟨r, hr⟩ : ∃ r, r = ts[i] := ⟨_, rfl⟩
  rw [← hr] at hc0 hcap0 hrd0
  have hgd : ts.getD i [] = r := by rw [List.getD_eq_getElem?_getD, List.getElem?_eq_getElem hi, hr]; rfl
  have hrt : VT r := by rw [hr]; exact hv.2 _ (List.getElem_mem hi)
  obtain ⟨b0, off0, rfl⟩ := hrd0.some_ hrt.1
  rw [hrt.1] at hc0
  have hsl : (saidF ts i ta tb).length = ts.length + 1 := by simp [saidF]
  have hsv : VTs (saidF ts i ta tb) := (hv.set_ i ht).snoc (by simpa using h3) ht2
  obtain ⟨os, hos⟩ : ∃ os, os = wayF (saidF ts i ta tb) := ⟨_, rfl⟩
  obtain ⟨s, hs⟩ : ∃ s, s = setOf os i := ⟨_, rfl⟩
  obtain ⟨q, hq⟩ : ∃ q, q = setOf os ts.length := ⟨_, rfl⟩
  have hs8 : s < 8 := by rw [hs]; exact setOf_lt _ _
  have hq8 : q < 8 := by rw [hq]; exact setOf_lt _ _
  have hu8 : s ||| q < 8 := Nat.or_lt_two_pow (n := 3) hs8 hq8
  have hor := or_nat hs8 hq8
  obtain ⟨u, hu⟩ : ∃ u, u = s ||| q := ⟨_, rfl⟩
  rw [← hu] at hu8 hor
  obtain ⟨b3, o3, x, hA3, hblx, hx, hcx0⟩ := hrd0.at_ (k := u) (by rw [hrt.1]; exact hu8)
  cases hA3
  have hxe := T_of hx.out
  have hxb := hrt.bd hu8
  rw [hxe] at hxb
  obtain ⟨y, hy⟩ : ∃ y, y = pvF (saidF ts i ta tb) i := ⟨_, rfl⟩
  obtain ⟨z, hz⟩ : ∃ z, z = pvF (saidF ts i ta tb) ts.length := ⟨_, rfl⟩
  have hyb := pv_bd hsv.2 hsv.1.2 (i := i) (by omega)
  have hzb := pv_bd hsv.2 hsv.1.2 (i := ts.length) (by omega)
  rw [← hy] at hyb
  rw [← hz] at hzb
  have hx0 := hxb.1
  have hx1 := hxb.2
  have hy0 := hyb.1
  have hy1 := hyb.2
  have hz0 := hzb.1
  have hz1 := hzb.2
  have e2 : IntKind.i64.wrap (x - y) = x - y := IntWalk.i64_in _ (by omega)
  have e3 : IntKind.i64.wrap (x - y - z) = x - y - z := IntWalk.i64_in _ (by omega)
  have HE : Hid (gwF ts i ta tb = x - y - z) := Lib.hid (by
    unfold gwF
    rw [hgd, ← hos]
    simp only [hasOf, paidOf, List.foldl_cons, List.foldl_nil, Nat.zero_or, Int.zero_add]
    rw [← hs, ← hq, ← hu, ← hy, ← hz, hxe]; omega)
  have HBS := Lib.hid (fun (W : World) (g5 c5 : Nat) (h : RdR W (some ⟨g5, 0, none⟩) c5 (saidF ts i ta tb)) => SbestSplit_any (some ⟨g5, 0, none⟩) c5 (ts.length + 1) (saidF ts i ta tb) W h hsv hsl)
  rw [← hos] at HBS
  have HPV := Lib.hid (fun (W : World) (g5 c5 : Nat) (h : RdR W (some ⟨g5, 0, none⟩) c5 (saidF ts i ta tb)) => Spivot_any (some ⟨g5, 0, none⟩) c5 (ts.length + 1) (saidF ts i ta tb) W hsl h hsv)
  have HSC : Hid (∀ (W : World) (B : Nat) (g c' : Nat), Own W B (some ⟨g, 0, none⟩) c' (setsF os (ts.length + 1)) → W.cell? ⟨g, i, none⟩ = some (.int .i64 (s : Int)) ∧ W.cell? ⟨g, ts.length, none⟩ = some (.int .i64 (q : Int))) := Lib.hid (fun W B g c' h => ⟨h.cell (by rw [setsF_at os (by omega), hs]), h.cell (by rw [setsF_at os (by omega), hq])⟩)
  have HPC : Hid (∀ (W : World) (B : Nat) (g c' : Nat), Own W B (some ⟨g, 0, none⟩) c' (vls (pvF (saidF ts i ta tb)) (ts.length + 1)) → W.cell? ⟨g, i, none⟩ = some (.int .i64 y) ∧ W.cell? ⟨g, ts.length, none⟩ = some (.int .i64 z)) := Lib.hid (fun W B g c' h => ⟨h.cell (by rw [vls_at (by omega), hy]), h.cell (by rw [vls_at (by omega), hz])⟩)
  have HSL : Hid ((ts.set i ta).length = ts.length) := Lib.hid (by simp)
  have HSZ := Lib.hid hsl
  have HR1 : Hid (Row1 w (.slice V tb.length f) tb) := Lib.hid ⟨V, f, rfl, hTf, hT2⟩
  have hblk := World.block_lt_of_cell? w _ hc0
  have HKC := Lib.hid (fun (W : World) (hW : Below w.heap.size w W) => (⟨(hW.cell (p := ⟨b, off + i, none⟩) hblk).trans hc0, (hW.cell (p := ⟨b0, off0 + u, none⟩) hblx).trans hcx0⟩ : W.cell? ⟨b, off + i, none⟩ = some (.slice (some ⟨b0, off0, none⟩) 8 c0) ∧ W.cell? ⟨b0, off0 + u, none⟩ = some (.int .i64 x)))
  have hi0 : (0 : Int) ≤ (i : Int) := by omega
  have hi1 : (i : Int) < (ts.length : Int) := by omega
  have hi2 : (i : Int) < (ts.length : Int) + 1 := by omega
  have hi3 : (ts.length : Int) < (ts.length : Int) + 1 := by omega
  have hs0 : (0 : Int) ≤ (u : Int) := by omega
  have hs7 : (u : Int) < 8 := by omega
  have q4 : ((ts.length : Int) == 4) = false := beq_eq_false_iff_ne.2 (by omega)
  rw [HE.out]
  clear hR hT hT2 hl2 hv ht ht2 hrows hrd0 hr hgd hrt hcap0 hsv hsl hs hq hu hx hxe hxb hy hyb hz hzb hc0 hcx0 hIR hos hTd hTf
  go_enter Try.func16, Try.ntmps16
  go_wp2_with fail
  refine HC.out.mono ?_
  rintro e w1 ⟨rfl, n1, rfl⟩
  go_wp2_with fail
  refine (HIR.out _).mono ?_
  rintro e w2 ⟨rfl, rfl⟩
  have B1 : Below w.heap.size w (w.drewN n1) := below_drewN' (Below.refl _ _) n1
  go_wp2_with fail
  refine (HVT.out _ B1).mono ?_
  rintro e w3 ⟨rfl, n3, rfl⟩
  have B2 : Below w.heap.size w (w.drewN (n1 + n3)) := below_drewN' (Below.refl _ _) (n1 + n3)
  rw [World.drewN_drewN]
  go_wp2_with fail
  refine (HVT2.out _ B2).mono ?_
  rintro e w4 ⟨rfl, n4, rfl⟩
  have B3 : Below w.heap.size w (w.drewN (n1 + n3 + n4)) := below_drewN' (Below.refl _ _) (n1 + n3 + n4)
  rw [World.drewN_drewN]
  obtain ⟨w3, hw3⟩ : ∃ w3, w3 = w.drewN (n1 + n3 + n4) := ⟨_, rfl⟩
  rw [← hw3] at B3 ⊢
  clear hw3 B1 B2
  go_wp2_with fail
  refine (HSB.out w3 B3).mono ?_
  rintro e w4 ⟨g4, c4, vs4, rfl, o4, v4, b4⟩
  have B4 := B3.trans (b4.mono B3.size)
  have hal := (Below.refl w4.heap.size w4).alloc (Nat.le_refl _) (.cells #[.slice V tb.length f] 24)
  have BL := B4.trans (hal.mono B4.size)
  have BL3 := Lib.hid (b4.trans (hal.mono b4.size))
  have o5 := own_len o4 hal
  have HV4 := Lib.hid (v4.more1 (HR1.out.below B3) : RowsV w3 (vs4 ++ [.slice V tb.length f]) (saidF ts i ta tb))
  clear o4 v4 b4
  have hg3 : w3.heap.size ≤ g4 := (World.ownsRow.lt o5 g4 rfl).1
  have hg0 := Nat.le_trans B3.size hg3
  have HGB := Lib.hid (fun (W : World) (hg : (w4.alloc (.cells #[.slice V tb.length f] 24)).grownBy W (some g4)) => (⟨BL.grown hg BL.size (fun k e => by cases e; exact hg0), BL3.out.grown hg BL3.out.size (fun k e => by cases e; exact hg3)⟩ : Below w.heap.size w W ∧ Below w3.heap.size w3 W))
  have HRR := Lib.hid (fun (W : World) (g5 c5 : Nat) (hb : Below w3.heap.size w3 W) (ho : W.ownsRow w3.heap.size 24 1 (.slice (some ⟨g5, 0, none⟩) (ts.length + 1) c5) (ts.length + 1) (vs4 ++ [.slice V tb.length f])) => (rdr_of_own (B := w3.heap.size) (w0 := w3) (rows := saidF ts i ta tb) (by rw [HSZ.out]; exact ho) HV4.out hb : RdR W (some ⟨g5, 0, none⟩) c5 (saidF ts i ta tb)))
  have hbs : w3.heap.size ≤ (w4.alloc (.cells #[.slice V tb.length f] 24)).heap.size := BL3.out.size
  go_wp2_with (at_builtin; refine wpList_append_rows rfl _ _ rfl w3.heap.size g4 c4 ts.length vs4 rfl o5 ⟨w4.heap.size, 0, none⟩ 1 1 [.slice V tb.length f] rfl rfl (cell_row_one w4 _) (by simp [Value.oneCell']) (ts.length + 1) rfl (by omega) hbs ?_; intro g5 c5 w5 o6 g6; obtain ⟨B5, B35⟩ := HGB.out w5 g6; have HR5 := Lib.hid (HRR.out w5 g5 c5 B35 o6))
  refine (HBS.out w5 g5 c5 HR5.out).mono ?_
  rintro e w6 ⟨g6, c6, rfl, o6s, b6⟩
  have HR6 := Lib.hid (HR5.out.below b6)
  have B6 := B5.trans (b6.mono B5.size)
  have HO6 := Lib.hid o6s
  clear o6s b6
  go_wp2_with fail
  refine (HPV.out w6 g5 c5 HR6.out).mono ?_
  rintro e w7 ⟨g7, c7, rfl, o7, b7⟩
  have B7 := B6.trans (b7.mono B6.size)
  obtain ⟨k1, k2⟩ := HKC.out w7 B7
  obtain ⟨k3, k4⟩ := HSC.out _ _ _ _ (HO6.out.below b7)
  obtain ⟨k5, k6⟩ := HPC.out _ _ _ _ o7
  have HB7 := Lib.hid B7
  clear o7 b7 B7
  go_wp2_with fail
  go_quiet (fail)
  go_wp2
  go_ret2
  exact ⟨rfl, below_drewN' HB7.out _⟩

theorem GainAsTwo_both (rows : List (List Int)) (i : Int) (ta tb : List Int) : ∃ (x : Int) (b : Bool), (rows.length ≤ 1099511627776 → (∀ r ∈ rows, r.length ≤ 1099511627776) → ta.length ≤ 1099511627776 → tb.length ≤ 1099511627776 →
    (∀ A T U c d f w, RdR w A c rows → Rd w T d ta → ta.length ≤ d → Rd w U f tb → tb.length ≤ f → Calls Try.prog 16 #[.slice A rows.length c, .int .i64 i, .slice T ta.length d, .slice U tb.length f] w (GnIs w x b)) ∧
    (∀ A T U c d f w, RdR w A c rows → Rd w T d ta → ta.length ≤ d → Rd w U f tb → tb.length ≤ f → Calls Try.prog 15 #[.slice A rows.length c, .int .i64 i, .slice T ta.length d, .slice U tb.length f] w (GnIs w x b))) := by
  by_cases hf : hbB rows i = true ∧ rows.length ≤ 3 ∧ vt ta = true ∧ vt tb = true
  · obtain ⟨hb, h3, ha, hb2⟩ := hf
    rw [hb_iff] at hb
    rw [vt_iff] at ha hb2
    obtain ⟨hv, h0, h1⟩ := hb
    obtain ⟨k, rfl⟩ := Int.eq_ofNat_of_zero_le h0
    have hk : k < rows.length := by omega
    exact ⟨gwF rows k ta tb, true, fun _ hl2 _ _ => ⟨fun A T U c d f w h1 h2 h4 h5 h6 => SGainAsTwo_yes A T U c d f k rows ta tb w h1 h2 h4 h5 h6 hl2 hv hk h3 ha hb2, fun A T U c d f w h1 h2 h4 h5 h6 => GainAsTwo_yes A T U c d f k rows ta tb w h1 h2 h4 h5 h6 hl2 hv hk h3 ha hb2⟩⟩
  · exact ⟨0, false, fun hl hl2 hl3 hl4 => ⟨fun A T U c d f w h1 h2 _ h5 _ => SGainAsTwo_no A T U c d f i rows ta tb w h1 h2 h5 hl hl2 hl3 hl4 hf, fun A T U c d f w h1 h2 _ h5 _ => GainAsTwo_no A T U c d f i rows ta tb w h1 h2 h5 hl hl2 hl3 hl4 hf⟩⟩

end Go.Proofs.Ytfjncipekjnbjaa
