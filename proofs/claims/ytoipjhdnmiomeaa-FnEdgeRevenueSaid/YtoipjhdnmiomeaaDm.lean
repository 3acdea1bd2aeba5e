/-
  Chapter 2: the law of EdgeRevenue.
-/
import Derived.Test.YtoipjhdnmiomeaaDl
namespace Go.Proofs.Ytoipjhdnmiomeaa
open Go.RowKit

set_option maxRecDepth 100000 in
set_option maxHeartbeats 6000000 in
theorem fnEdgeRevenue_walk {A : Option Addr} {c : Nat} {xs : List Int} {w : World} (h : Came .u8 w A c xs) :
    Calls Try.prog 7 #[.slice A xs.length c] w fun e w' => e = .returned (.bool true) ∧ Below w.heap.size w w' := by
  by_cases hlen : 1048576 < xs.length
  · go_enter Try.func7, Try.ntmps7
    go_wp2
    go_ret
    exact ⟨rfl, Below.refl _ _⟩
  have hl0 : xs.length ≤ 1048576 := by omega
  clear hlen
  go_enter Try.func7, Try.ntmps7
  go_wp2_with fail
  refine (DrawEdgeRevenue_any A c xs w h).mono ?_
  rintro e w1 ⟨A1, c1, ys, n, r, rfl, hrd, hcc, hy, _, _, _, _, B1⟩
  have hy1 : ys.length ≤ 1048576 := by omega
  clear h hl0
  cases hc : crowdB ys n r with
  | false =>
    have HI := Lib.hid (fun w h => EdgeRevenue_any A1 c1 ys n r w h hy1)
    have HS := Lib.hid (fun w h => SEdgeRevenue_any A1 c1 ys n r w h hy1)
    have e2 : edgeO ys n r = -1 := by unfold edgeO; rw [hc]; rfl
    rw [e2] at HI HS
    clear hc e2
    go_wp2_with fail
    refine (HI.out _ hrd).mono ?_
    rintro e w2 ⟨rfl, b2⟩
    have hr2 := hrd.below b2
    go_wp2_with fail
    refine (HS.out _ hr2).mono ?_
    rintro e w3 ⟨rfl, b3⟩
    have hr3 := hr2.below b3
    go_wp2_with fail
    refine (HS.out _ hr3).mono ?_
    rintro e w4 ⟨rfl, b4⟩
    go_wp2
    go_ret
    exact ⟨rfl, below_up (below_up (B1.trans (b2.mono B1.size)) b3) b4⟩
  | true =>
    obtain ⟨hv, hn, hr⟩ := crowd_yes hc
    obtain ⟨n0, n1⟩ := inR_true.1 hn
    obtain ⟨r0, r1⟩ := inR_true.1 hr
    obtain ⟨m, rfl⟩ := Int.eq_ofNat_of_zero_le (show 0 ≤ n by omega)
    have hm1 : 1 ≤ m := by omega
    have hm3 : m ≤ 3 := by omega
    obtain ⟨l1, l2⟩ := vW_le hv
    have hpl := bestG_lt ys ys.length l1
    obtain ⟨P, hP⟩ : ∃ P : Nat, P = bestG ys ys.length := ⟨_, rfl⟩
    have hP6 : P ≤ 6 := by omega
    obtain ⟨E, hE⟩ : ∃ E, E = edgeV ys m r := ⟨_, rfl⟩
    obtain ⟨F, hF⟩ : ∃ F, F = edgeV ys m (P : Int) := ⟨_, rfl⟩
    obtain ⟨E0, E1⟩ : 0 ≤ E ∧ E ≤ 279936 := by rw [hE]; exact edgeV_nn hv hm1 hm3 r0
    obtain ⟨F0, F1⟩ : 0 ≤ F ∧ F ≤ 279936 := by rw [hF]; exact edgeV_nn hv hm1 hm3 (by omega)
    have HI := Lib.hid (fun w h => ER_yes A1 c1 ys m r E w hE h hv hm1 hm3 r0 r1 hy1)
    have HS := Lib.hid (fun w h => SER_yes A1 c1 ys m r E w hE h hv hm1 hm3 r0 r1 hy1)
    have HV := Lib.hid (fun w h => VR_yes A1 c1 ys m r E w hE h hv hm1 hm3 r0 r1 hcc hy1)
    have HM := Lib.hid (fun w h => ER_yes A1 c1 ys m P F w hF h hv hm1 hm3 (by omega) (by omega) hy1)
    have HBP : Hid (∀ w, Rd w A1 c1 ys → Calls Try.prog 20 #[.slice A1 ys.length c1] w fun e w' => e = .returned (.int .i64 P) ∧ w = w') := Lib.hid (fun w h => by
      have e : bestP ys = (P : Int) := by unfold bestP; rw [hv, hP]; rfl
      exact e ▸ BestPrice_any A1 c1 ys w h hcc hy1)
    have HRG := Lib.hid (fun w h => IsRegular_any A1 c1 ys w h hcc hy1)
    have HFE := Lib.hid (show FrIs (fq E 1) E 1 by rw [fq_one]; exact FrIs.int E)
    have HFF := Lib.hid (show FrIs (fq F 1) F 1 by rw [fq_one]; exact FrIs.int F)
    have hne : (E != E) = false := by simp
    have hlt0 : decide (E < 0) = false := by simp; omega
    cases hrg : regB ys with
    | false =>
      obtain ⟨bx, hbx⟩ : ∃ x, x = (sumV ys (ironG ys) m).num := ⟨_, rfl⟩
      obtain ⟨by', hby⟩ : ∃ y, y = ((sumV ys (ironG ys) m).den : Int) := ⟨_, rfl⟩
      have hb : FrIs (sumV ys (ironG ys) m) bx by' := ⟨hbx, hby⟩
      have HB := Lib.hid (fun w h => BR_yes A1 c1 ys m bx by' w hb h hv hm1 hm3 hcc hy1)
      obtain ⟨Db, hdb⟩ := iron_ok (n := m) hv hm3
      obtain ⟨b0, b1, b2', b3'⟩ := sumV_bd hv hm1 hm3 hdb hb
      have HLL := Lib.hid (show lessF bx by' E 1 = false by rw [lessF_is hb (FrIs.int E)]; exact decide_eq_false (Rat.not_lt.2 (by rw [hE]; exact edge_best hv hm1 hm3 r0)))
      obtain ⟨p1, p2⟩ := mul_bd (show -279936 ≤ E by omega) E1 b2' b3' (by omega)
      rw [hrg] at HRG
      clear hc hv hn hr hE hF hP hpl hbx hby hb hdb hrg
      go_wp2_with fail
      refine (HI.out _ hrd).mono ?_
      rintro e w2 ⟨rfl, b2⟩
      have hr2 := hrd.below b2
      have B2 := B1.trans (b2.mono B1.size)
      go_wp2_with fail
      refine (HS.out _ hr2).mono ?_
      rintro e w3 ⟨rfl, b3⟩
      have hr3 := hr2.below b3
      have B3 := below_up B2 b3
      go_wp2_with fail
      refine (HV.out _ hr3).mono ?_
      rintro e w4 ⟨rfl, b4⟩
      unfold frV
      have hd4 := PairAt.new (w := w4) (x := E) (y := 1)
      have hr4 := (hr3.below b4).below (below_al w4 (.cells #[.int .i64 E, .int .i64 1] 30))
      have B4 := below_up (below_up B3 b4) (below_al w4 (.cells #[.int .i64 E, .int .i64 1] 30))
      go_wp2_with fail
      refine (HB.out _ hr4).mono ?_
      rintro e w5 ⟨rfl, b5⟩
      unfold frV
      have hk5 := (hd4.below b5).old (.cells #[.int .i64 bx, .int .i64 by'] 30)
      have hd5 := PairAt.new (w := w5) (x := bx) (y := by')
      have hr5a := (hr4.below b5).below (below_al w5 (.cells #[.int .i64 bx, .int .i64 by'] 30))
      have B5a := below_up (below_up B4 b5) (below_al w5 (.cells #[.int .i64 bx, .int .i64 by'] 30))
      go_wp2_with fail
      refine (HBP.out _ hr5a).mono ?_
      rintro e w5' ⟨rfl, rfl⟩
      go_wp2_with fail
      refine (HM.out _ hr5a).mono ?_
      rintro e wz ⟨rfl, bz⟩
      have hkz := hk5.below bz
      have hdz := hd5.below bz
      have hr5 := hr5a.below bz
      have B5 := below_up B5a bz
      clear hk5 hd5 hr5a B5a hd4 hr4 B4
      obtain ⟨c0, c1', f0, f1⟩ := hkz.facts
      obtain ⟨c2, c3, f2, f3⟩ := hdz.facts
      have BZ := Lib.hid (fun wa wb (hb : Below wa.heap.size wa wb) (ha : Below wz.heap.size wz wa) => show Below wz.heap.size wz wb from below_up ha hb)
      have FZ := Lib.hid (fun wb (hb : Below wz.heap.size wz wb) => show wb.cell? ⟨w4.heap.size, 0, none⟩ = some (.int .i64 E) ∧ wb.cell? ⟨w4.heap.size, 1, none⟩ = some (.int .i64 1) ∧ wb.cell? ⟨w5.heap.size, 0, none⟩ = some (.int .i64 bx) ∧ wb.cell? ⟨w5.heap.size, 1, none⟩ = some (.int .i64 by') from
        ⟨(hkz.below hb).facts.1, (hkz.below hb).facts.2.1, (hdz.below hb).facts.1, (hdz.below hb).facts.2.1⟩)
      have hz0 : Below wz.heap.size wz wz.drew := (Below.refl _ wz).drew
      go_wp2_with fail
      refine wp_region_noPanic ?_
      refine wp_region_held_drew (S := (fun w' : World => w'.cell? ⟨w4.heap.size, 0, none⟩ = some (.int .i64 E) ∧ w'.cell? ⟨w4.heap.size, 1, none⟩ = some (.int .i64 1) ∧ w'.cell? ⟨w5.heap.size, 0, none⟩ = some (.int .i64 bx) ∧ w'.cell? ⟨w5.heap.size, 1, none⟩ = some (.int .i64 by'))) (by kernel_rfl) (FZ.out _ hz0) (fun hHeld => ?_)
      refine wpAnyH_take (i := 0) (v := _) rfl (by kernel_rfl) (by kernel_rfl) (by kernel_rfl) (fun _ _ _ h => h) (Or.inl ⟨by rfl, fun w hSw => by (obtain ⟨s0, s1, s2, s3⟩ := hSw; go_simp; rfl)⟩) (by assumption) ?_
      refine wpAnyH_take (i := 1) (v := _) rfl (by kernel_rfl) (by kernel_rfl) (by kernel_rfl) (fun _ _ _ h => h) (Or.inl ⟨by rfl, fun w hSw => by (obtain ⟨s0, s1, s2, s3⟩ := hSw; go_simp; rfl)⟩) (by assumption) ?_
      refine wpAnyH_take (i := 2) (v := _) rfl (by kernel_rfl) (by kernel_rfl) (by kernel_rfl) (fun _ _ _ h => h) (Or.inl ⟨by rfl, fun w hSw => by (obtain ⟨s0, s1, s2, s3⟩ := hSw; go_simp; rfl)⟩) (by assumption) ?_
      refine wpAnyH_take (i := 3) (v := _) rfl (by kernel_rfl) (by kernel_rfl) (by kernel_rfl) (fun _ _ _ h => h) (Or.inl ⟨by rfl, fun w hSw => by (obtain ⟨s0, s1, s2, s3⟩ := hSw; go_simp; rfl)⟩) (by assumption) ?_
      refine wpAnyH_ready (rs := [4]) (by kernel_rfl) (by simp) ?_
      refine AllReadyH.cons rfl (fun K hK => ?_) AllReadyH.nil
      go_simp
      refine (LfracOf_any E 1 E 1 _ HFE.out (by decide) (by omega) (by omega) (by decide)).mono ?_
      rintro e w6 ⟨rfl, b6⟩
      have z5 : Below wz.heap.size wz w6 := BZ.out _ _ b6 hz0
      unfold frV
      refine hK.out _ _ (FZ.out _ z5) (fun hHeld => ?_)
      clear hK K
      refine wpAnyH_take (i := 5) (v := _) rfl (by kernel_rfl) (by kernel_rfl) (by kernel_rfl) (fun _ _ _ h => h) (Or.inl ⟨by rfl, fun w hSw => by (obtain ⟨s0, s1, s2, s3⟩ := hSw; go_simp; rfl)⟩) (by assumption) ?_
      refine wpAnyH_take (i := 6) (v := _) rfl (by kernel_rfl) (by kernel_rfl) (by kernel_rfl) (fun _ _ _ h => h) (Or.inl ⟨by rfl, fun w hSw => by (obtain ⟨s0, s1, s2, s3⟩ := hSw; go_simp; rfl)⟩) (by assumption) ?_
      refine wpAnyH_take (i := 7) (v := _) rfl (by kernel_rfl) (by kernel_rfl) (by kernel_rfl) (fun _ _ _ h => h) (Or.inl ⟨by rfl, fun w hSw => by (obtain ⟨s0, s1, s2, s3⟩ := hSw; go_simp; rfl)⟩) (by assumption) ?_
      refine wpAnyH_take (i := 8) (v := _) rfl (by kernel_rfl) (by kernel_rfl) (by kernel_rfl) (fun _ _ _ h => h) (Or.inl ⟨by rfl, fun w hSw => by (obtain ⟨s0, s1, s2, s3⟩ := hSw; go_simp; rfl)⟩) (by assumption) ?_
      refine wpAnyH_take (i := 9) (v := _) rfl (by kernel_rfl) (by kernel_rfl) (by kernel_rfl) (fun _ _ _ h => h) (Or.inl ⟨by rfl, fun w hSw => by (obtain ⟨s0, s1, s2, s3⟩ := hSw; go_simp; rfl)⟩) (by assumption) ?_
      refine wpAnyH_take (i := 10) (v := _) rfl (by kernel_rfl) (by kernel_rfl) (by kernel_rfl) (fun _ _ _ h => h) (Or.inl ⟨by rfl, fun w hSw => by (obtain ⟨s0, s1, s2, s3⟩ := hSw; go_simp; rfl)⟩) (by assumption) ?_
      refine wpAnyH_take (i := 11) (v := _) rfl (by kernel_rfl) (by kernel_rfl) (by kernel_rfl) (fun _ _ _ h => h) (Or.inl ⟨by rfl, fun w hSw => by (obtain ⟨s0, s1, s2, s3⟩ := hSw; go_simp; rfl)⟩) (by assumption) ?_
      refine wpAnyH_take (i := 12) (v := _) rfl (by kernel_rfl) (by kernel_rfl) (by kernel_rfl) (fun _ _ _ h => h) (Or.inl ⟨by rfl, fun w hSw => by (obtain ⟨s0, s1, s2, s3⟩ := hSw; go_simp; rfl)⟩) (by assumption) ?_
      refine wpAnyH_ready (rs := [13]) (by kernel_rfl) (by simp) ?_
      refine AllReadyH.cons rfl (fun K hK => ?_) AllReadyH.nil
      go_simp
      refine (LfracOf_any E 1 E 1 _ HFE.out (by decide) (by omega) (by omega) (by decide)).mono ?_
      rintro e w6 ⟨rfl, b6⟩
      have z5 : Below wz.heap.size wz w6 := BZ.out _ _ b6 z5
      unfold frV
      refine hK.out _ _ (FZ.out _ z5) (fun hHeld => ?_)
      clear hK K
      refine wpAnyH_ready (rs := [14]) (by kernel_rfl) (by simp) ?_
      refine AllReadyH.cons rfl (fun K hK => ?_) AllReadyH.nil
      go_simp
      refine (lessOf_any bx by' E 1 false _ HLL.out (by omega) (by omega) (by omega) (by omega)).mono ?_
      rintro e w6 ⟨rfl, b6⟩
      have z5 : Below wz.heap.size wz w6 := BZ.out _ _ b6 z5
      refine hK.out _ _ (FZ.out _ z5) (fun hHeld => ?_)
      clear hK K
      refine wpAnyH_take (i := 15) (v := _) rfl (by kernel_rfl) (by kernel_rfl) (by kernel_rfl) (fun _ _ _ h => h) (Or.inl ⟨by rfl, fun w hSw => by (obtain ⟨s0, s1, s2, s3⟩ := hSw; go_simp; rfl)⟩) (by assumption) ?_
      refine wpAnyH_take (i := 16) (v := _) rfl (by kernel_rfl) (by kernel_rfl) (by kernel_rfl) (fun _ _ _ h => h) (Or.inl ⟨by rfl, fun w hSw => by (obtain ⟨s0, s1, s2, s3⟩ := hSw; go_simp; rfl)⟩) (by assumption) ?_
      refine wpAnyH_take (i := 17) (v := _) rfl (by kernel_rfl) (by kernel_rfl) (by kernel_rfl) (fun _ _ _ h => h) (Or.inl ⟨by rfl, fun w hSw => by (obtain ⟨s0, s1, s2, s3⟩ := hSw; go_simp; rfl)⟩) (by assumption) ?_
      refine wpAnyH_take (i := 18) (v := _) rfl (by kernel_rfl) (by kernel_rfl) (by kernel_rfl) (fun _ _ _ h => h) (Or.inl ⟨by rfl, fun w hSw => by (obtain ⟨s0, s1, s2, s3⟩ := hSw; go_simp; rfl)⟩) (by assumption) ?_
      refine wpAnyH_ready (rs := [19]) (by kernel_rfl) (by simp) ?_
      refine AllReadyH.cons rfl (fun K hK => ?_) AllReadyH.nil
      go_simp
      refine (HRG.out _ ?_).mono ?_
      · exact hr5.below z5
      rintro e w6 ⟨rfl, b6⟩
      have z5 : Below wz.heap.size wz w6 := BZ.out _ _ b6 z5
      refine hK.out _ _ (FZ.out _ z5) (fun hHeld => ?_)
      clear hK K
      refine wpAnyH_take (i := 20) (v := _) rfl (by kernel_rfl) (by kernel_rfl) (by kernel_rfl) (fun _ _ _ h => h) (Or.inl ⟨by rfl, fun w hSw => by (obtain ⟨s0, s1, s2, s3⟩ := hSw; go_simp; rfl)⟩) (by assumption) ?_
      refine wpAnyH_take (i := 21) (v := _) rfl (by kernel_rfl) (by kernel_rfl) (by kernel_rfl) (fun _ _ _ h => h) (Or.inl ⟨by rfl, fun w hSw => by (obtain ⟨s0, s1, s2, s3⟩ := hSw; go_simp; rfl)⟩) (by assumption) ?_
      refine wpAnyH_take (i := 22) (v := _) rfl (by kernel_rfl) (by kernel_rfl) (by kernel_rfl) (fun _ _ _ h => h) (Or.inr ⟨by rfl, rfl⟩) (by assumption) ?_
      refine wpAnyH_take (i := 23) (v := _) rfl (by kernel_rfl) (by kernel_rfl) (by kernel_rfl) (fun _ _ _ h => h) (Or.inr ⟨by rfl, rfl⟩) (by assumption) ?_
      refine wpAnyH_take (i := 24) (v := _) rfl (by kernel_rfl) (by kernel_rfl) (by kernel_rfl) (fun _ _ _ h => h) (Or.inr ⟨by rfl, rfl⟩) (by assumption) ?_
      refine wpAnyH_take (i := 25) (v := _) rfl (by kernel_rfl) (by kernel_rfl) (by kernel_rfl) (fun _ _ _ h => h) (Or.inr ⟨by rfl, rfl⟩) (by assumption) ?_
      refine wpAnyH_ready (rs := [26]) (by kernel_rfl) (by simp) ?_
      refine AllReadyH.cons rfl (fun K hK => ?_) AllReadyH.nil
      go_simp
      refine hK.out _ _ (FZ.out _ z5) (fun hHeld => ?_)
      clear hK K
      refine wpAnyH_ready (rs := [27]) (by kernel_rfl) (by simp) ?_
      refine AllReadyH.cons rfl (fun K hK => ?_) AllReadyH.nil
      go_simp
      refine hK.out _ _ (FZ.out _ z5) (fun hHeld => ?_)
      clear hK K
      refine wpAnyH_ready (rs := [28]) (by kernel_rfl) (by simp) ?_
      refine AllReadyH.cons rfl (fun K hK => ?_) AllReadyH.nil
      go_simp
      refine hK.out _ _ (FZ.out _ z5) (fun hHeld => ?_)
      clear hK K
      refine wpAnyH_done (by kernel_rfl) (NoPanic.normal ?_) _
      go_wp2
      go_ret
      exact ⟨rfl, B5.trans (z5.mono B5.size)⟩
    | true =>
      have hb : FrIs (sumV ys (ironG ys) m) F 1 := by rw [best_reg hrg hv hm1 hm3, hF, hP]; exact FrIs.int _
      have HB := Lib.hid (fun w h => BR_yes A1 c1 ys m F 1 w hb h hv hm1 hm3 hcc hy1)
      have HLL := Lib.hid (show lessF F 1 E 1 = false by rw [lessF_is hb (FrIs.int E)]; exact decide_eq_false (Rat.not_lt.2 (by rw [hE]; exact edge_best hv hm1 hm3 r0)))
      rw [hrg] at HRG
      clear hc hv hn hr hE hF hP hpl hb hrg
      go_wp2_with fail
      refine (HI.out _ hrd).mono ?_
      rintro e w2 ⟨rfl, b2⟩
      have hr2 := hrd.below b2
      have B2 := B1.trans (b2.mono B1.size)
      go_wp2_with fail
      refine (HS.out _ hr2).mono ?_
      rintro e w3 ⟨rfl, b3⟩
      have hr3 := hr2.below b3
      have B3 := below_up B2 b3
      go_wp2_with fail
      refine (HV.out _ hr3).mono ?_
      rintro e w4 ⟨rfl, b4⟩
      unfold frV
      have hd4 := PairAt.new (w := w4) (x := E) (y := 1)
      have hr4 := (hr3.below b4).below (below_al w4 (.cells #[.int .i64 E, .int .i64 1] 30))
      have B4 := below_up (below_up B3 b4) (below_al w4 (.cells #[.int .i64 E, .int .i64 1] 30))
      go_wp2_with fail
      refine (HB.out _ hr4).mono ?_
      rintro e w5 ⟨rfl, b5⟩
      unfold frV
      have hk5 := (hd4.below b5).old (.cells #[.int .i64 F, .int .i64 1] 30)
      have hd5 := PairAt.new (w := w5) (x := F) (y := 1)
      have hr5a := (hr4.below b5).below (below_al w5 (.cells #[.int .i64 F, .int .i64 1] 30))
      have B5a := below_up (below_up B4 b5) (below_al w5 (.cells #[.int .i64 F, .int .i64 1] 30))
      go_wp2_with fail
      refine (HBP.out _ hr5a).mono ?_
      rintro e w5' ⟨rfl, rfl⟩
      go_wp2_with fail
      refine (HM.out _ hr5a).mono ?_
      rintro e wz ⟨rfl, bz⟩
      have hkz := hk5.below bz
      have hdz := hd5.below bz
      have hr5 := hr5a.below bz
      have B5 := below_up B5a bz
      clear hk5 hd5 hr5a B5a hd4 hr4 B4
      obtain ⟨c0, c1', f0, f1⟩ := hkz.facts
      obtain ⟨c2, c3, f2, f3⟩ := hdz.facts
      have BZ := Lib.hid (fun wa wb (hb : Below wa.heap.size wa wb) (ha : Below wz.heap.size wz wa) => show Below wz.heap.size wz wb from below_up ha hb)
      have FZ := Lib.hid (fun wb (hb : Below wz.heap.size wz wb) => show wb.cell? ⟨w4.heap.size, 0, none⟩ = some (.int .i64 E) ∧ wb.cell? ⟨w4.heap.size, 1, none⟩ = some (.int .i64 1) ∧ wb.cell? ⟨w5.heap.size, 0, none⟩ = some (.int .i64 F) ∧ wb.cell? ⟨w5.heap.size, 1, none⟩ = some (.int .i64 1) from
        ⟨(hkz.below hb).facts.1, (hkz.below hb).facts.2.1, (hdz.below hb).facts.1, (hdz.below hb).facts.2.1⟩)
      have hz0 : Below wz.heap.size wz wz.drew := (Below.refl _ wz).drew
      go_wp2_with fail
      first
      | (go_region_held3 (fun w' => w'.cell? ⟨w4.heap.size, 0, none⟩ = some (.int .i64 E) ∧ w'.cell? ⟨w4.heap.size, 1, none⟩ = some (.int .i64 1) ∧ w'.cell? ⟨w5.heap.size, 0, none⟩ = some (.int .i64 F) ∧ w'.cell? ⟨w5.heap.size, 1, none⟩ = some (.int .i64 1))
        (first | exact FZ.out _ z5 | exact FZ.out _ hz0)
        (first
        | (go_at_call_of 27 (Value.int IntKind.i64 F); refine (LfracOf_any F 1 F 1 _ HFF.out (by decide) (by omega) (by omega) (by decide)).mono ?_; rintro e w6 ⟨rfl, b6⟩; have z5 : Below wz.heap.size wz w6 := BZ.out _ _ b6 z5; unfold frV)
        | (go_at_call 27; refine (LfracOf_any E 1 E 1 _ HFE.out (by decide) (by omega) (by omega) (by decide)).mono ?_; rintro e w6 ⟨rfl, b6⟩; have z5 : Below wz.heap.size wz w6 := (by first | exact BZ.out _ _ b6 z5 | exact BZ.out _ _ b6 hz0); unfold frV)
        | (go_at_call 26; refine (lessOf_any F 1 E 1 false _ HLL.out (by omega) (by omega) (by omega) (by omega)).mono ?_; rintro e w6 ⟨rfl, b6⟩; have z5 : Below wz.heap.size wz w6 := BZ.out _ _ b6 z5)
        | (go_at_call 31; refine (HRG.out _ ?_).mono ?_; exact hr5.below z5; rintro e w6 ⟨rfl, b6⟩; have z5 : Below wz.heap.size wz w6 := BZ.out _ _ b6 z5)))
      all_goals
        go_wp2
        go_ret
        exact ⟨rfl, B5.trans (z5.mono B5.size)⟩
end Go.Proofs.Ytoipjhdnmiomeaa
