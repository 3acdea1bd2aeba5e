/-
  Chapter 2: the law of VirtualRevenue.
-/
import Derived.Test.YtoipjhdnmiomeaaDk
namespace Go.Proofs.Ytoipjhdnmiomeaa
open Go.RowKit

set_option maxRecDepth 100000 in
set_option maxHeartbeats 6000000 in
theorem fnVirtualRevenue_walk {A : Option Addr} {c : Nat} {xs : List Int} {w : World} (h : Came .u8 w A c xs) :
    Calls Try.prog 8 #[.slice A xs.length c] w fun e w' => e = .returned (.bool true) ∧ Below w.heap.size w w' := by
  by_cases hlen : 1048576 < xs.length
  · go_enter Try.func8, Try.ntmps8
    go_wp2
    go_ret
    exact ⟨rfl, Below.refl _ _⟩
  have hl0 : xs.length ≤ 1048576 := by omega
  clear hlen
  go_enter Try.func8, Try.ntmps8
  go_wp2_with fail
  refine (DrawVirtualRevenue_any A c xs w h).mono ?_
  rintro e w1 ⟨A1, c1, ys, n, r, rfl, hrd, hcc, hy, _, _, _, _, B1⟩
  have hy1 : ys.length ≤ 1048576 := by omega
  clear h hl0
  cases hc : crowdB ys n r with
  | false =>
    have HI := Lib.hid (fun w h => VirtualRevenue_any A1 c1 ys n r w h hcc hy1)
    have HS := Lib.hid (fun w h => SVirtualRevenue_any A1 c1 ys n r w h hy1)
    have e1 : virtR ys n r = .tuple #[frV 0 0, .bool false] := by unfold virtR; rw [hc]; rfl
    rw [e1] at HI HS
    clear hc e1
    go_wp2_with fail
    refine (HI.out _ hrd).mono ?_
    rintro e w2 ⟨rfl, b2⟩
    unfold frV
    have hk2 := PairAt.new (w := w2) (x := 0) (y := 0)
    have hr2 := (hrd.below b2).below (below_al w2 (.cells #[.int .i64 0, .int .i64 0] 30))
    have B2 := below_up (B1.trans (b2.mono B1.size)) (below_al w2 (.cells #[.int .i64 0, .int .i64 0] 30))
    go_wp2_with fail
    refine (HS.out _ hr2).mono ?_
    rintro e w3 ⟨rfl, b3⟩
    have hk3 := (hk2.below b3).old (.cells #[.int .i64 0, .int .i64 0] 30)
    have hd3 := PairAt.new (w := w3) (x := 0) (y := 0)
    have hr3 := (hr2.below b3).below (below_al w3 (.cells #[.int .i64 0, .int .i64 0] 30))
    have B3 := below_up (below_up B2 b3) (below_al w3 (.cells #[.int .i64 0, .int .i64 0] 30))
    obtain ⟨c0, c1', f0, f1⟩ := hk3.facts
    obtain ⟨c2, c3, f2, f3⟩ := hd3.facts
    unfold frV
    go_wp2
    go_ret
    exact ⟨rfl, B3⟩
  | true =>
    obtain ⟨hv, hn, hr⟩ := crowd_yes hc
    obtain ⟨n0, n1⟩ := inR_true.1 hn
    obtain ⟨r0, r1⟩ := inR_true.1 hr
    obtain ⟨m, rfl⟩ := Int.eq_ofNat_of_zero_le (show 0 ≤ n by omega)
    obtain ⟨k, rfl⟩ := Int.eq_ofNat_of_zero_le r0
    have hm1 : 1 ≤ m := by omega
    have hm3 : m ≤ 3 := by omega
    obtain ⟨l1, l2⟩ := vW_le hv
    have hpl := bestG_lt ys ys.length l1
    obtain ⟨P, hP⟩ : ∃ P : Nat, P = bestG ys ys.length := ⟨_, rfl⟩
    have hP6 : P ≤ 6 := by omega
    have hk6 : k ≤ 6 := by omega
    obtain ⟨E, hE⟩ : ∃ E, E = edgeV ys m k := ⟨_, rfl⟩
    obtain ⟨G, hG⟩ : ∃ G, G = edgeV ys m (P : Int) := ⟨_, rfl⟩
    obtain ⟨R, hR⟩ : ∃ R, R = revW ys k := ⟨_, rfl⟩
    obtain ⟨Q, hQ⟩ : ∃ Q, Q = revW ys P := ⟨_, rfl⟩
    have HI := Lib.hid (fun w h => VR_yes A1 c1 ys m k E w hE h hv hm1 hm3 (by omega) (by omega) hcc hy1)
    have HS := Lib.hid (fun w h => SVR_yes A1 c1 ys m k E w hE h hv hm1 hm3 (by omega) (by omega) hy1)
    have HO : Hid (∀ w, Rd w A1 c1 ys → Calls Try.prog 35 #[.slice A1 ys.length c1, .int .i64 1, .int .i64 k] w (AnsIs w (.tuple #[frV R 1, .bool true]))) :=
      Lib.hid (fun w h => VR_yes A1 c1 ys 1 k R w (by rw [hR, edge_one hv]) h hv (by omega) (by omega) (by omega) (by omega) hcc hy1)
    have HA := Lib.hid (fun w h => VR_yes A1 c1 ys m P G w hG h hv hm1 hm3 (by omega) (by omega) hcc hy1)
    have HBP : Hid (∀ w, Rd w A1 c1 ys → Calls Try.prog 20 #[.slice A1 ys.length c1] w fun e w' => e = .returned (.int .i64 P) ∧ w = w') := Lib.hid (fun w h => by
      have e : bestP ys = (P : Int) := by unfold bestP; rw [hv, hP]; rfl
      exact e ▸ BestPrice_any A1 c1 ys w h hcc hy1)
    have HRV : Hid (∀ w, Rd w A1 c1 ys → Calls Try.prog 16 #[.slice A1 ys.length c1, .int .i64 k] w fun e w' => e = .returned (.int .i64 R) ∧ w = w') := Lib.hid (fun w h => by
      have e : revF ys (k : Int) = R := by rw [revF_yes hv hk6, hR]
      exact e ▸ RevenueAt_any A1 c1 ys k w h hcc hy1)
    have HRP : Hid (∀ w, Rd w A1 c1 ys → Calls Try.prog 16 #[.slice A1 ys.length c1, .int .i64 P] w fun e w' => e = .returned (.int .i64 Q) ∧ w = w') := Lib.hid (fun w h => by
      have e : revF ys (P : Int) = Q := by rw [revF_yes hv hP6, hQ]
      exact e ▸ RevenueAt_any A1 c1 ys P w h hcc hy1)
    obtain ⟨R0, R1⟩ := rev_bd (vW_valid hv) hk6
    rw [← hR] at R0 R1
    have HFR := Lib.hid (show FrIs (fq R 1) R 1 by rw [fq_one]; exact FrIs.int R)
    have g0 : 0 ≤ G := by rw [hG]; exact (edgeV_nn hv hm1 hm3 (by omega)).1
    have g1 : Q ≤ G := by rw [hQ, hG, ← edge_one hv]; exact edge_one_le hv hm1 hm3 (by omega)
    have hge0 : decide (0 ≤ G) = true := by simpa using g0
    have hge1 : decide (Q ≤ G) = true := by simpa using g1
    clear hc hv hn hr hE hG hP hR hQ hpl g0 g1
    go_wp2_with fail
    refine (HI.out _ hrd).mono ?_
    rintro e w2 ⟨rfl, b2⟩
    unfold frV
    have hk2 := PairAt.new (w := w2) (x := E) (y := 1)
    have hr2 := (hrd.below b2).below (below_al w2 (.cells #[.int .i64 E, .int .i64 1] 30))
    have B2 := below_up (B1.trans (b2.mono B1.size)) (below_al w2 (.cells #[.int .i64 E, .int .i64 1] 30))
    go_wp2_with fail
    refine (HS.out _ hr2).mono ?_
    rintro e w3 ⟨rfl, b3⟩
    have hk3 := (hk2.below b3).old (.cells #[.int .i64 E, .int .i64 1] 30)
    have hd3 := PairAt.new (w := w3) (x := E) (y := 1)
    have hr3 := (hr2.below b3).below (below_al w3 (.cells #[.int .i64 E, .int .i64 1] 30))
    have B3 := below_up (below_up B2 b3) (below_al w3 (.cells #[.int .i64 E, .int .i64 1] 30))
    obtain ⟨c0, c1', f0, f1⟩ := hk3.facts
    obtain ⟨c2, c3, f2, f3⟩ := hd3.facts
    unfold frV
    go_wp2_with fail
    refine (HO.out _ hr3).mono ?_
    rintro e w4 ⟨rfl, b4⟩
    unfold frV
    have hk4 := (hk3.below b4).old (.cells #[.int .i64 R, .int .i64 1] 30)
    have hd4 := PairAt.new (w := w4) (x := R) (y := 1)
    have hr4 := (hr3.below b4).below (below_al w4 (.cells #[.int .i64 R, .int .i64 1] 30))
    have B4 := below_up (below_up B3 b4) (below_al w4 (.cells #[.int .i64 R, .int .i64 1] 30))
    clear hk2 hk3 hd3 c0 c1' f0 f1 c2 c3 f2 f3
    go_wp2_with fail
    refine (HBP.out _ hr4).mono ?_
    rintro e w4' ⟨rfl, rfl⟩
    go_wp2_with fail
    refine (HA.out _ hr4).mono ?_
    rintro e w5 ⟨rfl, b5⟩
    unfold frV
    have hk5 := (hk4.below b5).old (.cells #[.int .i64 G, .int .i64 1] 30)
    have hd5 := (hd4.below b5).old (.cells #[.int .i64 G, .int .i64 1] 30)
    have ha5 := PairAt.new (w := w5) (x := G) (y := 1)
    have hr5 := (hr4.below b5).below (below_al w5 (.cells #[.int .i64 G, .int .i64 1] 30))
    have B5 := below_up (below_up B4 b5) (below_al w5 (.cells #[.int .i64 G, .int .i64 1] 30))
    obtain ⟨wz, hwz⟩ : ∃ wz, wz = w5.alloc (.cells #[.int .i64 G, .int .i64 1] 30) := ⟨_, rfl⟩
    rw [← hwz] at hk5 hd5 ha5 hr5 B5
    obtain ⟨c0, c1', f0, f1⟩ := hk5.facts
    obtain ⟨c2, c3, f2, f3⟩ := hd5.facts
    obtain ⟨c4, c5, f4, f5⟩ := ha5.facts
    have BZ := Lib.hid (fun wa wb (hb : Below wa.heap.size wa wb) (ha : Below wz.heap.size wz wa) => show Below wz.heap.size wz wb from below_up ha hb)
    have FZ := Lib.hid (fun wb (hb : Below wz.heap.size wz wb) => show wb.cell? ⟨w2.heap.size, 1, none⟩ = some (.int .i64 1) ∧ wb.cell? ⟨w4.heap.size, 0, none⟩ = some (.int .i64 R) ∧ wb.cell? ⟨w4.heap.size, 1, none⟩ = some (.int .i64 1) ∧ wb.cell? ⟨w5.heap.size, 0, none⟩ = some (.int .i64 G) from
      ⟨(hk5.below hb).facts.2.1, (hd5.below hb).facts.1, (hd5.below hb).facts.2.1, (ha5.below hb).facts.1⟩)
    have hz0 : Below wz.heap.size wz wz.drew := (Below.refl _ wz).drew
    go_wp2_with fail
    rw [← hwz]
    clear hwz
    go_region_held3 (fun w' => w'.cell? ⟨w2.heap.size, 1, none⟩ = some (.int .i64 1) ∧ w'.cell? ⟨w4.heap.size, 0, none⟩ = some (.int .i64 R) ∧ w'.cell? ⟨w4.heap.size, 1, none⟩ = some (.int .i64 1) ∧ w'.cell? ⟨w5.heap.size, 0, none⟩ = some (.int .i64 G))
      (first | exact FZ.out _ hz0 | exact FZ.out _ z5)
      (first
      | (go_at_call_of 16 (Value.int IntKind.i64 (k : Int)); refine (HRV.out _ ?_).mono ?_; exact hr5; rintro e w' ⟨rfl, rfl⟩)
      | (go_at_call 27; refine (LfracOf_any R 1 R 1 _ HFR.out (by decide) (by omega) (by omega) (by decide)).mono ?_; rintro e w6 ⟨rfl, b6⟩; have z5 := BZ.out _ _ b6 hz0; unfold frV)
      | (go_at_call_of 16 (Value.int IntKind.i64 (P : Int)); refine (HRP.out _ ?_).mono ?_; exact hr5.below z5; rintro e w' ⟨rfl, rfl⟩))
    all_goals
      go_wp2
      go_ret
      exact ⟨rfl, B5.trans (z5.mono B5.size)⟩

end Go.Proofs.Ytoipjhdnmiomeaa
