/-
  Chapter 2: the law of BestRevenue, of VirtualRevenue and of EdgeRevenue.
-/
import Derived.Test.YtoipjhdnmiomeaaDj
import Derived.Deep.RegionHeld3
namespace Go.Proofs.Ytoipjhdnmiomeaa
open Go.RowKit

set_option maxRecDepth 100000 in
set_option maxHeartbeats 6000000 in
theorem fnBestRevenue_walk {A : Option Addr} {c : Nat} {xs : List Int} {w : World} (h : Came .u8 w A c xs) :
    Calls Try.prog 9 #[.slice A xs.length c] w fun e w' => e = .returned (.bool true) ∧ Below w.heap.size w w' := by
  by_cases hlen : 1048576 < xs.length
  · go_enter Try.func9, Try.ntmps9
    go_wp2
    go_ret
    exact ⟨rfl, Below.refl _ _⟩
  have hl0 : xs.length ≤ 1048576 := by omega
  clear hlen
  go_enter Try.func9, Try.ntmps9
  go_wp2_with fail
  refine (DrawBestRevenue_any A c xs w h).mono ?_
  rintro e w1 ⟨A1, c1, ys, n, rfl, hrd, hcc, hy, hn0, hn7, B1⟩
  have hy1 : ys.length ≤ 1048576 := by omega
  clear h hl0
  cases hc : crowdB ys n 0 with
  | false =>
    have HI := Lib.hid (fun w h => BestRevenue_any A1 c1 ys n w h hcc hy1)
    have HS := Lib.hid (fun w h => SBestRevenue_any A1 c1 ys n w h hy1)
    have e1 : bestR ys n = .tuple #[frV 0 0, .bool false] := by unfold bestR; rw [hc]; rfl
    rw [e1] at HI HS
    clear hc e1
    go_wp2_with fail
    refine (HI.out _ hrd).mono ?_
    rintro e w2 ⟨rfl, b2⟩
    unfold frV
    have hk2 := PairAt.new (w := w2) (x := 0) (y := 0)
    have hr2 := (hrd.below b2).below (below_al w2 (.cells #[.int .i64 0, .int .i64 0] 30))
    have B2 := below_up (B1.trans (b2.mono B1.size)) (below_al w2 (.cells #[.int .i64 0, .int .i64 0] 30))
    go_wp2_with fail
    refine (HS.out _ hr2).mono ?_
    rintro e w3 ⟨rfl, b3⟩
    have hk3 := (hk2.below b3).old (.cells #[.int .i64 0, .int .i64 0] 30)
    have hd3 := PairAt.new (w := w3) (x := 0) (y := 0)
    have hr3 := (hr2.below b3).below (below_al w3 (.cells #[.int .i64 0, .int .i64 0] 30))
    have B3 := below_up (below_up B2 b3) (below_al w3 (.cells #[.int .i64 0, .int .i64 0] 30))
    obtain ⟨c0, c1', f0, f1⟩ := hk3.facts
    obtain ⟨c2, c3, f2, f3⟩ := hd3.facts
    unfold frV
    go_wp2
    go_ret
    exact ⟨rfl, B3⟩
  | true =>
    obtain ⟨hv, hn, _⟩ := crowd_yes hc
    obtain ⟨n0, n1⟩ := inR_true.1 hn
    obtain ⟨m, rfl⟩ := Int.eq_ofNat_of_zero_le (show 0 ≤ n by omega)
    have hm1 : 1 ≤ m := by omega
    have hm3 : m ≤ 3 := by omega
    obtain ⟨l1, l2⟩ := vW_le hv
    have hpl := bestG_lt ys ys.length l1
    obtain ⟨ax, hax⟩ : ∃ x, x = (sumV ys (ironG ys) m).num := ⟨_, rfl⟩
    obtain ⟨ay, hay⟩ : ∃ y, y = ((sumV ys (ironG ys) m).den : Int) := ⟨_, rfl⟩
    have ha : FrIs (sumV ys (ironG ys) m) ax ay := ⟨hax, hay⟩
    obtain ⟨P, hP⟩ : ∃ P : Nat, P = bestG ys ys.length := ⟨_, rfl⟩
    obtain ⟨R, hR⟩ : ∃ R, R = revW ys P := ⟨_, rfl⟩
    have hP6 : P ≤ 6 := by omega
    have ho : FrIs (sumV ys (ironG ys) 1) R 1 := by rw [best_one hv, hR, hP]; exact FrIs.int _
    have HI := Lib.hid (fun w h => BR_yes A1 c1 ys m ax ay w ha h hv hm1 hm3 hcc hy1)
    have HS := Lib.hid (fun w h => SBR_yes A1 c1 ys m ax ay w ha h hv hm1 hm3 hy1)
    have HO : Hid (∀ w, Rd w A1 c1 ys → Calls Try.prog 36 #[.slice A1 ys.length c1, .int .i64 1] w (AnsIs w (.tuple #[frV R 1, .bool true]))) := Lib.hid (fun w h => BR_yes A1 c1 ys 1 R 1 w ho h hv (by omega) (by omega) hcc hy1)
    have HBP : Hid (∀ w, Rd w A1 c1 ys → Calls Try.prog 20 #[.slice A1 ys.length c1] w fun e w' => e = .returned (.int .i64 P) ∧ w = w') := Lib.hid (fun w h => by
      have e : bestP ys = (P : Int) := by unfold bestP; rw [hv, hP]; rfl
      exact e ▸ BestPrice_any A1 c1 ys w h hcc hy1)
    have HRV : Hid (∀ w, Rd w A1 c1 ys → Calls Try.prog 16 #[.slice A1 ys.length c1, .int .i64 P] w fun e w' => e = .returned (.int .i64 R) ∧ w = w') := Lib.hid (fun w h => by
      have e : revF ys (P : Int) = R := by rw [revF_yes hv hP6, hR]
      exact e ▸ RevenueAt_any A1 c1 ys P w h hcc hy1)
    obtain ⟨R0, R1⟩ := rev_bd (vW_valid hv) hP6
    rw [← hR] at R0 R1
    obtain ⟨Da, hda⟩ := iron_ok (n := m) hv hm3
    obtain ⟨a0, a1, a2, a3⟩ := sumV_bd hv hm1 hm3 hda ha
    have HLL := Lib.hid (show lessF ax ay R 1 = false by rw [lessF_is ha ho]; exact decide_eq_false (Rat.not_lt.2 (best_one_le hv hm1 hm3)))
    have HFR := Lib.hid (show FrIs (fq R 1) R 1 by rw [fq_one]; exact FrIs.int R)
    obtain ⟨p1, p2⟩ := mul_bd (show -216 ≤ R by omega) R1 a2 a3 (by omega)
    have hR1 : R * 1 = R := by omega
    clear hc hv hn hax hay ha ho hP hR hda hpl hR1
    go_wp2_with fail
    refine (HI.out _ hrd).mono ?_
    rintro e w2 ⟨rfl, b2⟩
    unfold frV
    have hk2 := PairAt.new (w := w2) (x := ax) (y := ay)
    have hr2 := (hrd.below b2).below (below_al w2 (.cells #[.int .i64 ax, .int .i64 ay] 30))
    have B2 := below_up (B1.trans (b2.mono B1.size)) (below_al w2 (.cells #[.int .i64 ax, .int .i64 ay] 30))
    go_wp2_with fail
    refine (HS.out _ hr2).mono ?_
    rintro e w3 ⟨rfl, b3⟩
    have hk3 := (hk2.below b3).old (.cells #[.int .i64 ax, .int .i64 ay] 30)
    have hd3 := PairAt.new (w := w3) (x := ax) (y := ay)
    have hr3 := (hr2.below b3).below (below_al w3 (.cells #[.int .i64 ax, .int .i64 ay] 30))
    have B3 := below_up (below_up B2 b3) (below_al w3 (.cells #[.int .i64 ax, .int .i64 ay] 30))
    obtain ⟨c0, c1', f0, f1⟩ := hk3.facts
    obtain ⟨c2, c3, f2, f3⟩ := hd3.facts
    unfold frV
    go_wp2_with fail
    refine (HO.out _ hr3).mono ?_
    rintro e w4 ⟨rfl, b4⟩
    unfold frV
    have hk4 := (hk3.below b4).old (.cells #[.int .i64 R, .int .i64 1] 30)
    have hd4 := PairAt.new (w := w4) (x := R) (y := 1)
    have hr4 := (hr3.below b4).below (below_al w4 (.cells #[.int .i64 R, .int .i64 1] 30))
    have B4 := below_up (below_up B3 b4) (below_al w4 (.cells #[.int .i64 R, .int .i64 1] 30))
    clear hk2 hk3 hd3 c0 c1' f0 f1 c2 c3 f2 f3
    obtain ⟨wz, hwz⟩ : ∃ wz, wz = w4.alloc (.cells #[.int .i64 R, .int .i64 1] 30) := ⟨_, rfl⟩
    rw [← hwz] at hk4 hd4 hr4 B4
    obtain ⟨c0, c1', f0, f1⟩ := hk4.facts
    obtain ⟨c2, c3, f2, f3⟩ := hd4.facts
    have BZ := Lib.hid (fun wa wb (hb : Below wa.heap.size wa wb) (ha : Below wz.heap.size wz wa) => show Below wz.heap.size wz wb from below_up ha hb)
    have FZ := Lib.hid (fun wb (hb : Below wz.heap.size wz wb) => show wb.cell? ⟨w2.heap.size, 0, none⟩ = some (.int .i64 ax) ∧ wb.cell? ⟨w2.heap.size, 1, none⟩ = some (.int .i64 ay) ∧ wb.cell? ⟨w4.heap.size, 0, none⟩ = some (.int .i64 R) ∧ wb.cell? ⟨w4.heap.size, 1, none⟩ = some (.int .i64 1) from
      ⟨(hk4.below hb).facts.1, (hk4.below hb).facts.2.1, (hd4.below hb).facts.1, (hd4.below hb).facts.2.1⟩)
    have hz0 : Below wz.heap.size wz wz.drew := (Below.refl _ wz).drew
    go_wp2_with fail
    rw [← hwz]
    clear hwz
    go_region_held3 (fun w' => w'.cell? ⟨w2.heap.size, 0, none⟩ = some (.int .i64 ax) ∧ w'.cell? ⟨w2.heap.size, 1, none⟩ = some (.int .i64 ay) ∧ w'.cell? ⟨w4.heap.size, 0, none⟩ = some (.int .i64 R) ∧ w'.cell? ⟨w4.heap.size, 1, none⟩ = some (.int .i64 1))
      (first | exact FZ.out _ hz0 | exact FZ.out _ z5 | exact FZ.out _ z6)
      (first
      | (go_at_call 20; refine (HBP.out _ ?_).mono ?_; exact hr4; rintro e w' ⟨rfl, rfl⟩)
      | (go_at_call 16; refine (HRV.out _ ?_).mono ?_; exact hr4; rintro e w' ⟨rfl, rfl⟩)
      | (go_at_call 27; refine (LfracOf_any R 1 R 1 _ HFR.out (by decide) (by omega) (by omega) (by decide)).mono ?_; rintro e w5 ⟨rfl, b5⟩; have z5 := BZ.out _ _ b5 hz0; unfold frV)
      | (go_at_call 26; refine (lessOf_any ax ay R 1 false _ HLL.out (by omega) (by omega) (by omega) (by omega)).mono ?_; rintro e w6 ⟨rfl, b6⟩; have z6 := BZ.out _ _ b6 z5))
    all_goals
      go_wp2
      go_ret
      exact ⟨rfl, B4.trans (z6.mono B4.size)⟩

end Go.Proofs.Ytoipjhdnmiomeaa
