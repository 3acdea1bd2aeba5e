/-
  Chapter 2: the law that one bidder more is better than the best price.
-/
import Derived.Test.YtoipjhdnmiomeaaDi
import Derived.Deep.RegionHeld3
namespace Go.Proofs.Ytoipjhdnmiomeaa
open Go.RowKit

set_option maxRecDepth 100000 in
set_option maxHeartbeats 4000000 in
theorem fnOneMoreIsBetter_walk {A : Option Addr} {c : Nat} {xs : List Int} {w : World} (h : Came .u8 w A c xs) :
    Calls Try.prog 11 #[.slice A xs.length c] w fun e w' => e = .returned (.bool true) ∧ Below w.heap.size w w' := by
  by_cases hlen : 1048576 < xs.length
  · go_enter Try.func11, Try.ntmps11
    go_wp2
    go_ret
    exact ⟨rfl, Below.refl _ _⟩
  have hl0 : xs.length ≤ 1048576 := by omega
  clear hlen
  go_enter Try.func11, Try.ntmps11
  go_wp2_with fail
  refine (DrawBestRevenue_any A c xs w h).mono ?_
  rintro e w1 ⟨A1, c1, ys, n, rfl, hrd, hcc, hy, hn0, hn7, B1⟩
  have hy1 : ys.length ≤ 1048576 := by omega
  clear h hl0
  cases hc : crowdB ys n 0 with
  | false =>
    have HI := Lib.hid (fun w h => BestRevenue_any A1 c1 ys n w h hcc hy1)
    have HS := Lib.hid (fun w h => SBestRevenue_any A1 c1 ys n w h hy1)
    have HM := Lib.hid (fun w h => EdgeRevenue_any A1 c1 ys (n + 1) 0 w h hy1)
    have e1 : bestR ys n = .tuple #[frV 0 0, .bool false] := by unfold bestR; rw [hc]; rfl
    rw [e1] at HI HS
    clear hc e1
    go_wp2_with fail
    refine (HI.out _ hrd).mono ?_
    rintro e w2 ⟨rfl, b2⟩
    unfold frV
    have hk2 := PairAt.new (w := w2) (x := 0) (y := 0)
    have hr2 := (hrd.below b2).below (below_al w2 (.cells #[.int .i64 0, .int .i64 0] 30))
    have B2 := below_up (B1.trans (b2.mono B1.size)) (below_al w2 (.cells #[.int .i64 0, .int .i64 0] 30))
    go_wp2_with fail
    refine (HS.out _ hr2).mono ?_
    rintro e w3 ⟨rfl, b3⟩
    have hk3 := (hk2.below b3).old (.cells #[.int .i64 0, .int .i64 0] 30)
    have hd3 := PairAt.new (w := w3) (x := 0) (y := 0)
    have hr3 := (hr2.below b3).below (below_al w3 (.cells #[.int .i64 0, .int .i64 0] 30))
    have B3 := below_up (below_up B2 b3) (below_al w3 (.cells #[.int .i64 0, .int .i64 0] 30))
    obtain ⟨c0, c1', f0, f1⟩ := hk3.facts
    obtain ⟨c2, c3, f2, f3⟩ := hd3.facts
    unfold frV
    go_wp2_with fail
    refine (HI.out _ hr3).mono ?_
    rintro e w4 ⟨rfl, b4⟩
    unfold frV
    have hk4 := PairAt.new (w := w4) (x := 0) (y := 0)
    have hr4 := (hr3.below b4).below (below_al w4 (.cells #[.int .i64 0, .int .i64 0] 30))
    have B4 := below_up (below_up B3 b4) (below_al w4 (.cells #[.int .i64 0, .int .i64 0] 30))
    clear hk2 hk3 hd3 c0 c1' f0 f1 c2 c3 f2 f3
    go_wp2_with fail
    refine (HM.out _ hr4).mono ?_
    rintro e w5 ⟨rfl, b5⟩
    have hr5 := hr4.below b5
    have B5 := below_up B4 b5
    have hk5 := hk4.below b5
    go_wp2
    go_ret
    exact ⟨rfl, B5⟩
  | true =>
    obtain ⟨hv, hn, _⟩ := crowd_yes hc
    obtain ⟨n0, n1⟩ := inR_true.1 hn
    obtain ⟨m, rfl⟩ := Int.eq_ofNat_of_zero_le (show 0 ≤ n by omega)
    have hm1 : 1 ≤ m := by omega
    have hm3 : m ≤ 3 := by omega
    obtain ⟨ax, hax⟩ : ∃ x, x = (sumV ys (ironG ys) m).num := ⟨_, rfl⟩
    obtain ⟨ay, hay⟩ : ∃ y, y = ((sumV ys (ironG ys) m).den : Int) := ⟨_, rfl⟩
    have ha : FrIs (sumV ys (ironG ys) m) ax ay := ⟨hax, hay⟩
    have HI := Lib.hid (fun w h => BR_yes A1 c1 ys m ax ay w ha h hv hm1 hm3 hcc hy1)
    have HS := Lib.hid (fun w h => SBR_yes A1 c1 ys m ax ay w ha h hv hm1 hm3 hy1)
    have HRG := Lib.hid (fun w h => IsRegular_any A1 c1 ys w h hcc hy1)
    obtain ⟨F, hF⟩ : ∃ F, F = if m + 1 ≤ 3 then edgeV ys (m + 1) 0 else -1 := ⟨_, rfl⟩
    have HM : Hid (∀ w, Rd w A1 c1 ys → Calls Try.prog 33 #[.slice A1 ys.length c1, .int .i64 ((m : Int) + 1), .int .i64 0] w (AnsIs w (.int .i64 F))) := Lib.hid (fun w h => by
      by_cases hm : m + 1 ≤ 3
      · rw [hF, if_pos hm]
        exact ER_yes A1 c1 ys (m + 1) 0 _ w rfl h hv (by omega) hm (by omega) (by omega) hy1
      · have e : edgeO ys ((m : Int) + 1) 0 = -1 := by
          unfold edgeO crowdB
          rw [show inR ((m : Int) + 1) 1 3 = false from inR_false.2 (by omega)]
          simp
        rw [hF, if_neg hm]
        exact e ▸ EdgeRevenue_any A1 c1 ys ((m : Int) + 1) 0 w h hy1)
    obtain ⟨T, hT⟩ : ∃ T, T = tailW ys 0 := ⟨_, rfl⟩
    obtain ⟨T0, T1⟩ : 1 ≤ T ∧ T ≤ 36 := by rw [hT]; exact total_bd hv
    have HTT := Lib.hid (fun w h => total_any A1 c1 ys w h hy1 (vW_small hv))
    rw [← hT] at HTT
    obtain ⟨Da, hda⟩ := iron_ok (n := m) hv hm3
    obtain ⟨a0, a1, a2, a3⟩ := sumV_bd hv hm1 hm3 hda ha
    obtain ⟨p3, p4⟩ := mul_bd a0 a1 T0 T1 (by omega)
    rw [Int.mul_comm ax T] at p3 p4
    have HF := Lib.hid (fun (h0 : 0 ≤ F) (hrg : regB ys = true) => show T * ax ≤ F * ay ∧ F ≤ 279936 by
      have hm : m + 1 ≤ 3 := by
        by_cases hm : m + 1 ≤ 3
        · exact hm
        · rw [hF, if_neg hm] at h0; omega
      rw [hF, if_pos hm]
      refine ⟨?_, (edgeV_nn hv (by omega) hm (by omega)).2⟩
      have k := fr_times_le (t := T) ha (FrIs.int (edgeV ys (m + 1) 0)) (by rw [hT]; exact one_more hrg hv hm1 hm)
      rw [Int.mul_one] at k
      exact k)
    clear hc hv hn hax hay ha hF hT hda
    go_wp2_with fail
    refine (HI.out _ hrd).mono ?_
    rintro e w2 ⟨rfl, b2⟩
    unfold frV
    have hk2 := PairAt.new (w := w2) (x := ax) (y := ay)
    have hr2 := (hrd.below b2).below (below_al w2 (.cells #[.int .i64 ax, .int .i64 ay] 30))
    have B2 := below_up (B1.trans (b2.mono B1.size)) (below_al w2 (.cells #[.int .i64 ax, .int .i64 ay] 30))
    go_wp2_with fail
    refine (HS.out _ hr2).mono ?_
    rintro e w3 ⟨rfl, b3⟩
    have hk3 := (hk2.below b3).old (.cells #[.int .i64 ax, .int .i64 ay] 30)
    have hd3 := PairAt.new (w := w3) (x := ax) (y := ay)
    have hr3 := (hr2.below b3).below (below_al w3 (.cells #[.int .i64 ax, .int .i64 ay] 30))
    have B3 := below_up (below_up B2 b3) (below_al w3 (.cells #[.int .i64 ax, .int .i64 ay] 30))
    obtain ⟨c0, c1', f0, f1⟩ := hk3.facts
    obtain ⟨c2, c3, f2, f3⟩ := hd3.facts
    unfold frV
    go_wp2_with fail
    refine (HI.out _ hr3).mono ?_
    rintro e w4 ⟨rfl, b4⟩
    unfold frV
    have hk4 := PairAt.new (w := w4) (x := ax) (y := ay)
    have hr4 := (hr3.below b4).below (below_al w4 (.cells #[.int .i64 ax, .int .i64 ay] 30))
    have B4 := below_up (below_up B3 b4) (below_al w4 (.cells #[.int .i64 ax, .int .i64 ay] 30))
    clear hk2 hk3 hd3 c0 c1' f0 f1 c2 c3 f2 f3
    go_wp2_with fail
    refine (HM.out _ hr4).mono ?_
    rintro e w5 ⟨rfl, b5⟩
    have hr5 := hr4.below b5
    have B5 := below_up B4 b5
    have hk5 := hk4.below b5
    by_cases hF0 : F < 0
    · go_wp2
      go_ret
      exact ⟨rfl, B5⟩
    · cases hrg : regB ys with
      | false =>
        have hlt : decide (F < 0) = false := by simpa using hF0
        rw [hrg] at HRG
        clear hrg hF0
        go_wp2_with fail
        refine (HRG.out _ hr5).mono ?_
        rintro e w6 ⟨rfl, b6⟩
        go_wp2
        go_ret
        exact ⟨rfl, below_up B5 b6⟩
      | true =>
        obtain ⟨k1, k2⟩ := HF.out (by omega) hrg
        have hlt : decide (F < 0) = false := by simpa using hF0
        have hge : decide (T * ax ≤ F * ay) = true := by simpa using k1
        obtain ⟨p1, p2⟩ := mul_bd (show -279936 ≤ F by omega) k2 a2 a3 (by omega)
        have e1 : IntKind.i64.wrap (F * ay) = F * ay := IntWalk.i64_in _ (by omega)
        have e2 : IntKind.i64.wrap (T * ax) = T * ax := IntWalk.i64_in _ (by omega)
        rw [hrg] at HRG
        clear hrg hF0 k1 HF
        go_wp2_with fail
        refine (HRG.out _ hr5).mono ?_
        rintro e w6 ⟨rfl, b6⟩
        have hk6 := hk5.below b6
        have hr6 := hr5.below b6
        have B6 := below_up B5 b6
        obtain ⟨c0, c1', f0, f1⟩ := hk6.facts
        go_wp2_with fail
        first
          | (go_region_held3 (fun w' => w'.cell? ⟨w4.heap.size, 0, none⟩ = some (.int .i64 ax) ∧ w'.cell? ⟨w4.heap.size, 1, none⟩ = some (.int .i64 ay))
              (first | exact ⟨c0, c1'⟩ | assumption)
              (first | (go_at_call 41; refine (HTT.out _ ?_).mono ?_; exact hr6; rintro e w' ⟨rfl, rfl⟩))
             go_wp2
             go_ret
             exact ⟨rfl, B6.drew⟩)
          | (refine (HTT.out _ hr6).mono ?_
             rintro e w7 ⟨rfl, rfl⟩
             go_wp2
             go_ret
             exact ⟨rfl, B6⟩)
end Go.Proofs.Ytoipjhdnmiomeaa
