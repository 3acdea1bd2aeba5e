/-
  Chapter 2: the law that more bidders bring more.
-/
import Derived.Test.YtoipjhdnmiomeaaDh
namespace Go.Proofs.Ytoipjhdnmiomeaa
open Go.RowKit

theorem total_any (A : Option Addr) (c : Nat) (xs : List Int) (w : World) (h : Rd w A c xs) (hl : xs.length ≤ 1048576) (hs : Small2 xs) :
    Calls Try.prog 41 #[.slice A xs.length c] w fun e w' => e = .returned (.int .i64 (tailW xs 0)) ∧ w = w' := by
  go_enter Try.func41, Try.ntmps41
  go_wp2
  go_loop [3, 4] (fun s i => ∃ (k : Nat) (t : Int), k ≤ xs.length ∧ i = .int .i64 k ∧ s = .int .i64 t ∧ Hid (t = (xs.take k).sum)) (fun _ i => xs.length - (intOf i).toNat)
  case atStart => exact ⟨0, 0, Nat.zero_le _, rfl, rfl, Lib.hid (by simp)⟩
  case round =>
    obtain ⟨k, t, hk, rfl, rfl, HT⟩ := hrel
    by_cases hlt : k < xs.length
    · obtain ⟨b, off, x, rfl, _, hx, hc⟩ := h.at_ hlt
      have b1 := hs x (List.mem_of_getElem? hx.out)
      have b2 := small_sum hs k
      rw [← HT.out] at b2
      have HT' := Lib.hid (sum_step hx.out)
      rw [← HT.out] at HT'
      go_wp2
      go_round
      case rel => exact ⟨k + 1, _, by omega, by go_num, rfl, Lib.hid HT'.out.symm⟩
      case measure => simp [intOf]; omega
    · obtain rfl : k = xs.length := by omega
      have HE := Lib.hid (show t = tailW xs 0 by rw [HT.out, List.take_length]; rfl)
      go_wp2
      go_ret
      exact ⟨by rw [HE.out]; rfl, rfl⟩

set_option maxRecDepth 100000 in
set_option maxHeartbeats 4000000 in
theorem fnMoreBidsBringMore_walk {A : Option Addr} {c : Nat} {xs : List Int} {w : World} (h : Came .u8 w A c xs) :
    Calls Try.prog 10 #[.slice A xs.length c] w fun e w' => e = .returned (.bool true) ∧ Below w.heap.size w w' := by
  by_cases hlen : 1048576 < xs.length
  · go_enter Try.func10, Try.ntmps10
    go_wp2
    go_ret
    exact ⟨rfl, Below.refl _ _⟩
  have hl0 : xs.length ≤ 1048576 := by omega
  clear hlen
  go_enter Try.func10, Try.ntmps10
  go_wp2_with fail
  refine (DrawEdgeRevenue_any A c xs w h).mono ?_
  rintro e w1 ⟨A1, c1, ys, n, r, rfl, hrd, hcc, hy, hn0, hn7, _, _, B1⟩
  have hy1 : ys.length ≤ 1048576 := by omega
  clear h hl0
  cases hc : crowdB ys n r with
  | false =>
    have HI := Lib.hid (fun w h => EdgeRevenue_any A1 c1 ys n r w h hy1)
    have HS := Lib.hid (fun w h => SEdgeRevenue_any A1 c1 ys n r w h hy1)
    have HM := Lib.hid (fun w h => EdgeRevenue_any A1 c1 ys (n + 1) r w h hy1)
    have e2 : edgeO ys n r = -1 := by unfold edgeO; rw [hc]; rfl
    rw [e2] at HI HS
    clear hc e2
    go_wp2_with fail
    refine (HI.out _ hrd).mono ?_
    rintro e w2 ⟨rfl, b2⟩
    have hr2 := hrd.below b2
    go_wp2_with fail
    refine (HS.out _ hr2).mono ?_
    rintro e w3 ⟨rfl, b3⟩
    have hr3 := hr2.below b3
    go_wp2_with fail
    refine (HI.out _ hr3).mono ?_
    rintro e w4 ⟨rfl, b4⟩
    have hr4 := hr3.below b4
    go_wp2_with fail
    refine (HM.out _ hr4).mono ?_
    rintro e w5 ⟨rfl, b5⟩
    go_wp2
    go_ret
    exact ⟨rfl, below_up (below_up (below_up (B1.trans (b2.mono B1.size)) b3) b4) b5⟩
  | true =>
    obtain ⟨hv, hn, hr⟩ := crowd_yes hc
    obtain ⟨n0, n1⟩ := inR_true.1 hn
    obtain ⟨r0, r1⟩ := inR_true.1 hr
    obtain ⟨m, rfl⟩ := Int.eq_ofNat_of_zero_le (show 0 ≤ n by omega)
    have hm1 : 1 ≤ m := by omega
    have hm3 : m ≤ 3 := by omega
    obtain ⟨E, hE⟩ : ∃ E, E = edgeV ys m r := ⟨_, rfl⟩
    obtain ⟨E0, E1⟩ : 0 ≤ E ∧ E ≤ 279936 := by rw [hE]; exact edgeV_nn hv hm1 hm3 r0
    have HI := Lib.hid (fun w h => ER_yes A1 c1 ys m r E w hE h hv hm1 hm3 r0 r1 hy1)
    have HS := Lib.hid (fun w h => SER_yes A1 c1 ys m r E w hE h hv hm1 hm3 r0 r1 hy1)
    have hne : (E != E) = false := by simp
    have hlt0 : decide (E < 0) = false := by simp; omega
    by_cases hm : m + 1 ≤ 3
    · obtain ⟨F, hF⟩ : ∃ F, F = edgeV ys (m + 1) r := ⟨_, rfl⟩
      obtain ⟨F0, F1⟩ : 0 ≤ F ∧ F ≤ 279936 := by rw [hF]; exact edgeV_nn hv (by omega) hm r0
      have HM : Hid (∀ w, Rd w A1 c1 ys → Calls Try.prog 33 #[.slice A1 ys.length c1, .int .i64 ((m : Int) + 1), .int .i64 r] w (AnsIs w (.int .i64 F))) := Lib.hid (fun w h => ER_yes A1 c1 ys (m + 1) r F w hF h hv (by omega) hm r0 r1 hy1)
      obtain ⟨ax, hax⟩ : ∃ x, x = (sumV ys (ironG ys) m).num := ⟨_, rfl⟩
      obtain ⟨ay, hay⟩ : ∃ y, y = ((sumV ys (ironG ys) m).den : Int) := ⟨_, rfl⟩
      obtain ⟨bx, hbx⟩ : ∃ x, x = (sumV ys (ironG ys) (m + 1)).num := ⟨_, rfl⟩
      obtain ⟨by', hby⟩ : ∃ y, y = ((sumV ys (ironG ys) (m + 1)).den : Int) := ⟨_, rfl⟩
      have ha : FrIs (sumV ys (ironG ys) m) ax ay := ⟨hax, hay⟩
      have hb : FrIs (sumV ys (ironG ys) (m + 1)) bx by' := ⟨hbx, hby⟩
      have HA := Lib.hid (fun w h => BR_yes A1 c1 ys m ax ay w ha h hv hm1 hm3 hcc hy1)
      have HB : Hid (∀ w, Rd w A1 c1 ys → Calls Try.prog 36 #[.slice A1 ys.length c1, .int .i64 ((m : Int) + 1)] w (AnsIs w (.tuple #[frV bx by', .bool true]))) := Lib.hid (fun w h => BR_yes A1 c1 ys (m + 1) bx by' w hb h hv (by omega) hm hcc hy1)
      obtain ⟨T, hT⟩ : ∃ T, T = tailW ys 0 := ⟨_, rfl⟩
      obtain ⟨T0, T1⟩ : 1 ≤ T ∧ T ≤ 36 := by rw [hT]; exact total_bd hv
      have HTT := Lib.hid (fun w h => total_any A1 c1 ys w h hy1 (vW_small hv))
      rw [← hT] at HTT
      have k1 : T * E ≤ F := by rw [hT, hE, hF]; exact edge_sum_more hv hm1 hm r0
      have k2 : T * ax * by' ≤ bx * ay := fr_times_le ha hb (by rw [hT]; exact best_sum_more hv hm1 hm)
      obtain ⟨Da, hda⟩ := iron_ok (n := m) hv hm3
      obtain ⟨Db, hdb⟩ := iron_ok (n := m + 1) hv hm
      obtain ⟨a0, a1, a2, a3⟩ := sumV_bd hv hm1 hm3 hda ha
      obtain ⟨b0, b1, b2, b3⟩ := sumV_bd hv (by omega) hm hdb hb
      obtain ⟨p1, p2⟩ := mul_bd b0 b1 a2 a3 (by omega)
      obtain ⟨p3, p4⟩ := mul_bd a0 a1 T0 T1 (by omega)
      rw [Int.mul_comm ax T] at p3 p4
      obtain ⟨p5, p6⟩ := mul_bd p3 p4 b2 b3 (by omega)
      obtain ⟨p7, p8⟩ := mul_bd (show -279936 ≤ E by omega) E1 T0 T1 (by omega)
      rw [Int.mul_comm E T] at p7 p8
      have hlt1 : decide (F < 0) = false := by simp; omega
      have hge1 : decide (T * E ≤ F) = true := by simpa using k1
      have hge2 : decide (T * ax * by' ≤ bx * ay) = true := by simpa using k2
      clear hc hv hn hr hE hF hax hay hbx hby ha hb hT k1 k2 hda hdb
      go_wp2_with fail
      refine (HI.out _ hrd).mono ?_
      rintro e w2 ⟨rfl, b2'⟩
      have hr2 := hrd.below b2'
      have B2 := B1.trans (b2'.mono B1.size)
      go_wp2_with fail
      refine (HS.out _ hr2).mono ?_
      rintro e w3 ⟨rfl, b3'⟩
      have hr3 := hr2.below b3'
      have B3 := below_up B2 b3'
      go_wp2_with fail
      refine (HI.out _ hr3).mono ?_
      rintro e w4 ⟨rfl, b4'⟩
      have hr4 := hr3.below b4'
      have B4 := below_up B3 b4'
      go_wp2_with fail
      refine (HM.out _ hr4).mono ?_
      rintro e w5 ⟨rfl, b5'⟩
      have hr5 := hr4.below b5'
      have B5 := below_up B4 b5'
      go_wp2_with fail
      refine (HA.out _ hr5).mono ?_
      rintro e w6 ⟨rfl, b6'⟩
      unfold frV
      have hk6 := PairAt.new (w := w6) (x := ax) (y := ay)
      have hb6 := below_al w6 (.cells #[.int .i64 ax, .int .i64 ay] 30)
      have hr6 := (hr5.below b6').below hb6
      have B6 := below_up (below_up B5 b6') hb6
      go_wp2_with fail
      refine (HB.out _ hr6).mono ?_
      rintro e w7 ⟨rfl, b7'⟩
      unfold frV
      have hk7 := (hk6.below b7').old (.cells #[.int .i64 bx, .int .i64 by'] 30)
      have hd7 := PairAt.new (w := w7) (x := bx) (y := by')
      have hb7 := below_al w7 (.cells #[.int .i64 bx, .int .i64 by'] 30)
      have hr7 := (hr6.below b7').below hb7
      have B7 := below_up (below_up B6 b7') hb7
      obtain ⟨c0, c1', f0, f1⟩ := hk7.facts
      obtain ⟨c2, c3, f2, f3⟩ := hd7.facts
      have e1 : IntKind.i64.wrap (T * E) = T * E := IntWalk.i64_in _ (by omega)
      have e2 : IntKind.i64.wrap (bx * ay) = bx * ay := IntWalk.i64_in _ (by omega)
      have e3 : IntKind.i64.wrap (T * ax) = T * ax := IntWalk.i64_in _ (by omega)
      have e4 : IntKind.i64.wrap (T * ax * by') = T * ax * by' := IntWalk.i64_in _ (by omega)
      go_wp2_with fail
      go_region_held3 (fun w' => w'.cell? ⟨w6.heap.size, 0, none⟩ = some (.int .i64 ax) ∧ w'.cell? ⟨w6.heap.size, 1, none⟩ = some (.int .i64 ay) ∧ w'.cell? ⟨w7.heap.size, 0, none⟩ = some (.int .i64 bx) ∧ w'.cell? ⟨w7.heap.size, 1, none⟩ = some (.int .i64 by'))
        (first | exact ⟨c0, c1', c2, c3⟩ | assumption)
        (first | (go_at_call 41; refine (HTT.out _ ?_).mono ?_; exact hr7; rintro e w' ⟨rfl, rfl⟩))
      go_wp2
      go_ret
      exact ⟨rfl, B7.drew⟩
    · have HM : Hid (∀ w, Rd w A1 c1 ys → Calls Try.prog 33 #[.slice A1 ys.length c1, .int .i64 ((m : Int) + 1), .int .i64 r] w (AnsIs w (.int .i64 (-1)))) := Lib.hid (fun w h => by
        have e : edgeO ys ((m : Int) + 1) r = -1 := by
          unfold edgeO crowdB
          rw [show inR ((m : Int) + 1) 1 3 = false from inR_false.2 (by omega)]
          simp
        exact e ▸ EdgeRevenue_any A1 c1 ys ((m : Int) + 1) r w h hy1)
      clear hc hv hn hr hE
      go_wp2_with fail
      refine (HI.out _ hrd).mono ?_
      rintro e w2 ⟨rfl, b2'⟩
      have hr2 := hrd.below b2'
      have B2 := B1.trans (b2'.mono B1.size)
      go_wp2_with fail
      refine (HS.out _ hr2).mono ?_
      rintro e w3 ⟨rfl, b3'⟩
      have hr3 := hr2.below b3'
      have B3 := below_up B2 b3'
      go_wp2_with fail
      refine (HI.out _ hr3).mono ?_
      rintro e w4 ⟨rfl, b4'⟩
      have hr4 := hr3.below b4'
      have B4 := below_up B3 b4'
      go_wp2_with fail
      refine (HM.out _ hr4).mono ?_
      rintro e w5 ⟨rfl, b5'⟩
      have B5 := below_up B4 b5'
      go_wp2
      go_ret
      exact ⟨rfl, B5⟩
end Go.Proofs.Ytoipjhdnmiomeaa
