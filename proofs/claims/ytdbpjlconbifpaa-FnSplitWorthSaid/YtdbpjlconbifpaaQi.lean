/-
  The laws of chapter 4: the walk of FnSplitWorth.
-/
import Derived.Test.YtdbpjlconbifpaaQh
namespace Go.Proofs.Ytdbpjlconbifpaa
open Go.RowKit Go.Lib

set_option maxHeartbeats 4000000 in
set_option maxRecDepth 100000 in
theorem fnSplitWorth_walk {A : Option Addr} {c : Nat} {xs : List Int} {w : World} (h : Came .u8 w A c xs) :
    Calls Try.prog 3 #[.slice A xs.length c] w fun e w' => e = .returned (.bool true) ∧ Below w.heap.size w w' := by
  by_cases hlen : 1048576 < xs.length
  · go_enter Try.func3, Try.ntmps3
    go_wp2
    go_ret
    exact ⟨rfl, Below.refl _ _⟩
  have hl1 : xs.length ≤ 1048576 := by omega
  have HD := Lib.hid (DrawSplitWorth_any A c xs w h)
  clear hlen h
  go_enter Try.func3, Try.ntmps3
  go_wp2_with fail
  refine HD.out.mono ?_
  rintro e w1 ⟨A1, c1, rows, x, rfl, hR, hl4, hl8, hx0, hx1, b1⟩
  have hl8' : ∀ r ∈ rows, r.length ≤ 1099511627776 := fun r hr => by have := hl8 r hr; omega
  have HS := Lib.hid (fun x w' (h : RdR w' A1 c1 rows) => (SplitWorth_both rows x (by omega) hl8').1 A1 c1 w' h)
  have HI := Lib.hid (fun x w' (h : RdR w' A1 c1 rows) => (SplitWorth_both rows x (by omega) hl8').2 A1 c1 w' h)
  by_cases hv : VTs rows ∧ 0 ≤ x ∧ x ≤ 7
  · have HSAY := Lib.hid (split_says hv.1 hv.2.1 hv.2.2)
    have hp0 : ¬ spF rows x < 0 := fun h => spF_neg.1 h hv
    have hx7 := hv.2.2
    have hxx := hv.2.1
    have HB := Lib.hid (fun w' (h : RdR w' A1 c1 rows) => (BestSplit_any A1 c1 rows w' h hl8').mono fun _ _ h => h.pl)
    have hn1 := hv.1.1.1
    obtain ⟨b0, off0, rfl, _, _⟩ := hR.open_ hn1
    obtain ⟨m, hm⟩ : ∃ m, rows.length = m + 1 := ⟨rows.length - 1, by omega⟩
    have hcm : m + 1 ≤ c1 := by rw [← hm]; exact hR.1
    have htl : (rows.take m).length = m := by rw [List.length_take]; omega
    have HIT := Lib.hid (fun w' (h : RdR w' (some ⟨b0, off0, none⟩) c1 rows) => SplitWorth_any (some ⟨b0, off0, none⟩) c1 (rows.take m) x w' (h.take_ m (by omega)) (fun r hr => hl8' r (List.mem_of_mem_take hr)))
    rw [htl] at HIT
    rw [hm] at HI HS HB
    have HFW : Hid (spF (rows.take m) x ≤ spF rows x) := Lib.hid (by have := HSAY.out.fewer; rw [hm] at this; exact this)
    have e9 : IntKind.i64.wrap ((m : Int) + 1 - 1) = (m : Int) := by rw [show (m : Int) + 1 - 1 = (m : Int) by omega]; exact IntWalk.i64_in _ (by omega)
    have q8 : (m : Int) ≤ (c1 : Int) := by omega
    have q9 : (0 : Int) ≤ (m : Int) := by omega
    rw [hm]
    clear hv HD htl
    obtain ⟨v, hV⟩ : ∃ v, v = spF rows x := ⟨_, rfl⟩
    have HV := Lib.hid hV
    have HI1 := Lib.hid (HI.out x)
    have HS1 := Lib.hid (HS.out x)
    rw [← hV] at HI1 HS1 hp0
    have hp00 : decide (v < 0) = false := by simpa using hp0
    clear hV hp0
    go_wp2_with fail
    refine (HI1.out w1 hR).mono ?_
    rintro e w2 ⟨rfl, b2⟩
    go_wp2_with fail
    refine (HS1.out w2 (hR.below b2)).mono ?_
    rintro e w3 ⟨rfl, b3⟩
    have hR3 := (hR.below b2).below b3
    have B3 := below_then b1 (b2.trans (b3.mono b2.size))
    clear b1 b2 b3 hR
    go_wp2_with fail
    refine (HB.out w3 hR3).mono ?_
    rintro e w4 ⟨AB, cB, rfl, _, b4⟩
    obtain ⟨s, rfl⟩ := Int.eq_ofNat_of_zero_le hxx
    have hs : s < 8 := by omega
    go_wp2_with fail
    clear hl1 hp00
    go_loopw [9] (fun jv wr => ∃ j, jv = .int .i64 (j : Nat) ∧ j ≤ 3 ∧ Below w3.heap.size w3 wr) (fun i _ => 3 - (intOf i).toNat)
    case atStart => exact ⟨0, rfl, by omega, b4⟩
    case round =>
      obtain ⟨j, rfl, hj, hb⟩ := hrel
      by_cases hlt : j < 3
      · have HBT := Lib.hid (fun w => Lbit_any s j hs hlt w)
        have HPW := Lib.hid (fun w => Lpower_any j (by omega) w)
        have hrr := hR3.below hb
        have hj3 : (j : Int) < 3 := by omega
        have hj1 : j + 1 ≤ 3 := hlt
        by_cases hbit : s / 2 ^ j % 2 = 1
        · have hle := HSAY.out.less j hlt hbit
          rw [← HV.out] at hle
          obtain ⟨p, hp⟩ : ∃ p, p = 2 ^ j := ⟨_, rfl⟩
          rw [hbit] at HBT
          rw [← hp] at HPW hle
          have hp4 : p ≤ 4 := by rw [hp]; rcases nat3 hlt with rfl | rfl | rfl <;> decide
          have e1 : IntKind.i64.wrap ((s : Int) - (p : Int)) = (s : Int) - (p : Int) := IntWalk.i64_in _ (by omega)
          obtain ⟨u, hu⟩ : ∃ u, u = spF rows ((s : Int) - (p : Int)) := ⟨_, rfl⟩
          have HI2 := Lib.hid (HI.out ((s : Int) - (p : Int)) wr hrr)
          rw [← hu] at hle HI2
          clear hp hu hbit hlt
          go_wp2_with (first
            | (go_at_call 13; refine (HBT.out _).mono ?_; rintro e w6 ⟨rfl, rfl⟩)
            | (go_at_call 14; refine (HPW.out _).mono ?_; rintro e w6 ⟨rfl, rfl⟩)
            | (go_at_call 10; refine HI2.out.mono ?_; rintro e w7 ⟨rfl, b7⟩))
          go_roundw
          case rel => exact ⟨j + 1, by go_num, hj1, hb.trans (b7.mono hb.size)⟩
          case measure => simp only [intOf]; omega
        · have hb0 : s / 2 ^ j % 2 = 0 := by omega
          rw [hb0] at HBT
          clear hbit hb0 hlt
          go_wp2_with (first
            | (go_at_call 13; refine (HBT.out _).mono ?_; rintro e w6 ⟨rfl, rfl⟩))
          go_roundw
          case rel => exact ⟨j + 1, by go_num, hj1, hb⟩
          case measure => simp only [intOf]; omega
      · obtain rfl : j = 3 := by omega
        have hrr := hR3.below hb
        have HPW := Lib.hid (fun (w : World) => (Lpower_any 3 (by omega) w : Calls Try.prog 14 #[.int .i64 3] w fun e w' => e = .returned (.int .i64 8) ∧ w = w'))
        have HI7 := Lib.hid (fun w' (h : RdR w' (some ⟨b0, off0, none⟩) c1 rows) => HI.out 7 w' h)
        rw [HSAY.out.all] at HI7
        have hle := HSAY.out.le
        have hfe := HFW.out
        rw [← HV.out] at hle hfe
        obtain ⟨u, hu⟩ : ∃ u, u = spF (rows.take m) (s : Int) := ⟨_, rfl⟩
        rw [← hu] at hfe HIT
        have r1 : (bwF rows == bwF rows) = true := by simp
        have r2 : decide (v ≤ bwF rows) = true := by simpa using hle
        have r3 : decide (u ≤ v) = true := by simpa using hfe
        clear hu HI HI1 HS1 HS HB HSAY HV HFW hle hfe
        go_wp2_with fail
        refine (HPW.out _).mono ?_
        rintro e w6 ⟨rfl, rfl⟩
        go_wp2_with fail
        refine (HI7.out _ hrr).mono ?_
        rintro e w7 ⟨rfl, b7⟩
        have hr7 := hrr.below b7
        have B7 := hb.trans (b7.mono hb.size)
        clear b7 HI7 HPW
        go_wp2_with fail
        refine (HIT.out _ hr7).mono ?_
        rintro e w8 ⟨rfl, b8⟩
        have B8 := Lib.hid (B3.trans ((B7.trans (b8.mono B7.size)).mono B3.size))
        clear b8 HIT
        go_wp2
        go_ret
        exact ⟨rfl, B8.out⟩
  · have HE := Lib.hid (spF_no hv)
    have HI1 := Lib.hid (HI.out x)
    have HS1 := Lib.hid (HS.out x)
    rw [HE.out] at HI1 HS1
    clear hv HD HI HS
    go_wp2_with fail
    refine (HI1.out w1 hR).mono ?_
    rintro e w2 ⟨rfl, b2⟩
    go_wp2_with fail
    refine (HS1.out w2 (hR.below b2)).mono ?_
    rintro e w3 ⟨rfl, b3⟩
    go_wp2_with fail
    refine (HS1.out w3 ((hR.below b2).below b3)).mono ?_
    rintro e w4 ⟨rfl, b4⟩
    go_wp2
    go_ret
    exact ⟨rfl, below_then b1 (b2.trans ((b3.trans (b4.mono b3.size)).mono b2.size))⟩

end Go.Proofs.Ytdbpjlconbifpaa
