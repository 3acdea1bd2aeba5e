/-
  The laws of chapter 4: the walk of FnBestSplit.
-/
import Derived.Test.YtdbpjlconbifpaaQk
import Derived.Test.YtdbpjlconbifpaaQg
import Derived.Test.YtdbpjlconbifpaaWz
import Derived.Test.YtdbpjlconbifpaaRw
namespace Go.Proofs.Ytdbpjlconbifpaa
open Go.RowKit Go.Lib

theorem VTs.zeros7 {ts : List (List Int)} (h : ∀ t ∈ ts, VT t) : ∀ t ∈ ts, T t 0 = 0 := fun t ht => (h t ht).2.1
/-- The things of the first j bidders. -/
def lt3 (x y z j : Int) : Nat := (if 0 ≤ x ∧ x < j then 1 else 0) + (if 0 ≤ y ∧ y < j then 2 else 0) + (if 0 ≤ z ∧ z < j then 4 else 0)
theorem lt3_lt (x y z j : Int) : lt3 x y z j < 8 := by unfold lt3; split <;> split <;> split <;> omega
theorem lt3_zero (x y z : Int) : lt3 x y z 0 = 0 := by
  unfold lt3
  rw [if_neg (by omega), if_neg (by omega), if_neg (by omega)]
theorem bits6 (p1 p2 p3 q1 q2 q3 : Prop) [Decidable p1] [Decidable p2] [Decidable p3] [Decidable q1] [Decidable q2] [Decidable q3] (n1 : ¬ (p1 ∧ q1)) (n2 : ¬ (p2 ∧ q2)) (n3 : ¬ (p3 ∧ q3)) :
    (((if p1 then 1 else 0) + (if p2 then 2 else 0) + (if p3 then 4 else 0) : Nat) ||| ((if q1 then 1 else 0) + (if q2 then 2 else 0) + (if q3 then 4 else 0))) = (if p1 ∨ q1 then 1 else 0) + (if p2 ∨ q2 then 2 else 0) + (if p3 ∨ q3 then 4 else 0) ∧
    (((if p1 then 1 else 0) + (if p2 then 2 else 0) + (if p3 then 4 else 0) : Nat) &&& ((if q1 then 1 else 0) + (if q2 then 2 else 0) + (if q3 then 4 else 0))) = 0 := by
  by_cases a1 : p1 <;> by_cases a2 : p2 <;> by_cases a3 : p3 <;> by_cases b1 : q1 <;> by_cases b2 : q2 <;> by_cases b3 : q3 <;> simp_all
theorem lt3_step (x y z : Int) {j : Int} (hj : 0 ≤ j) : lt3 x y z j ||| skn x y z j = lt3 x y z (j + 1) ∧ lt3 x y z j &&& skn x y z j = 0 := by
  have h1 : (0 ≤ x ∧ x < j + 1) ↔ ((0 ≤ x ∧ x < j) ∨ x = j) := by omega
  have h2 : (0 ≤ y ∧ y < j + 1) ↔ ((0 ≤ y ∧ y < j) ∨ y = j) := by omega
  have h3 : (0 ≤ z ∧ z < j + 1) ↔ ((0 ≤ z ∧ z < j) ∨ z = j) := by omega
  unfold lt3 skn
  simp only [h1, h2, h3]
  exact bits6 _ _ _ _ _ _ (by omega) (by omega) (by omega)
def seenTo (os : List Int) (j : Nat) : Nat := lt3 (os.getD 0 0) (os.getD 1 0) (os.getD 2 0) (j : Int)
theorem seen_step (os : List Int) (j : Nat) : seenTo os j ||| setOf os j = seenTo os (j + 1) ∧ seenTo os j &&& setOf os j = 0 := by
  have h := lt3_step (os.getD 0 0) (os.getD 1 0) (os.getD 2 0) (j := (j : Int)) (by omega)
  exact h


set_option maxHeartbeats 4000000 in
set_option maxRecDepth 100000 in
theorem fnBestSplit_walk {A : Option Addr} {c : Nat} {xs : List Int} {w : World} (h : Came .u8 w A c xs) :
    Calls Try.prog 4 #[.slice A xs.length c] w fun e w' => e = .returned (.bool true) ∧ Below w.heap.size w w' := by
  by_cases hlen : 1048576 < xs.length
  · go_enter Try.func4, Try.ntmps4
    go_wp2
    go_ret
    exact ⟨rfl, Below.refl _ _⟩
  have hl1 : xs.length ≤ 1048576 := by omega
  have HD := Lib.hid (DrawBestSplit_any A c xs w h)
  clear hlen h
  go_enter Try.func4, Try.ntmps4
  go_wp2_with fail
  refine HD.out.mono ?_
  rintro e w1 ⟨A1, c1, rows, rfl, hR, hl4, hl8, b1⟩
  have hl8' : ∀ r ∈ rows, r.length ≤ 1099511627776 := fun r hr => by have := hl8 r hr; omega
  have HI := Lib.hid (fun w' (h : RdR w' A1 c1 rows) => (BestSplit_any A1 c1 rows w' h hl8').mono fun _ _ h => h.pl)
  have HS := Lib.hid (fun w' (h : RdR w' A1 c1 rows) => (SBestSplit_any A1 c1 rows w' h (by omega) hl8').mono fun _ _ h => h.pl)
  have hzl := bsF_len rows
  obtain ⟨zs, hzs⟩ : ∃ zs, zs = bsF rows := ⟨_, rfl⟩
  obtain ⟨M, hM⟩ : ∃ M, M = bwF rows := ⟨_, rfl⟩
  rw [← hzs, ← hM] at HI HS
  rw [← hzs] at hzl
  have HZS := Lib.hid hzs
  have HM := Lib.hid hM
  have H8 := Lib.hid hl8'
  have hzl2 : zs.length ≤ 1099511627776 := by omega
  have p1 : (M != M) = false := by simp
  have p2 : (M == M) = true := by simp
  clear hzs hM HD hl8 hl8' hl1 hzl
  go_wp2_with fail
  refine (HI.out w1 hR).mono ?_
  rintro e w2 ⟨A2, c2, rfl, o2, b2⟩
  have B2 := b1.trans (b2.mono b1.size)
  have hR2 := hR.below b2
  go_wp2_with fail
  refine (HS.out w2 hR2).mono ?_
  rintro e w3 ⟨A3, c3, rfl, o3, b3⟩
  have B3 := B2.trans (b3.mono B2.size)
  have hR3 := hR2.below b3
  have o23 := o2.below b3
  clear o2 hR2 b2 b3 b1
  go_wp2_with fail
  refine (equalU_any A2 A3 c2 c3 zs zs w3 o23.rd o3.rd hzl2).mono ?_
  rw [eqB_self]
  rintro e w4 ⟨rfl, n4, rfl⟩
  by_cases hv : VTs rows
  · have hM := HM.out
    rw [show bwF rows = worthF rows (wayF rows) by unfold bwF; exact if_pos hv] at hM
    have hzs := HZS.out
    rw [show bsF rows = setsF (wayF rows) rows.length by unfold bsF; exact if_pos hv] at hzs
    have hmb := worthF_bd hv.2 (wayF rows)
    rw [← hM] at hmb
    have p3 : decide (M < 0) = false := by simp; omega
    have hln : zs.length = rows.length := by rw [hzs, setsF_len']
    have HLN := Lib.hid hln
    have h1l := hv.1.1
    obtain ⟨g2, rfl⟩ := own_some o23 (by omega)
    have B4 := below_drewN' B3 n4
    have HO4 := Lib.hid (o23.drewN n4)
    have HR4 := Lib.hid (hR3.drewN n4)
    have HV := Lib.hid hv
    have HZ := Lib.hid hzs
    have HMM := Lib.hid hM
    clear hM hzs hmb hv hln o23 o3 hR3 hR HI HS B3
    go_wp2_with fail
    go_loopw [8, 9, 10] (fun e s i wr => ∃ (j a : Nat) (z : Int), j ≤ rows.length ∧ i = .int .i64 j ∧ e = .int .i64 (a : Int) ∧ s = .int .i64 z ∧ Hid (a = seenTo (wayF rows) j) ∧ Hid (z = worthF (rows.take j) (wayF rows)) ∧ Hid (Own wr w1.heap.size (some ⟨g2, 0, none⟩) c2 zs) ∧ Hid (RdR wr A1 c1 rows) ∧ Below w.heap.size w wr) (fun _ _ i _ => rows.length - (intOf i).toNat)
    case atStart => exact ⟨0, 0, 0, Nat.zero_le _, rfl, rfl, rfl, Lib.hid (lt3_zero _ _ _).symm, Lib.hid (worthF_zero _ _).symm, HO4, HR4, B4⟩
    case round =>
      obtain ⟨j, a, z, hj, rfl, rfl, rfl, HA, HZZ, HO, HRR, hb⟩ := hrel
      have ha8 : a < 8 := by rw [HA.out]; exact lt3_lt _ _ _ _
      have hzb := worthF_step_bd HV.out.2 (wayF rows) j
      rw [← HZZ.out] at hzb
      have hz0 := hzb.1
      have hz1 := hzb.2
      clear hzb
      by_cases hlt : j < rows.length
      · obtain ⟨b, off, r, A', c', rfl, hr, hc, hcap, hrd⟩ := HRR.out.at_ hlt
        have hvt := HV.out.2 r (List.mem_of_getElem? hr.out)
        obtain ⟨br, ofr, rfl⟩ := hrd.out.some_ hvt.1
        rw [hvt.1] at hc
        obtain ⟨s, hs⟩ : ∃ s, s = setOf (wayF rows) j := ⟨_, rfl⟩
        have hs8 : s < 8 := by rw [hs]; exact setOf_lt _ j
        obtain ⟨b3, o3, x, hA, _, hx, hcx⟩ := hrd.out.at_ (k := s) (by rw [hvt.1]; exact hs8)
        cases hA
        have hxe := T_of hx.out
        have hxb := hvt.bd hs8
        rw [hxe] at hxb
        have hx0 := hxb.1
        have hx1 := hxb.2
        have hcs := HO.out.cell (show zs[j]? = some (s : Int) by rw [HZ.out, setsF_at _ hlt, hs])
        have hst := seen_step (wayF rows) j
        rw [← hs, ← HA.out] at hst
        have hand : bits .and .i64 (a : Int) (s : Int) = 0 := by rw [and_nat ha8 hs8, hst.2]; rfl
        have hn0 : ((0 : Int) != 0) = false := by simp
        have hjz : (j : Int) < (zs.length : Int) := by have := HLN.out; omega
        have hor := or_nat ha8 hs8
        have HA2 : Hid (a ||| s = seenTo (wayF rows) (j + 1)) := Lib.hid hst.1
        have HZ2 : Hid (z + x = worthF (rows.take (j + 1)) (wayF rows)) := Lib.hid (by rw [worthF_step (wayF rows) hr.out, ← HZZ.out, ← hs, hxe])
        have e1 : IntKind.i64.wrap (z + x) = z + x := IntWalk.i64_in _ (by omega)
        have hs0 : (0 : Int) ≤ (s : Int) := by omega
        have hs7 : (s : Int) < 8 := by omega
        clear hs hvt hxe hxb hx hrd hst hr hcap
        go_wp2_with fail
        go_quiet (fail)
        go_wp2
        go_roundw
        case rel => exact ⟨j + 1, _, _, by omega, by go_num, rfl, rfl, HA2, HZ2, Lib.hid (HO.out.drewN _), Lib.hid (HRR.out.drewN _), below_drewN' hb _⟩
        case measure => simp [intOf]; omega
      · obtain rfl : j = rows.length := by omega
        have hz : z = M := by rw [HZZ.out, List.take_length, HMM.out]
        subst hz
        have HPW := Lib.hid (fun (w : World) => (Lpower_any 3 (by omega) w : Calls Try.prog 14 #[.int .i64 3] w fun e w' => e = .returned (.int .i64 8) ∧ w = w'))
        have HSW := Lib.hid (fun (W : World) (hW : RdR W A1 c1 rows) => SplitWorth_any A1 c1 rows 7 W hW H8.out)
        have hsp : spF rows 7 = z := by
          unfold spF
          rw [if_pos ⟨vtsB_true HV.out, by omega, by omega⟩, HMM.out, wayF_worth (VTs.zeros7 HV.out.2) HV.out.1.2]; rfl
        rw [hsp] at HSW
        have hll : decide ((rows.length : Int) < (zs.length : Int)) = false := by have := HLN.out; simp; omega
        have hlz : (zs.length : Int) = (rows.length : Int) := by have := HLN.out; omega
        clear hsp HZZ HA HMM HM
        go_wp2_with (first
          | (go_at_call 14; refine (HPW.out _).mono ?_; rintro e w5 ⟨rfl, rfl⟩)
          | (go_at_call 10; refine (HSW.out _ HRR.out).mono ?_; rintro e w6 ⟨rfl, b6⟩))
        have B6 := Lib.hid (hb.trans (b6.mono hb.size))
        clear b6
        go_ret
        exact ⟨rfl, B6.out⟩
  · have hM : M = -1 := by have := HM.out; rw [show bwF rows = -1 by unfold bwF; exact if_neg hv] at this; exact this
    have p3 : decide (M < 0) = true := by rw [hM]; rfl
    have o24 := o23.drewN n4
    have B4 := below_drewN' B3 n4
    clear hM hv
    go_wp2_with fail
    refine (equalU_any A2 A3 c2 c3 zs zs (w3.drewN n4) o24.rd (o3.drewN n4).rd hzl2).mono ?_
    rw [eqB_self]
    rintro e w6 ⟨rfl, n6, rfl⟩
    have B6 := Lib.hid (show Below w.heap.size w (w3.drewN (n4 + n6)) from below_drewN' B3 (n4 + n6))
    go_wp2
    go_ret
    exact ⟨rfl, B6.out⟩

end Go.Proofs.Ytdbpjlconbifpaa
