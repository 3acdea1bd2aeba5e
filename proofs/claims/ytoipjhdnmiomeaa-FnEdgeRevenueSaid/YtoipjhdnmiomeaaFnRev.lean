/-
  The walk of the law of RevenueAt.
-/
import Derived.Test.YtoipjhdnmiomeaaGG
import Derived.Test.YtoipjhdnmiomeaaGC
namespace Go.Proofs.Ytoipjhdnmiomeaa
open Go.RowKit

/-- Virtual values times weights are what the price brings in more than the next one. -/
theorem frac_back {xs : List Int} {v : Nat} {x n d : Int} (hv : vW xs = true) (hx : xs[v]? = some x) (hq : FrIs (virtQ xs v) n d) :
    x / d * n = revW xs v - revW xs (v + 1) ∧ 1 ≤ d ∧ d ≤ 6 ∧ 1 ≤ x ∧ x ≤ 6 ∧ -36 ≤ n ∧ n ≤ 36 ∧ 0 ≤ x / d ∧ x / d ≤ 6 := by
  have hlt := (List.getElem?_eq_some_iff.1 hx).1
  obtain ⟨p1, p2, p3, p4, p5⟩ := virt_parts hv hx hq
  obtain ⟨b1, b2, b3, b4⟩ := virt_bd hv hlt hq
  have hw : wt xs v = x := by unfold wt; rw [List.getD_eq_getElem?_getD, hx]; rfl
  obtain ⟨g, hg, g1, g2, hn, hd, _⟩ := frac_parts p1 p2
  have du : g ∣ (v * x - tailW xs (v + 1)) := by rw [hg]; exact Int.ofNat_dvd_left.2 (Nat.gcd_dvd_left _ _)
  have dd : g ∣ x := by rw [hg]; exact Int.ofNat_dvd_left.2 (Nat.gcd_dvd_right _ _)
  have e1 : x / d = g := by
    rw [hd]
    obtain ⟨k, hk⟩ := dd
    have hgn : g ≠ 0 := by omega
    rw [hk, Int.mul_ediv_cancel_left _ hgn]
    have hk1 : k ≠ 0 := by rintro rfl; omega
    rw [Int.mul_ediv_cancel _ hk1]
  have e2 : g * n = v * x - tailW xs (v + 1) := by
    rw [hn, Int.tdiv_eq_ediv_of_dvd du]
    exact Int.mul_ediv_cancel' du
  refine ⟨?_, b3, b4, p2, p3, b1, b2, by omega, by omega⟩
  rw [e1, e2, revW_step, hw]

theorem Rd.cellAt {w : World} {b off c : Nat} {zs : List Int} (h : Rd w (some ⟨b, off, none⟩) c zs) {k : Nat} {x : Int} (hx : zs[k]? = some x) : w.cell? ⟨b, off + k, none⟩ = some (.int .i64 x) := by
  obtain ⟨b', off', e, hc⟩ := h.open_ (by have := (List.getElem?_eq_some_iff.1 hx).1; omega)
  injection e with e
  injection e with e1 e2
  subst e1 e2
  exact hc k x hx
theorem virtO_yes {xs : List Int} (hv : vW xs = true) : psOf (virtO xs) = frL (virtL xs) := by unfold virtO; rw [hv]; rfl
theorem virtO_len {xs : List Int} : (frL (virtL xs)).length = xs.length := by rw [frL_len, virtL_len]
theorem VirtualOf_is (A : Option Addr) (c : Nat) (xs : List Int) (w : World) (h : Rd w A c xs) (hcc : xs.length ≤ c) (hl : xs.length ≤ 1048576) (hv : vW xs = true) :
    Calls Try.prog 18 #[.slice A xs.length c] w fun e w' => ∃ g c', e = .returned (.slice (some ⟨g, 0, none⟩) xs.length c') ∧ OwnF w' w.heap.size (some ⟨g, 0, none⟩) c' (frL (virtL xs)) ∧ Below w.heap.size w w' := by
  refine (VirtualOf_any A c xs w h hcc hl).mono fun e w' ho => ?_
  obtain ⟨hb, ⟨h1, _⟩ | ⟨qs, g, c', h1, rfl, ho⟩⟩ := ho
  · unfold virtO at h1; rw [hv] at h1; cases h1
  · unfold virtO at h1; rw [hv] at h1
    obtain rfl : virtL xs = qs := by injection h1
    exact ⟨g, c', by rw [virtO_len], ho, hb⟩

set_option maxRecDepth 100000 in
set_option maxHeartbeats 4000000 in
theorem fnRevenueAt_walk {A : Option Addr} {c : Nat} {xs : List Int} {w : World} (h : Came .u8 w A c xs) :
    Calls Try.prog 3 #[.slice A xs.length c] w fun e w' => e = .returned (.bool true) ∧ Below w.heap.size w w' := by
  by_cases hlen : 1048576 < xs.length
  · go_enter Try.func3, Try.ntmps3
    go_wp2
    go_ret
    exact ⟨rfl, Below.refl _ _⟩
  have hl0 : xs.length ≤ 1048576 := by omega
  clear hlen
  go_enter Try.func3, Try.ntmps3
  go_wp2_with fail
  refine (DrawRevenueAt_any A c xs w h).mono ?_
  rintro e w1 ⟨A1, c1, ys, p, rfl, hrd, hcc, hy, hp0, hp1, B1⟩
  have hy1 : ys.length ≤ 1048576 := by omega
  clear h hl0
  have HI := Lib.hid (RevenueAt_any A1 c1 ys p w1 hrd hcc hy1)
  have HS := Lib.hid (SRevenueAt_any A1 c1 ys p w1 hrd hy1)
  cases hg : (vW ys && inR p 0 6) with
  | false =>
    have e1 : revF ys p = -1 := by unfold revF; rw [hg]; rfl
    rw [e1] at HI HS
    clear hg e1
    go_wp2_with fail
    refine HI.out.mono ?_
    rintro e w2 ⟨rfl, rfl⟩
    go_wp2_with fail
    refine HS.out.mono ?_
    rintro e w2 ⟨rfl, rfl⟩
    go_wp2_with fail
    refine HS.out.mono ?_
    rintro e w2 ⟨rfl, rfl⟩
    go_wp2
    go_ret
    exact ⟨rfl, B1⟩
  | true =>
    simp only [Bool.and_eq_true] at hg
    obtain ⟨hv, hp⟩ := hg
    obtain ⟨p0, p1⟩ := inR_true.1 hp
    obtain ⟨q, rfl⟩ := Int.eq_ofNat_of_zero_le p0
    have hq6 : q ≤ 6 := by omega
    rw [revF_yes hv hq6] at HI HS
    have HV := Lib.hid hv
    have HVI := Lib.hid (VirtualOf_is A1 c1 ys w1 hrd hcc hy1 hv)
    obtain ⟨l1, l2⟩ := vW_le hv
    have r0 := revW_nn hv q
    have r1 := revW_le hv hq6
    obtain ⟨R, hR⟩ : ∃ R, R = revW ys q := ⟨_, rfl⟩
    rw [← hR] at HI HS r0 r1
    have HR := Lib.hid hR
    have hne : (R != R) = false := by simp
    have hlt0 : decide (R < 0) = false := by simp; omega
    obtain ⟨b1, off1, rfl⟩ := hrd.open1 l1
    clear hv hp hR p0 p1 hp0 hp1
    go_wp2_with fail
    refine HI.out.mono ?_
    rintro e w2 ⟨rfl, rfl⟩
    go_wp2_with fail
    refine HS.out.mono ?_
    rintro e w2 ⟨rfl, rfl⟩
    go_wp2_with fail
    refine HVI.out.mono ?_
    rintro e w2 ⟨g, c2, rfl, ho, hb2⟩
    have hr2 := hrd.below hb2
    have B2 := B1.trans (hb2.mono B1.size)
    clear HI HS HVI hb2 B1 hrd
    go_wp2
    go_loopw [7, 8] (fun s i wr => ∃ (k : Nat) (S : Int), q ≤ k ∧ k ≤ 6 ∧ (q < k → k ≤ ys.length) ∧ i = .int .i64 k ∧ s = .int .i64 S ∧ Below w2.heap.size w2 wr ∧ Hid (S = revW ys q - revW ys k))
      (fun _ i _ => 6 - (intOf i).toNat)
    case atStart => exact ⟨q, 0, Nat.le_refl _, hq6, fun h => by omega, rfl, rfl, Below.refl _ _, Lib.hid (by omega)⟩
    case round =>
      obtain ⟨k, S, hk0, hk1, hk2, rfl, rfl, hb, HS⟩ := hrel
      by_cases hlt : k < ys.length
      · obtain ⟨x, hx⟩ := at_some hlt
        obtain ⟨n, hn⟩ : ∃ n, n = (virtQ ys k).num := ⟨_, rfl⟩
        obtain ⟨d, hd⟩ : ∃ d, d = ((virtQ ys k).den : Int) := ⟨_, rfl⟩
        obtain ⟨f1, f2, f3, f4, f5, f6, f7, f8, f9⟩ := frac_back HV.out hx (show FrIs (virtQ ys k) n d from ⟨hn, hd⟩)
        have v0 := revW_nn HV.out k
        have v1 := revW_le HV.out (show k ≤ 6 by omega)
        have v2 := revW_nn HV.out (k + 1)
        have v3 := revW_le HV.out (show k + 1 ≤ 6 by omega)
        have hs := HS.out
        rw [← HR.out] at hs
        have s0 : -216 ≤ S ∧ S ≤ 216 := by omega
        have s1 : -216 ≤ x / d * n ∧ x / d * n ≤ 216 := by omega
        have s2 : -216 ≤ S + x / d * n ∧ S + x / d * n ≤ 216 := by omega
        have HM := Lib.hid (show S + x / d * n = revW ys q - revW ys (k + 1) by rw [← HR.out]; omega)
        have HG := Lib.hid (show (frL (virtL ys))[k]? = some (n, d) from frL_get (virtL_at hlt) ⟨hn, hd⟩)
        obtain ⟨hc1, hc2⟩ := (ho.below hb).cell HG.out
        have hcx := (hr2.below hb).cellAt hx
        have hd0 : (d == 0) = false := by simp; omega
        clear hx hn hd f1 v0 v1 v2 v3 hs
        go_wp2
        go_quiet (fail)
        go_wp2
        go_roundw
        case rel => exact ⟨k + 1, _, by omega, by omega, fun _ => by omega, by go_num, rfl, ⟨hb.os, hb.tape, hb.output, hb.size, hb.block⟩, HM⟩
        case measure => simp [intOf] <;> omega
      · have he : revW ys k = 0 := by unfold revW; rw [tailW_end ys k (by omega)]; simp
        have hs := HS.out
        rw [he, ← HR.out] at hs
        obtain rfl : S = R := by omega
        have hne2 : (S == S) = true := by simp
        clear he hs
        go_wp2
        go_ret
        exact ⟨rfl, B2.trans (hb.mono B2.size)⟩

end Go.Proofs.Ytoipjhdnmiomeaa
