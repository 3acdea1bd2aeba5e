/-
  The walk of the law of IronedOf.
-/
import Derived.Test.YtoipjhdnmiomeaaFnVirt
namespace Go.Proofs.Ytoipjhdnmiomeaa
open Go.RowKit

theorem ironL_some (w : List Int) : ∀ (f h v : Nat), h ≤ f → v < h → ∃ h', 1 ≤ h' ∧ h' ≤ h ∧ (ironL w f h).getD v 0 = (steep w h').2
  | 0, h, v, h1, h2 => by omega
  | f + 1, h, v, h1, h2 => by
    have hp : 1 ≤ h := by omega
    obtain ⟨a1, _⟩ := steep_is w hp
    have hlen := ironL_len w f (steep w h).1 (by omega)
    rw [ironL_at hp]
    by_cases c : v < (steep w h).1
    · obtain ⟨h', i1, i2, i3⟩ := ironL_some w f _ v (show (steep w h).1 ≤ f by omega) c
      refine ⟨h', i1, by omega, ?_⟩
      rw [← i3]
      simp only [List.getD, List.getElem?_append, hlen]
      rw [if_pos c]
    · refine ⟨h, hp, Nat.le_refl _, ?_⟩
      simp only [List.getD, List.getElem?_append, hlen, List.getElem?_replicate]
      rw [if_neg c, if_pos (by omega)]; rfl
theorem iron_bd {xs : List Int} {v : Nat} {n d : Int} (hv : vW xs = true) (hlt : v < xs.length) (hq : FrIs (ironAt xs v) n d) : -216 ≤ n ∧ n ≤ 216 ∧ 1 ≤ d ∧ d ≤ 36 := by
  obtain ⟨h', i1, i2, i3⟩ := ironL_some xs xs.length xs.length v (Nat.le_refl _) hlt
  have e : ironAt xs v = (steep xs h').2 := i3
  rw [e] at hq
  exact steep_bd hv i1 i2 hq

theorem iron_virt {xs : List Int} (hr : regB xs = true) : ironed xs = virtL xs := by
  have hv : vW xs = true := by
    unfold regB at hr
    simp only [Bool.and_eq_true] at hr
    exact hr.1
  apply List.ext_getElem?
  intro j
  by_cases hj : j < xs.length
  · rw [ironed_get hj, virtL_at hj, iron_reg (vW_valid hv) (regB_reg hr) hj]
  · rw [List.getElem?_eq_none (by rw [ironed_len]; omega), List.getElem?_eq_none (by rw [virtL_len]; omega)]

theorem IronedOf_p (A : Option Addr) (c : Nat) (xs : List Int) (w : World) (h : Rd w A c xs) (hcc : xs.length ≤ c) (hl : xs.length ≤ 1048576) :
    Calls Try.prog 22 #[.slice A xs.length c] w (OutP w (psOf (ironO xs))) := (IronedOf_any A c xs w h hcc hl).mono fun _ _ h => h.own
theorem SIronedOf_p (A : Option Addr) (c : Nat) (xs : List Int) (w : World) (h : Rd w A c xs) (hl : xs.length ≤ 1048576) :
    Calls Try.prog 30 #[.slice A xs.length c] w (OutP w (psOf (ironO xs))) := (SIronedOf_any A c xs w h hl).mono fun _ _ h => h.own

set_option maxRecDepth 100000 in
set_option maxHeartbeats 4000000 in
theorem fnIronedOf_walk {A : Option Addr} {c : Nat} {xs : List Int} {w : World} (h : Came .u8 w A c xs) :
    Calls Try.prog 6 #[.slice A xs.length c] w fun e w' => e = .returned (.bool true) ∧ Below w.heap.size w w' := by
  by_cases hlen : 1048576 < xs.length
  · go_enter Try.func6, Try.ntmps6
    go_wp2
    go_ret
    exact ⟨rfl, Below.refl _ _⟩
  have hl0 : xs.length ≤ 1048576 := by omega
  clear hlen
  go_enter Try.func6, Try.ntmps6
  go_wp2_with fail
  refine (DrawIronedOf_any A c xs w h).mono ?_
  rintro e w1 ⟨A1, c1, ys, rfl, hrd, hcc, hy, B1⟩
  have hy1 : ys.length ≤ 1048576 := by omega
  clear h hl0
  have HI := Lib.hid (fun w h => IronedOf_p A1 c1 ys w h hcc hy1)
  have HS := Lib.hid (fun w h => SIronedOf_p A1 c1 ys w h hy1)
  have HRG := Lib.hid (fun w h => IsRegular_any A1 c1 ys w h hcc hy1)
  have HVI := Lib.hid (fun w h => VirtualOf_p A1 c1 ys w h hcc hy1)
  cases hv : vW ys with
  | false =>
    have e1 : ironO ys = none := by unfold ironO; rw [hv]; rfl
    rw [e1] at HI HS
    obtain ⟨ps, hps⟩ : ∃ ps, ps = psOf none := ⟨_, rfl⟩
    rw [← hps] at HI HS
    have hp0 : ps.length = 0 := by rw [hps]; rfl
    have hpl : ps.length ≤ 1099511627776 := by omega
    have hpe : ((ps.length : Int) == 0) = true := by rw [hp0]; rfl
    clear hv e1 hps hp0 HRG HVI
    go_wp2_with fail
    refine (HI.out _ hrd).mono ?_
    rintro e w2 ⟨A2, c2, rfl, o2, b2⟩
    go_wp2_with fail
    refine (HS.out _ (hrd.below b2)).mono ?_
    rintro e w3 ⟨A3, c3, rfl, o3, b3⟩
    have o23 := o2.below b3
    go_wp2_with fail
    refine (equalFracs_same _ _ _ _ ps _ o23.rd o3.rd hpl).mono ?_
    rintro e w4 ⟨rfl, b4⟩
    go_wp2_with fail
    refine (HS.out _ (((hrd.below b2).below b3).below b4)).mono ?_
    rintro e w5 ⟨A5, c5, rfl, o5, b5⟩
    go_wp2_with fail
    refine (equalFracs_same _ _ _ _ ps _ ((o23.below b4).below b5).rd o5.rd hpl).mono ?_
    rintro e w6 ⟨rfl, b6⟩
    go_wp2
    go_ret
    exact ⟨rfl, B1.trans ((below_up (below_up (below_up (below_up b2 b3) b4) b5) b6).mono B1.size)⟩
  | true =>
    have HV := Lib.hid hv
    obtain ⟨l1, l2⟩ := vW_le hv
    have e1 : psOf (ironO ys) = frL (ironed ys) := ironO_yes hv
    have e2 : psOf (virtO ys) = frL (virtL ys) := virtO_yes hv
    rw [e1] at HI HS
    rw [e2] at HVI
    have hlp : (frL (ironed ys)).length = ys.length := ironO_len
    obtain ⟨ps, hps⟩ : ∃ ps, ps = frL (ironed ys) := ⟨_, rfl⟩
    rw [← hps] at HI HS hlp
    have hpl : ps.length ≤ 1099511627776 := by omega
    have hpe : ((ps.length : Int) == 0) = false := beq_eq_false_iff_ne.2 (by omega)
    have hpy : ((ps.length : Int) == (ys.length : Int)) = true := by rw [hlp]; simp
    have hpp : 0 < ps.length := by omega
    have HP := Lib.hid hps
    have HLP := Lib.hid hlp
    clear hv e1 e2 hps hlp
    go_wp2_with fail
    refine (HI.out _ hrd).mono ?_
    rintro e w2 ⟨A2, c2, rfl, o2, b2⟩
    go_wp2_with fail
    refine (HS.out _ (hrd.below b2)).mono ?_
    rintro e w3 ⟨A3, c3, rfl, o3, b3⟩
    have o23 := o2.below b3
    go_wp2_with fail
    refine (equalFracs_same _ _ _ _ ps _ o23.rd o3.rd hpl).mono ?_
    rintro e w4 ⟨rfl, b4⟩
    have o4 := o23.below b4
    have r4 := ((hrd.below b2).below b3).below b4
    have B4 := B1.trans ((below_up (below_up b2 b3) b4).mono B1.size)
    obtain ⟨g, rfl⟩ := ownF_addr o4 hpp
    clear HI HS o2 o3 o23 b2 b3 b4 B1 hrd
    go_wp2
    go_loopw [5] (fun i wr => ∃ j : Nat, j + 1 ≤ ps.length ∧ i = .int .i64 ((j : Int) + 1) ∧ Below w4.heap.size w4 wr) (fun i _ => ps.length - (intOf i).toNat)
    case atStart => exact ⟨0, hpp, rfl, Below.refl _ _⟩
    case round =>
      obtain ⟨j, hj, rfl, hb⟩ := hrel
      have ok := o4.below hb
      by_cases hlt : j + 1 < ps.length
      · have hjy : j + 1 < ys.length := by have := HLP.out; omega
        obtain ⟨n, hn⟩ : ∃ n, n = (ironAt ys (j + 1)).num := ⟨_, rfl⟩
        obtain ⟨d, hd⟩ : ∃ d, d = ((ironAt ys (j + 1)).den : Int) := ⟨_, rfl⟩
        obtain ⟨n', hn'⟩ : ∃ n, n = (ironAt ys j).num := ⟨_, rfl⟩
        obtain ⟨d', hd'⟩ : ∃ d, d = ((ironAt ys j).den : Int) := ⟨_, rfl⟩
        have hq : FrIs (ironAt ys (j + 1)) n d := ⟨hn, hd⟩
        have hq' : FrIs (ironAt ys j) n' d' := ⟨hn', hd'⟩
        obtain ⟨v1, v2, v3, v4⟩ := iron_bd HV.out hjy hq
        obtain ⟨v5, v6, v7, v8⟩ := iron_bd HV.out (show j < ys.length by omega) hq'
        have HLL := Lib.hid (show lessF n d n' d' = false by rw [lessF_is hq hq']; exact decide_eq_false (Rat.not_lt.2 (iron_rise (vW_valid HV.out) hjy)))
        obtain ⟨u1, u2⟩ := mul_bd v1 v2 v7 v8 (by omega)
        obtain ⟨u3, u4⟩ := mul_bd v5 v6 v3 v4 (by omega)
        have hg := frL_get (ironed_get hjy) hq
        have hg' := frL_get (ironed_get (show j < ys.length by omega)) hq'
        rw [← HP.out] at hg hg'
        obtain ⟨hc1, hc2⟩ := ok.cell hg
        obtain ⟨hc3, hc4⟩ := ok.cell hg'
        have hgl : g < wr.heap.size := World.block_lt_of_cell? wr _ hc1
        have h1 : (j : Int) + 1 < (ps.length : Int) := by omega
        have h2 : IntKind.i64.wrap (j : Int) = (j : Int) := IntWalk.i64_in _ (by omega)
        have h3 : (j : Int) < (ps.length : Int) := by omega
        have h4 : (0 : Int) ≤ (j : Int) + 1 := by omega
        have h5 : ((j : Int) + 1).toNat = j + 1 := by omega
        have h6 : (0 : Int) ≤ (j : Int) := by omega
        clear hn hd hq hg hn' hd' hq' hg'
        go_wp2_with fail
        go_region_held3 (fun w' => w'.cell? ⟨g, (j + 1) * 2, none⟩ = some (.int .i64 n) ∧ w'.cell? ⟨g, (j + 1) * 2 + 1, none⟩ = some (.int .i64 d) ∧ w'.cell? ⟨g, j * 2, none⟩ = some (.int .i64 n') ∧ w'.cell? ⟨g, j * 2 + 1, none⟩ = some (.int .i64 d') ∧ Below w4.heap.size w4 w')
          (first | exact ⟨hc1, hc2, hc3, hc4, hb.drew⟩ | exact ⟨hc5, hc6, hc7, hc8, B5⟩)
          (first
          | (go_at_call 26; refine (lessOf_any n d n' d' false _ HLL.out (by omega) (by omega) (by omega) (by omega)).mono ?_; rintro e w5 ⟨rfl, b5⟩; have B5 := hb.drew.trans (b5.mono hb.size); have hc5 := (b5.cell (p := ⟨g, (j + 1) * 2, none⟩) hgl).trans hc1; have hc6 := (b5.cell (p := ⟨g, (j + 1) * 2 + 1, none⟩) hgl).trans hc2; have hc7 := (b5.cell (p := ⟨g, j * 2, none⟩) hgl).trans hc3; have hc8 := (b5.cell (p := ⟨g, j * 2 + 1, none⟩) hgl).trans hc4))
        all_goals
          go_wp2
          go_roundw
          case rel => exact ⟨j + 1, by omega, by go_num, B5⟩
          case measure => simp [intOf] <;> omega
      · have hje : (j : Int) + 1 = (ps.length : Int) := by omega
        have r5 := r4.below hb
        have hdl : decide ((j : Int) + 1 < (ps.length : Int)) = false := by simp; omega
        cases hrg : regB ys with
        | false =>
          rw [hrg] at HRG
          clear hrg hje hlt
          go_wp2_with fail
          refine (HRG.out _ r5).mono ?_
          rintro e w5 ⟨rfl, b5⟩
          go_wp2
          go_ret
          exact ⟨rfl, B4.trans ((below_up hb b5).mono B4.size)⟩
        | true =>
          have hev : frL (virtL ys) = ps := by rw [HP.out, iron_virt hrg]
          rw [hrg] at HRG
          rw [hev] at HVI
          clear hrg hje hlt hev
          go_wp2_with fail
          refine (HRG.out _ r5).mono ?_
          rintro e w5 ⟨rfl, b5⟩
          go_wp2_with fail
          refine (HVI.out _ (r5.below b5)).mono ?_
          rintro e w6 ⟨A6, c6, rfl, o6, b6⟩
          go_wp2_with fail
          refine (equalFracs_same _ _ _ _ ps _ ((ok.below b5).below b6).rd o6.rd hpl).mono ?_
          rintro e w7 ⟨rfl, b7⟩
          go_wp2
          go_ret
          exact ⟨rfl, B4.trans ((below_up (below_up (below_up hb b5) b6) b7).mono B4.size)⟩

end Go.Proofs.Ytoipjhdnmiomeaa
