/-
  The walk of the law of RestsOf.
-/
import Derived.Test.YtcbhjcbbjegmiaaFnRestTruth
import Derived.Test.YtcbhjcbbjegmiaaPlG
import Derived.Test.YtcbhjcbbjegmiaaFnGain
namespace Go.Proofs.Ytcbhjcbbjegmiaa
open Go.RowKit

set_option maxHeartbeats 2000000 in
theorem inRows_yes {B c : Nat} {A : Option Addr} {v : Value} {ps : List (Nat × Nat × List Int)} {ys : List Int} (w : World) (h : RowsIn w B v ps) (hr : Rd w A c ys) (hm : ys ∈ ps.map (·.2.2)) (hl : ps.length ≤ 1000) (hp : ∀ p ∈ ps, p.2.2.length ≤ 3) :
    Calls Try.prog 35 #[v, .slice A ys.length c] w (BoolAt w true) := by
  rcases h.shape with ⟨rfl, rfl⟩ | ⟨g, c5, rfl, _⟩
  · simp at hm
  · have hgl : g < w.heap.size := (World.ownsRow.lt h.row g rfl).2
    have HP := Lib.hid hp
    have HM := Lib.hid hm
    clear hm hp
    go_enter Try.func35, Try.ntmps35
    go_wp2
    go_loopw [5] (fun i wr => ∃ j : Nat, j ≤ ps.length ∧ i = .int .i64 j ∧ Below w.heap.size w wr ∧ Hid (ys ∉ (ps.take j).map (·.2.2))) (fun i _ => ps.length - (intOf i).toNat)
    case atStart => exact ⟨0, Nat.zero_le _, rfl, Below.refl _ _, Lib.hid (by simp)⟩
    case round =>
      obtain ⟨j, hj, rfl, hb, HN⟩ := hrel
      by_cases hlt : j < ps.length
      · obtain ⟨p, hpj⟩ : ∃ p, ps[j]? = some p := ⟨_, List.getElem?_eq_getElem hlt⟩
        have hcp := (h.below hb).cell_of hpj
        have HR := Lib.hid ((h.below hb).each p (List.mem_of_getElem? hpj)).rd
        have HY := Lib.hid (hr.below hb)
        have hpl := HP.out p (List.mem_of_getElem? hpj)
        have HT : Hid (ps.take (j + 1) = ps.take j ++ [p]) := Lib.hid (by rw [List.take_add_one, hpj]; rfl)
        obtain ⟨pg, pc, pl⟩ := p
        simp only [slOf] at hcp
        simp only at hpl
        clear hpj
        obtain ⟨q, hq⟩ : ∃ q, eqB pl ys = q := ⟨_, rfl⟩
        have HC := Lib.hid ((equalInts_any _ _ _ _ pl ys wr HR.out HY.out (by omega)).mono (R' := fun e w' => e = .returned (.bool q) ∧ ∃ n, w' = wr.drewN n) (by rw [hq]; exact fun _ _ h => h))
        have HQ := Lib.hid hq
        clear hq
        cases q with
        | true =>
          go_wp2_with (go_at_call 18; refine HC.out.mono ?_; rintro e w2 ⟨rfl, n2, rfl⟩)
          go_ret
          exact ⟨rfl, below_drewN' hb _⟩
        | false =>
          have HN2 : Hid (ys ∉ (ps.take (j + 1)).map (·.2.2)) := Lib.hid (by
            rw [HT.out, List.map_append, List.mem_append]
            intro hh
            rcases hh with hh | hh
            · exact HN.out hh
            · have : ys = pl := by simpa using hh
              have h2 := HQ.out
              rw [this, eqB_self] at h2
              cases h2)
          go_wp2_with (go_at_call 18; refine HC.out.mono ?_; rintro e w2 ⟨rfl, n2, rfl⟩)
          go_roundw
          case rel => exact ⟨j + 1, by omega, by go_num, below_drewN' hb _, HN2⟩
          case measure => simp [intOf]; omega
      · exfalso
        obtain rfl : j = ps.length := by omega
        have := HN.out
        rw [List.take_length] at this
        exact this HM.out

theorem wB_mk {xs : List Int} {i : Nat} (hv : vB xs = true) (hi : i < xs.length) : wB xs i = true := by
  simp only [wB, hv, Bool.true_and]
  exact inR_true.2 (by omega)

/-- Whether the first ones are no more than t. -/
def insideF (ys : List Int) (t : Int) (j : Nat) : Bool := (ys.take j).all (fun x => decide (x ≤ t))
theorem inside_up {ys : List Int} {t x : Int} {j : Nat} (hx : ys[j]? = some x) : insideF ys t (j + 1) = (insideF ys t j && decide (x ≤ t)) := by
  unfold insideF
  rw [List.take_add_one, hx]
  simp [List.all_append]

set_option maxRecDepth 100000 in
set_option maxHeartbeats 8000000 in
theorem fnRestsOf_walk {A : Option Addr} {c : Nat} {xs : List Int} {w : World} (h : Came .u8 w A c xs) :
    Calls Try.prog 8 #[.slice A xs.length c] w fun e w' => e = .returned (.bool true) ∧ Below w.heap.size w w' := by
  by_cases hlen : 1048576 < xs.length
  · go_enter Try.func8, Try.ntmps8
    go_wp2
    go_ret
    exact ⟨rfl, Below.refl _ _⟩
  have hl0 : xs.length ≤ 1048576 := by omega
  clear hlen
  go_enter Try.func8, Try.ntmps8
  go_wp2_with fail
  refine (DrawRestsOf_any A c xs w h).mono ?_
  rintro e w1 ⟨s, A1, c1, ys, t, _, rfl, hrd, hy, B1⟩
  clear h hl0
  obtain ⟨rs, hS, hI, hrl, hrb, hcs⟩ := RestsOf_laid s ys t (by omega)
  have HS := Lib.hid hS
  have HI := Lib.hid hI
  have HB := Lib.hid hrb
  have HC := Lib.hid hcs
  clear hS hI hrb hcs
  go_wp2_with fail
  refine (HI.out _ _ _ hrd).mono ?_
  rintro e w2 ⟨v, ps, rfl, R2, hps, b2⟩
  have r2 := hrd.below b2
  go_wp2_with fail
  refine (HS.out _ _ _ r2).mono ?_
  rintro e w3 ⟨u, qs, rfl, R3, hqs, b3⟩
  obtain ⟨hpl, hpp⟩ : ps.length ≤ 1000 ∧ (∀ p ∈ ps, p.2.2.length ≤ 3) := by
    subst hps
    exact ⟨by simpa using hrl, fun p hp => HB.out _ (List.mem_map.2 ⟨p, hp, rfl⟩)⟩
  have HPP := Lib.hid hpp
  have HPS := Lib.hid hps
  have HE := Lib.hid (equalRows_same w3 (R2.below b3) R3 (by rw [hps, hqs]) hpl (fun p hp => by have := hpp p hp; omega))
  have B3 := (B1.trans (b2.mono B1.size)).trans (b3.mono (Nat.le_trans B1.size b2.size))
  have r3 := r2.below b3
  have R2' := R2.below b3
  clear hps hqs R2 R3 b2 b3 B1 hrd r2 HB HI hrl hpp
  go_wp2_with fail
  refine HE.out.mono ?_
  rintro e w4 ⟨rfl, b4⟩
  have B4 := B3.trans (b4.mono B3.size)
  have r4 := r3.below b4
  have R4 := R2'.below b4
  clear B3 r3 b4 HE R2'
  by_cases he : ps.length = 0
  · have hps0 : ps = [] := List.eq_nil_of_length_eq_zero he
    subst hps0
    rcases R4.shape with ⟨_, rfl⟩ | ⟨g5, c5, rfl, _⟩
    all_goals
      go_wp2_with fail
      refine (HS.out _ _ _ r4).mono ?_
      rintro e w5 ⟨u5, q5, rfl, R5, hq5, b5⟩
      go_wp2_with fail
      refine (equalRows_same w5 (R4.below b5) R5 (by rw [hq5]; exact HPS.out) (by simp) (by simp)).mono ?_
      rintro e w6 ⟨rfl, b6⟩
      go_wp2
      go_ret
      exact ⟨rfl, (B4.trans (b5.mono B4.size)).trans (b6.mono (Nat.le_trans B4.size b5.size))⟩
  rcases R4.shape with ⟨hps0, _⟩ | ⟨g5, c5, rfl, _⟩
  · rw [hps0] at he; simp at he
  have d1 : ((ps.length : Int) == 0) = false := by simpa using he
  rcases HC.out with ⟨kd, t', hk, hv, hl3, rfl, ht5, hrs⟩ | hrs
  rotate_left
  · exfalso
    have := HPS.out
    rw [hrs] at this
    have := congrArg List.length this
    simp at this
    exact he (by simp [this])
  have HRS : Hid (∀ p ∈ ps, p.2.2 ∈ restsF kd ys ys.length t') := Lib.hid (fun p hp => by rw [← hrs, ← HPS.out]; exact List.mem_map.2 ⟨p, hp, rfl⟩)
  have hy1 := (vB_le hv).1
  obtain ⟨b, off, rfl, hcell⟩ := r4.open_ hy1
  have HV := Lib.hid hv
  have HCL := Lib.hid hcell
  have hbl : b < w4.heap.size := by
    obtain ⟨x, hx⟩ := at_some (xs := ys) (k := 0) (by omega)
    exact World.block_lt_of_cell? w4 _ (hcell 0 x hx)
  have hgl : g5 < w4.heap.size := (World.ownsRow.lt R4.row g5 rfl).2
  have HRSE := Lib.hid hrs
  clear HC HS hcell he hv hrs
  go_wp2
  go_loopw [7, 8] (fun o i wr => ∃ (j : Nat) (ok : Bool), j ≤ ys.length ∧ i = .int .i64 j ∧ o = .bool ok ∧ Hid (ok = insideF ys t' j) ∧ Below w4.heap.size w4 wr) (fun _ i _ => ys.length - (intOf i).toNat)
  case atStart => exact ⟨0, true, Nat.zero_le _, rfl, rfl, Lib.hid rfl, Below.refl _ _⟩
  case round =>
    obtain ⟨j, ok, hj, rfl, rfl, HK, hb0⟩ := hrel
    by_cases hlt : j < ys.length
    · obtain ⟨x, hx⟩ := at_some hlt
      have hcx := (hb0.cell (p := ⟨b, off + j, none⟩) hbl).trans (HCL.out j x hx)
      obtain ⟨o2, ho2⟩ : ∃ o2, o2 = decide (x ≤ (t' : Int)) := ⟨_, rfl⟩
      have HU := Lib.hid (inside_up (t := (t' : Int)) hx)
      have HO := Lib.hid ho2
      cases ok with
      | true =>
        have ho3 : decide (x ≤ (t' : Int)) = o2 := ho2.symm
        clear hx ho2
        go_wp2
        go_roundw
        case rel => exact ⟨j + 1, o2, by omega, by go_num, rfl, Lib.hid (by rw [HU.out, ← HK.out, HO.out]; simp), hb0⟩
        case measure => simp [intOf]; omega
      | false =>
        clear hx ho2
        go_wp2
        go_roundw
        case rel => exact ⟨j + 1, false, by omega, by go_num, rfl, Lib.hid (by rw [HU.out, ← HK.out]; rfl), hb0⟩
        case measure => simp [intOf]; omega
    · obtain rfl : j = ys.length := by omega
      have hyl2 : ys.length ≤ 1099511627776 := by omega
      have hyl1 : ys.length ≤ 1048576 := by omega
      have hb0s := hb0.size
      go_wp2
      go_loopw [9, 10, 11, 12, 13, 14, 15, 16] (fun i _ _ _ _ _ _ _ wr => ∃ k : Nat, k ≤ ps.length ∧ i = .int .i64 k ∧ Below w4.heap.size w4 wr) (fun i _ _ _ _ _ _ _ _ => ps.length - (intOf i).toNat)
      case atStart => exact ⟨0, Nat.zero_le _, rfl, hb0⟩
      case round =>
        obtain ⟨k, hk2, rfl, hb1⟩ := hrel
        by_cases hltk : k < ps.length
        · obtain ⟨p, hpk⟩ : ∃ p, ps[k]? = some p := ⟨_, List.getElem?_eq_getElem hltk⟩
          have hpm := List.mem_of_getElem? hpk
          have hmem := HRS.out p hpm
          have hft := rests_fit hmem
          have HMEM := Lib.hid hmem
          have HFL := Lib.hid hft.1
          have HVP := Lib.hid (fit_vB hft hy1 hl3 ht5)
          have HPK := Lib.hid hpk
          have HPM := Lib.hid hpm
          clear hpk hpm hmem hft
          go_wp2
          go_loopw [10, 11, 12, 13, 14, 15, 16] (fun i _ _ _ _ _ _ wr => ∃ m : Nat, m ≤ ys.length ∧ i = .int .i64 m ∧ Below w4.heap.size w4 wr) (fun i _ _ _ _ _ _ _ => ys.length - (intOf i).toNat)
          case atStart => exact ⟨0, Nat.zero_le _, rfl, hb1⟩
          case round =>
            obtain ⟨m, hm, rfl, hb2⟩ := hrel
            by_cases hltm : m < ys.length
            · obtain ⟨x, hx⟩ := at_some hltm
              have hcx := (hb2.cell (p := ⟨b, off + m, none⟩) hbl).trans (HCL.out m x hx)
              have hcp := (R4.below hb2).cell_of HPK.out
              have HRP := Lib.hid ((R4.below hb2).each p HPM.out).rd
              have hxv : inR x 0 30 = true := by
                have := HV.out
                simp only [vB, Bool.and_eq_true, List.all_eq_true] at this
                exact this.2 x (List.mem_of_getElem? hx)
              obtain ⟨now, hnow⟩ : ∃ now, now = gainF kd p.2.2 m x 0 := ⟨_, rfl⟩
              have HNW := Lib.hid hnow
              have HX := Lib.hid hx
              have HXV := Lib.hid hxv
              have hpl3 : p.2.2.length ≤ 1048576 := by have := HFL.out; omega
              have HWP : Hid (wB p.2.2 m = true) := Lib.hid (wB_mk HVP.out (by have := HFL.out; omega))
              obtain ⟨pg, pc, pl⟩ := p
              simp only [slOf] at hcp
              clear hnow hx hxv
              go_wp2_with fail
              go_region_with (go_at_call 23; refine (GainOf_is (q := now) s kd (some ⟨pg, 0, none⟩) pc pl m x 0 _ rfl HNW.out hk ?_ hpl3 HWP.out HXV.out (by decide)).mono ?_; exact HRP.out; rintro e w6 ⟨rfl, b6⟩; have B6 := hb2.drew.trans (b6.mono hb2.size))
              all_goals
                have hmp : m < pl.length := by have h9 : pl.length = ys.length := HFL.out; omega
                have hpl2 : pl.length ≤ 1099511627776 := by omega
                clear hcx hcp
                go_wp2_with fail
                go_loopw [13, 14, 15, 16] (fun i _ _ _ wr => ∃ n : Nat, n ≤ t' + 1 ∧ i = .int .i64 n ∧ Below w4.heap.size w4 wr) (fun i _ _ _ _ => t' + 1 - (intOf i).toNat)
                case atStart => exact ⟨0, Nat.zero_le _, rfl, B6⟩
                case round =>
                  obtain ⟨n, hn, rfl, hb3⟩ := hrel
                  by_cases hltn : n ≤ t'
                  · have hc0 := (Below.refl wr.heap.size wr).alloc (Nat.le_refl _) (.cells #[] 3)
                    have rr : Rd (wr.alloc (.cells #[] 3)) (some ⟨pg, 0, none⟩) pc pl := (((R4.below hb3).each (pg, pc, pl) HPM.out).rd).below hc0
                    have hcp1 := (R4.below hb3).cell_of HPK.out
                    have hcp2 := ((R4.below hb3).below hc0).cell_of HPK.out
                    simp only [slOf] at hcp1 hcp2
                    have hbw : b < wr.heap.size := Nat.lt_of_lt_of_le hbl hb3.size
                    have hcx3 := (hb3.cell (p := ⟨b, off + m, none⟩) hbl).trans (HCL.out m x HX.out)
                    obtain ⟨zs, hZ⟩ : ∃ zs, zs = pl.set m (n : Int) := ⟨_, rfl⟩
                    obtain ⟨g, hg⟩ : ∃ g, g = gB kd pl m x 0 n := ⟨_, rfl⟩
                    have hle : g ≤ now := by rw [hg, HNW.out]; exact rest_low HMEM.out hmp HX.out hltn
                    have d5 : decide (now < g) = false := by simp; omega
                    obtain ⟨y, hyy⟩ := at_some hmp
                    have HYY := Lib.hid hyy
                    have HZ := Lib.hid hZ
                    have HGQ : Hid (g = gainF kd zs m x 0) := Lib.hid (by rw [hg, hZ]; rfl)
                    have HZL : Hid (zs.length = pl.length) := Lib.hid (by rw [hZ, List.length_set])
                    have HWZ : Hid (wB zs m = true) := Lib.hid (by rw [hZ]; exact wB_set HWP.out (by omega) (by omega))
                    clear hZ hg hyy hle
                    go_wp2_with (first
                      | (at_builtin; refine wpList_clone rfl _ _ rfl wr.heap.size wr.heap.size rfl (own_empty wr) _ _ pl rfl rr hpl2 hc0.size ?_; intro g7 c7 w7 o7 b7; have hc7 := o7.cell HYY.out; have hf7 := o7.free m; have o8 := o7.set_ m n; have b8 := (hc0.trans b7).setCell (p := ⟨g7, m, none⟩) o7.ge (.int .i64 (n : Int)); have hcx8 := (b8.cell (p := ⟨b, off + m, none⟩) hbw).trans hcx3; have O8 := Lib.hid o8; clear o8)
                      | (go_at_call 23; refine (GainOf_is (q := g) s kd _ _ zs m x 0 _ HZL.out HGQ.out hk ?_ hpl3 HWZ.out HXV.out (by decide)).mono ?_; (rw [HZ.out]; exact O8.out.rd); rintro e w9 ⟨rfl, b9⟩))
                    go_roundw
                    case rel => exact ⟨n + 1, by omega, by go_num, (hb3.trans (b8.mono hb3.size)).trans (b9.mono (Nat.le_trans hb3.size b8.size))⟩
                    case measure => simp [intOf]; omega
                  · obtain rfl : n = t' + 1 := by omega
                    go_wp2
                    go_roundw
                    case rel => exact ⟨m + 1, by omega, by go_num, hb3⟩
                    case measure => simp [intOf]; omega
            · obtain rfl : m = ys.length := by omega
              go_wp2
              go_roundw
              case rel => exact ⟨k + 1, by omega, by go_num, hb2⟩
              case measure => simp [intOf]; omega
        · obtain rfl : k = ps.length := by omega
          by_cases h2 : kd = 2
          · subst h2
            obtain rfl : s = ⟨#[115, 101, 99, 111, 110, 100]⟩ := by
              rcases hk with ⟨h, _⟩ | ⟨_, h⟩ | ⟨h, _⟩ | ⟨h, _⟩
              · cases h
              · exact h
              · cases h
              · cases h
            cases ok with
            | false =>
              go_wp2
              go_ret
              exact ⟨rfl, B4.trans (hb1.mono B4.size)⟩
            | true =>
              have hin : ys ∈ ps.map (·.2.2) := by
                rw [HPS.out, HRSE.out]
                refine second_in ⟨rfl, fun x hx => ?_⟩ hy1 hl3 ht5
                have h3 := HV.out
                simp only [vB, Bool.and_eq_true, List.all_eq_true] at h3
                have h4 := inR_true.1 (h3.2 x hx)
                have h5 := HK.out
                unfold insideF at h5
                rw [List.take_length] at h5
                have h6 := List.all_eq_true.1 h5.symm x hx
                exact ⟨h4.1, by simpa using h6⟩
              have HIN := Lib.hid (inRows_yes wr (R4.below hb1) ((show Rd w4 (some ⟨b, off, none⟩) c1 ys from r4).below hb1) hin hpl HPP.out)
              clear hin
              go_wp2_with (go_at_call 35; refine HIN.out.mono ?_; rintro e w8 ⟨rfl, b8⟩)
              go_ret
              exact ⟨rfl, B4.trans ((hb1.trans (b8.mono hb1.size)).mono B4.size)⟩
          · have hns : (s.toList == [115, 101, 99, 111, 110, 100]) = false := by
              rcases hk with ⟨_, rfl⟩ | ⟨h, _⟩ | ⟨_, rfl⟩ | ⟨_, rfl⟩
              · simp [Lib.toList_data]
              · exact absurd h h2
              · simp [Lib.toList_data]
              · simp [Lib.toList_data]
            have hns2 : (s.toList != [115, 101, 99, 111, 110, 100]) = true := by simp [bne, hns]
            go_wp2
            go_ret
            exact ⟨rfl, B4.trans (hb1.mono B4.size)⟩

end Go.Proofs.Ytcbhjcbbjegmiaa
