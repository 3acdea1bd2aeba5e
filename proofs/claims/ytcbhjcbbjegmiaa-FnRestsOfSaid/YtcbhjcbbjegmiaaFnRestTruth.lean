/-
  The walk of the law that where two rest by first, nearly the one with the greatest value has the thing.
-/
import Derived.Test.YtcbhjcbbjegmiaaGridE
import Derived.Test.YtcbhjcbbjegmiaaPlF
import Derived.IntWalk
namespace Go.Proofs.Ytcbhjcbbjegmiaa
open Go.RowKit

theorem fit_vB {t n : Nat} {b : List Int} (h : Fit t n b) (hn1 : 1 ≤ n) (hn : n ≤ 3) (ht : t ≤ 5) : vB b = true := by
  have h1 := h.1
  simp only [vB, Bool.and_eq_true, List.all_eq_true]
  refine ⟨inR_true.2 (by omega), fun x hx => inR_true.2 ?_⟩
  have := h.2 x hx
  omega

theorem SaleBy_is {a : Int} (s : ByteArray) (kd : Nat) (A : Option Addr) (c : Nat) (xs : List Int) (r : Int) (w : World) (ha : a = atOf xs r) (hk : KindIs s kd) (h : Rd w A c xs) (hv : vB xs = true) (hr : inR r 0 30 = true) :
    Calls Try.prog 16 #[.string s, .slice A xs.length c, .int .i64 r] w fun e w' =>
      ∃ g c', e = .returned (.tuple #[.int .i64 a, .slice (some ⟨g, 0, none⟩) xs.length c']) ∧ Own w' w.heap.size (some ⟨g, 0, none⟩) c' (payOf kd xs r) ∧ Below w.heap.size w w' := by
  rw [ha]; exact SaleBy_yes s kd A c xs r w hk h hv hr

/-- What is known of a rest of two. -/
theorem fair_parts {x y : Nat} {b : List Int} (h : fairAt x y b = true) (hb : b.length = 2) :
    (∃ p : Int, (0 : Int) = atOf b 0 ∧ (payOf 1 b 0)[0]? = some p ∧ p ≤ x ∧ (y : Int) - 1 ≤ x) ∨ (∃ p : Int, (1 : Int) = atOf b 0 ∧ (payOf 1 b 0)[1]? = some p ∧ p ≤ y ∧ (x : Int) - 1 ≤ y) := by
  unfold fairAt at h
  simp only [Bool.and_eq_true, decide_eq_true_eq] at h
  obtain ⟨⟨⟨h1, h2⟩, h3⟩, h4⟩ := h
  have hl : (payOf 1 b 0).length = 2 := by rw [payOf_len, hb]
  have ha : atOf b 0 = 0 ∨ atOf b 0 = 1 := by omega
  rcases ha with ha | ha
  · rw [ha] at h3 h4
    obtain ⟨p, hp⟩ := at_some (xs := payOf 1 b 0) (k := 0) (by omega)
    refine .inl ⟨p, ha.symm, hp, ?_, ?_⟩
    · have : (payOf 1 b 0).getD 0 0 ≤ (x : Int) := h3
      rwa [getD_of hp] at this
    · exact h4
  · rw [ha] at h3 h4
    obtain ⟨p, hp⟩ := at_some (xs := payOf 1 b 0) (k := 1) (by omega)
    refine .inr ⟨p, ha.symm, hp, ?_, ?_⟩
    · have : (payOf 1 b 0).getD 1 0 ≤ (y : Int) := h3
      rwa [getD_of hp] at this
    · exact h4

set_option maxRecDepth 100000 in
set_option maxHeartbeats 8000000 in
theorem fnRestsOfTruth_walk {A : Option Addr} {c : Nat} {xs : List Int} {w : World} (h : Came .u8 w A c xs) :
    Calls Try.prog 9 #[.slice A xs.length c] w fun e w' => e = .returned (.bool true) ∧ Below w.heap.size w w' := by
  by_cases hlen : 1048576 < xs.length
  · go_enter Try.func9, Try.ntmps9
    go_wp2
    go_ret
    exact ⟨rfl, Below.refl _ _⟩
  have hl0 : xs.length ≤ 1048576 := by omega
  clear hlen
  go_enter Try.func9, Try.ntmps9
  go_wp2_with fail
  refine (DrawRestsOf_any A c xs w h).mono ?_
  rintro e w1 ⟨s, A1, c1, ys, t, _, rfl, hrd, hy, B1⟩
  clear h hl0
  obtain ⟨rs, hS, hI, hrl, hrb, _⟩ := RestsOf_laid s ys t (by omega)
  obtain ⟨rf, _, hF, hfl, hfb, hfc⟩ := RestsOf_laid ⟨#[102, 105, 114, 115, 116]⟩ ys t (by omega)
  have HS := Lib.hid hS
  have HI := Lib.hid hI
  have HF := Lib.hid hF
  have HB := Lib.hid hrb
  have HFC := Lib.hid hfc
  clear hS hI hF hrb hfb hfc
  go_wp2_with fail
  refine (HI.out _ _ _ hrd).mono ?_
  rintro e w2 ⟨v, ps, rfl, R2, hps, b2⟩
  have r2 := hrd.below b2
  go_wp2_with fail
  refine (HS.out _ _ _ r2).mono ?_
  rintro e w3 ⟨u, qs, rfl, R3, hqs, b3⟩
  have hpl : ps.length ≤ 1000 := by rw [← hps, List.length_map] at hrl; exact hrl
  have HE := Lib.hid (equalRows_same w3 (R2.below b3) R3 (by rw [hps, hqs]) hpl (fun p hp => by have := HB.out p.2.2 (by rw [← hps]; exact List.mem_map.2 ⟨p, hp, rfl⟩); omega))
  have B3 := (B1.trans (b2.mono B1.size)).trans (b3.mono (Nat.le_trans B1.size b2.size))
  have r3 := r2.below b3
  clear hps hqs R2 R3 b2 b3 B1 hrd r2 HB HS HI hrl hpl
  go_wp2_with fail
  refine HE.out.mono ?_
  rintro e w4 ⟨rfl, b4⟩
  have B4 := B3.trans (b4.mono B3.size)
  have r4 := r3.below b4
  clear B3 r3 b4 HE
  go_wp2_with fail
  refine (HF.out _ _ _ r4).mono ?_
  rintro e w5 ⟨v5, p5, rfl, R5, hp5, b5⟩
  have B5 := B4.trans (b5.mono B4.size)
  have r5 := r4.below b5
  have hfl5 : p5.length ≤ 1000 := by rw [← hp5, List.length_map] at hfl; exact hfl
  have HP5 := Lib.hid hp5
  clear B4 r4 b5 HF hp5 hfl
  obtain ⟨b0, hb0⟩ : ∃ b0, (s.toList == []) = b0 := ⟨_, rfl⟩
  cases b0 with
  | true =>
    go_wp2
    go_ret
    exact ⟨rfl, B5⟩
  | false =>
    by_cases hy2 : ys.length = 2
    · have d2 : ((ys.length : Int) != 2) = false := by simp [hy2]
      obtain ⟨b, off, rfl, hcell⟩ := r5.open_ (by omega)
      obtain ⟨x, hx⟩ := at_some (xs := ys) (k := 0) (by omega)
      obtain ⟨y, hyy⟩ := at_some (xs := ys) (k := 1) (by omega)
      have hys : ys = [x, y] := by
        apply List.ext_getElem?
        intro i
        match i with
        | 0 => rw [hx]; rfl
        | 1 => rw [hyy]; rfl
        | i + 2 => rw [List.getElem?_eq_none (by omega)]; simp
      have hc0 := hcell 0 x hx
      have hc1 := hcell 1 y hyy
      rw [Nat.add_zero] at hc0
      rcases R5.shape with ⟨rfl, rfl⟩ | ⟨g5, c5, rfl, hc5⟩
      · clear hx hyy hcell hys
        go_wp2
        go_ret
        exact ⟨rfl, B5⟩
      · by_cases he : p5.length = 0
        · have d3 : ((p5.length : Int) == 0) = true := by simp [he]
          clear hx hyy hcell hys he
          go_wp2
          go_ret
          exact ⟨rfl, B5⟩
        · have d3 : ((p5.length : Int) == 0) = false := by simpa using he
          by_cases hxt : t < x
          · have d4 : decide (t < x) = true := by simpa using hxt
            clear hx hyy hcell hys he hxt
            go_wp2
            go_ret
            exact ⟨rfl, B5⟩
          · have d4 : decide (t < x) = false := by simpa using hxt
            by_cases hyt : t < y
            · have d5 : decide (t < y) = true := by simpa using hyt
              clear hx hyy hcell hys he hxt
              go_wp2
              go_ret
              exact ⟨rfl, B5⟩
            · have d5 : decide (t < y) = false := by simpa using hyt
              have hfit : ∃ t' x' y' : Nat, t = (t' : Int) ∧ t' ≤ 5 ∧ x = (x' : Int) ∧ y = (y' : Int) ∧ x' ≤ t' ∧ y' ≤ t' ∧ ∀ q ∈ p5, fairAt x' y' q.2.2 = true ∧ Fit t' 2 q.2.2 := by
                rcases HFC.out with ⟨kd, t', hk, hv, _, rfl, h5, hrf⟩ | hrf
                · obtain rfl : kd = 1 := kind_one hk (.inl ⟨rfl, rfl⟩)
                  have hvx := vB_small hv
                  simp only [vB, Bool.and_eq_true, List.all_eq_true] at hv
                  have hx0 := inR_true.1 (hv.2 x (List.mem_of_getElem? hx))
                  have hy0 := inR_true.1 (hv.2 y (List.mem_of_getElem? hyy))
                  obtain ⟨x', rfl⟩ := Int.eq_ofNat_of_zero_le hx0.1
                  obtain ⟨y', rfl⟩ := Int.eq_ofNat_of_zero_le hy0.1
                  refine ⟨t', x', y', rfl, h5, rfl, rfl, by omega, by omega, fun q hq => ?_⟩
                  have hm : q.2.2 ∈ restsF 1 ys ys.length t' := by rw [← hrf, ← HP5.out]; exact List.mem_map.2 ⟨q, hq, rfl⟩
                  rw [hy2, hys] at hm
                  exact ⟨fair h5 (by omega) (by omega) hm, rests_fit hm⟩
                · exfalso
                  have := HP5.out
                  rw [hrf] at this
                  have := congrArg List.length this
                  simp at this
                  exact he (by simp [this])
              obtain ⟨t', x', y', rfl, ht5, rfl, rfl, hxt', hyt', hall⟩ := hfit
              have HALL := Lib.hid hall
              have d4n : decide (t' < x') = false := by simpa using hxt'
              have d5n : decide (t' < y') = false := by simpa using hyt'
              have d4m : ¬ (t' < x') := by omega
              have d5m : ¬ (t' < y') := by omega
              have HC5 := Lib.hid hc5
              have hgl : g5 < w5.heap.size := (World.ownsRow.lt R5.row g5 rfl).2
              have hbl0 : b < w5.heap.size := World.block_lt_of_cell? w5 _ hc0
              have i0 : (0 : Int) < (ys.length : Int) := by omega
              have i1 : (1 : Int) < (ys.length : Int) := by omega
              have s1 : IntKind.i64.wrap ((1 : Int) - 0) = 1 := by decide
              have s2 : IntKind.i64.wrap ((1 : Int) - 1) = 0 := by decide
              have s3 : IntKind.i64.wrap ((x' : Int) - 1) = (x' : Int) - 1 := IntWalk.i64_in _ (by omega)
              have s4 : IntKind.i64.wrap ((y' : Int) - 1) = (y' : Int) - 1 := IntWalk.i64_in _ (by omega)
              clear hx hyy hcell hys he hxt hyt hall hc5 HFC HP5 hy2 r5 hy
              go_wp2
              go_loopw [7, 8, 9] (fun i _ _ wr => ∃ k : Nat, k ≤ p5.length ∧ i = .int .i64 k ∧ Below w5.heap.size w5 wr) (fun i _ _ _ => p5.length - (intOf i).toNat)
              case atStart => exact ⟨0, Nat.zero_le _, rfl, Below.refl _ _⟩
              case round =>
                obtain ⟨k, hk, rfl, hb⟩ := hrel
                by_cases hlt : k < p5.length
                · obtain ⟨q, hq⟩ : ∃ q, p5[k]? = some q := ⟨_, List.getElem?_eq_getElem hlt⟩
                  have hqm := List.mem_of_getElem? hq
                  obtain ⟨hfa, hft⟩ := HALL.out q hqm
                  have hcp := (hb.cell (p := ⟨g5, k, none⟩) hgl).trans (HC5.out k q hq)
                  have hcr0 := (hb.cell (p := ⟨b, off, none⟩) hbl0).trans hc0
                  have hcr1 := (hb.cell (p := ⟨b, off + 1, none⟩) hbl0).trans hc1
                  have hbl : b < wr.heap.size := Nat.lt_of_lt_of_le hbl0 hb.size
                  have HRP := Lib.hid ((R5.below hb).each q hqm).rd
                  have HVB := Lib.hid (fit_vB hft (by decide) (by decide) ht5)
                  have hfp := fair_parts hfa hft.1
                  have j0 : (0 : Int) < (q.2.2.length : Int) := by have := hft.1; omega
                  have j1 : (1 : Int) < (q.2.2.length : Int) := by have := hft.1; omega
                  obtain ⟨qg, qc, pl⟩ := q
                  simp only [slOf] at hcp
                  simp only at j0 j1 hfp
                  clear hq hqm hfa hft
                  rcases hfp with hfp | hfp
                  · obtain ⟨p, ha, hpay, hq1, hq2⟩ := hfp
                    have HAT := Lib.hid ha
                    have HPY := Lib.hid hpay
                    have e1 : decide ((x' : Int) < p) = false := by simpa using hq1
                    have e2 : decide ((x' : Int) < (y' : Int) - 1) = false := by simp; omega
                    clear ha hpay hq1 hq2
                    go_wp2_with fail
                    refine (SaleBy_is _ 1 _ _ pl 0 _ HAT.out (.inl ⟨rfl, rfl⟩) HRP.out HVB.out (by decide)).mono ?_
                    rintro e w7 ⟨g7, c7, rfl, o7, b7⟩
                    have z0 := (b7.cell (p := ⟨b, off, none⟩) hbl).trans hcr0
                    have z1 := (b7.cell (p := ⟨b, off + 1, none⟩) hbl).trans hcr1
                    have zp := o7.cell HPY.out
                    have B7 := hb.trans (b7.mono hb.size)
                    clear hcr0 hcr1 hcp
                    go_wp2_with fail
                    go_quiet (fail)
                    go_wp2
                    go_roundw
                    case rel => exact ⟨k + 1, by omega, by go_num, below_drewN' B7 _⟩
                    case measure => simp [intOf]; omega
                  · obtain ⟨p, ha, hpay, hq1, hq2⟩ := hfp
                    have HAT := Lib.hid ha
                    have HPY := Lib.hid hpay
                    have e1 : decide ((y' : Int) < p) = false := by simpa using hq1
                    have e2 : decide ((y' : Int) < (x' : Int) - 1) = false := by simp; omega
                    clear ha hpay hq1 hq2
                    go_wp2_with fail
                    refine (SaleBy_is _ 1 _ _ pl 0 _ HAT.out (.inl ⟨rfl, rfl⟩) HRP.out HVB.out (by decide)).mono ?_
                    rintro e w7 ⟨g7, c7, rfl, o7, b7⟩
                    have z0 := (b7.cell (p := ⟨b, off, none⟩) hbl).trans hcr0
                    have z1 := (b7.cell (p := ⟨b, off + 1, none⟩) hbl).trans hcr1
                    have zp := o7.cell HPY.out
                    have B7 := hb.trans (b7.mono hb.size)
                    clear hcr0 hcr1 hcp
                    go_wp2_with fail
                    go_quiet (fail)
                    go_wp2
                    go_roundw
                    case rel => exact ⟨k + 1, by omega, by go_num, below_drewN' B7 _⟩
                    case measure => simp [intOf]; omega
                · obtain rfl : k = p5.length := by omega
                  go_wp2
                  go_ret
                  exact ⟨rfl, B5.trans (hb.mono B5.size)⟩
    · have d2 : ((ys.length : Int) != 2) = true := by simp; omega
      go_wp2
      go_ret
      exact ⟨rfl, B5⟩

end Go.Proofs.Ytcbhjcbbjegmiaa
