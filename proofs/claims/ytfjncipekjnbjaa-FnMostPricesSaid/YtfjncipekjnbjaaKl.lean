/-
  The laws of chapter 7: the walk of FnMostPrices.
-/
import Derived.Test.YtfjncipekjnbjaaKk
import Derived.Deep.RegionHeld3
namespace Go.Proofs.Ytfjncipekjnbjaa
open Go.RowKit Go.Lib

theorem eight_len' {rows : List (List Int)} (h : ∀ r ∈ rows, r.length ≤ 8) : ∀ r ∈ rows, r.length ≤ 1099511627776 := fun r hr => by have := h r hr; omega

set_option maxHeartbeats 4000000 in
set_option maxRecDepth 100000 in
theorem fnMostPrices_walk {A : Option Addr} {c : Nat} {xs : List Int} {w : World} (h : Came .u8 w A c xs) :
    Calls Try.prog 13 #[.slice A xs.length c] w fun e w' => e = .returned (.bool true) ∧ Below w.heap.size w w' := by
  by_cases hlen : 1048576 < xs.length
  · go_enter Try.func13, Try.ntmps13
    go_wp2
    go_ret
    exact ⟨rfl, Below.refl _ _⟩
  have hl1 : xs.length ≤ 1048576 := by omega
  have HD := Lib.hid (DrawMostPrices_any A c xs w h)
  clear hlen h
  go_enter Try.func13, Try.ntmps13
  go_wp2_with fail
  refine HD.out.mono ?_
  rintro e w1 ⟨A1, c1, rows, rfl, hR, hl4, hl8, b1⟩
  have hl8' := eight_len' hl8
  have HS := Lib.hid (fun w' (h : RdR w' A1 c1 rows) => SMostPrices_any A1 c1 rows w' h (by omega) hl8')
  have HI := Lib.hid (fun w' (h : RdR w' A1 c1 rows) => MostPrices_any A1 c1 rows w' h hl8')
  have HMV := Lib.hid (fun w' (h : RdR w' A1 c1 rows) => movable_any A1 c1 rows.length rows w' rfl h hl8' (by omega))
  have hpf := mpL_some (rows := rows)
  have hzl := mpL_len rows
  obtain ⟨zs, hzs⟩ : ∃ zs, zs = mpL rows := ⟨_, rfl⟩
  rw [← hzs] at HS HI hpf hzl
  have HPF := Lib.hid hpf
  have hzl2 : zs.length ≤ 1099511627776 := by omega
  clear hpf hzs HD hl8 hl8' hl1
  go_wp2_with fail
  refine (HI.out w1 hR).mono ?_
  rintro e w2 ⟨A2, c2, rfl, o2, b2⟩
  have B2 := b1.trans (b2.mono b1.size)
  have hR2 := hR.below b2
  go_wp2_with fail
  refine (HS.out w2 hR2).mono ?_
  rintro e w3 ⟨A3, c3, rfl, o3, b3⟩
  have B3 := B2.trans (b3.mono B2.size)
  have hR3 := hR2.below b3
  have r23 := (o2.below b3).rd
  clear o2 hR2 b2 b3 b1 hR
  go_wp2_with fail
  refine (equalU_any A2 A3 c2 c3 zs zs w3 r23 o3.rd hzl2).mono ?_
  rw [eqB_self]
  rintro e w4 ⟨rfl, n4, rfl⟩
  by_cases hz : zs.length = 0
  · have hz0 : ((zs.length : Int) == 0) = true := by simp [hz]
    clear hz
    go_wp2_with fail
    refine (HS.out (w3.drewN n4) (hR3.drewN n4)).mono ?_
    rintro e w5 ⟨A5, c5, rfl, o5, b5⟩
    have B5 := (below_drewN' B3 n4).trans (b5.mono B3.size)
    have r25 := (r23.drewN n4).below b5
    clear o3 r23
    go_wp2_with fail
    refine (equalU_any A2 A5 c2 c5 zs zs w5 r25 o5.rd hzl2).mono ?_
    rw [eqB_self]
    rintro e w6 ⟨rfl, n6, rfl⟩
    go_wp2
    go_ret
    exact ⟨rfl, below_drewN' B5 n6⟩
  · have hz0 : ((zs.length : Int) == 0) = false := beq_eq_false_iff_ne.2 (by omega)
    obtain ⟨hvd, hzh⟩ := HPF.out hz
    have h3 : zs.length = 3 := by rw [hzh, vls_len]
    have HV := Lib.hid hvd
    have HZH := Lib.hid hzh
    have H3 := Lib.hid h3
    have HNN := Lib.hid (fun j (hj : j < 3) => mp_bd hvd.2 hj)
    have HLE := Lib.hid (fun j (hj : j < 3) (hm : mvA rows = true) => Int.le_trans (mp_one (mvA_at hm) hj) (oneF_to rows j))
    have HON := Lib.hid (fun j k => oneTo_ge rows j k)
    have B4 := below_drewN' B3 n4
    have r24 := r23.drewN n4
    have hR4 := hR3.drewN n4
    rw [h3] at hz0 ⊢
    obtain ⟨n, hn⟩ : ∃ n, n = rows.length := ⟨_, rfl⟩
    have HN := Lib.hid hn
    have hn4 : n ≤ 4 := by omega
    rw [← hn] at HMV HLE ⊢
    clear hz hvd hzh h3 HI HS HPF r23 hR3 o3 hn hl4 hzl
    obtain ⟨w5, hw5⟩ : ∃ w5, w5 = w3.drewN n4 := ⟨_, rfl⟩
    rw [← hw5] at B4 r24 hR4 ⊢
    clear hw5
    obtain ⟨b2, of2, _, rfl, _⟩ := r24.at_ (k := 0) (by rw [H3.out]; omega)
    go_wp2_with fail
    go_loopw [5] (fun jv wr => ∃ j : Nat, jv = .int .i64 (j : Nat) ∧ j ≤ 3 ∧ Below w5.heap.size w5 wr) (fun i _ => 3 - (intOf i).toNat)
    case atStart => exact ⟨0, rfl, by omega, Below.refl _ _⟩
    case round =>
      obtain ⟨j, rfl, hj, hb⟩ := hrel
      by_cases hlt : j < 3
      · have hj3 : (j : Int) < 3 := by omega
        have hj0 : (0 : Int) ≤ (j : Int) := by omega
        have hjj : j < 3 := hlt
        have hj1 : j + 1 ≤ 3 := hlt
        clear hlt
        obtain ⟨wJ, hwJ⟩ : ∃ wJ, wJ = wr := ⟨_, rfl⟩
        rw [← hwJ] at hb ⊢
        clear hwJ
        go_wp2_with fail
        go_loopw [6, 7] (fun mv iv wr => ∃ i m, mv = .int .i64 (oneTo rows j i) ∧ iv = .int .i64 (i : Nat) ∧ i ≤ n ∧ wr = wJ.drewN m) (fun _ i _ => n - (intOf i).toNat)
        case atStart => exact ⟨0, 0, rfl, rfl, by omega, rfl⟩
        case round =>
          obtain ⟨i, m, rfl, rfl, hi, rfl⟩ := hrel
          by_cases hlt : i < n
          · obtain ⟨b, off, r, A', c', rfl, hr, hc, hcap, hrd⟩ := (hR4.below hb).at_ (k := i) (by rw [← HN.out]; exact hlt)
            have hvr := HV.out.2 r (List.mem_of_getElem? hr.out)
            have hp8 : 2 ^ j < 8 := by rcases nat3 hjj with rfl | rfl | rfl <;> decide
            obtain ⟨br, ofr, x, rfl, _, hx, hcx⟩ := hrd.out.at_ (k := 2 ^ j) (by rw [hvr.1]; exact hp8)
            have hT := T_of hx.out
            have HST := Lib.hid (oneTo_step (j := j) hr.out)
            rw [hT] at HST
            have HPW := Lib.hid (fun (q : Nat) => calls_q (w := wJ) (m := m) (Lpower_any j (by omega) (wJ.drewN (m + q))))
            rw [hvr.1] at hc
            obtain ⟨p, hp⟩ : ∃ p, p = 2 ^ j := ⟨_, rfl⟩
            rw [← hp] at HPW hcx hp8
            have hp0 : (0 : Int) ≤ (p : Int) := by omega
            have hp8' : (p : Int) < 8 := by omega
            have hi0 : (0 : Int) ≤ (i : Int) := by omega
            have hin : (i : Int) < (n : Int) := by omega
            have hi1 : i + 1 ≤ n := hlt
            clear hp hx hT hr hvr hrd hcap hlt
            go_wp2_with fail
            go_quiet ((go_at_call 59; exact HPW.out _))
            go_wp2
            go_roundw
            case rel => exact ⟨i + 1, _, by rw [HST.out], by go_num, hi1, rfl⟩
            case measure => simp only [intOf]; omega
          · obtain rfl : i = n := by omega
            obtain ⟨b5, of5, v, hA5, _, hv, hcv⟩ := (r24.below hb).at_ (k := j) (by rw [H3.out]; exact hjj)
            injection hA5 with hA5
            injection hA5 with e1 e2
            subst e1 e2
            have hvj : v = mpF rows j := by
              have := hv.out
              rw [HZH.out, vls_at hjj] at this
              injection this with this
              exact this.symm
            have hnn := HNN.out j hjj
            rw [← hvj] at hnn
            have q1 : decide (v < 0) = false := by simp; omega
            have hjv := HLE.out j hjj
            rw [← hvj] at hjv
            have HJV := Lib.hid hjv
            obtain ⟨M, hM⟩ : ∃ M, M = oneTo rows j i := ⟨_, rfl⟩
            rw [← hM] at HJV ⊢
            have hRJ := hR4.below hb
            have hrJ := r24.below hb
            have hlw := World.block_lt_of_cell? wJ _ hcv
            have hv0 : 0 ≤ v := by omega
            clear hM hvj hnn hv hlt hjv
            have HCV := Lib.hid (fun W (hW : Below wJ.heap.size wJ W) => (show W.cell? ⟨b2, of2 + j, none⟩ = some (.int .i64 v) from (hW.cell (p := ⟨b2, of2 + j, none⟩) hlw).trans hcv))
            have hRm : RdR (wJ.drewN m) A1 c1 rows := hRJ.drewN m
            rcases hma : mvA rows with _ | _
            · rw [hma] at HMV
              clear hma
              go_wp2_with fail
              refine (HMV.out _ hRm).mono ?_
              rintro e w6 ⟨rfl, b6⟩
              have B6 := below_then hb ((below_drewN' (Below.refl wJ.heap.size wJ) m).trans b6)
              go_wp2
              go_roundw
              case rel => exact ⟨j + 1, by go_num, hj1, B6⟩
              case measure => simp only [intOf]; omega
            · have hle := HJV.out hma
              rw [hma] at HMV
              have q2 : decide (M < v) = false := by simp; omega
              clear hma hle
              go_wp2_with fail
              refine (HMV.out _ hRm).mono ?_
              rintro e w6 ⟨rfl, b6⟩
              have b6' := (below_drewN' (Below.refl wJ.heap.size wJ) m).trans b6
              have B6 := below_then hb b6'
              have hc6 := HCV.out _ b6'
              go_wp2
              go_roundw
              case rel => exact ⟨j + 1, by go_num, hj1, B6⟩
              case measure => simp only [intOf]; omega
      · obtain rfl : j = 3 := by omega
        go_wp2
        go_ret
        exact ⟨rfl, below_then B4 hb⟩

end Go.Proofs.Ytfjncipekjnbjaa
