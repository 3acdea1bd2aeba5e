/-
  The laws of chapter 5: the walk of FnPivotPays.
-/
import Derived.Test.YtdbpjlconbifpaaQk
import Derived.Test.YtdbpjlconbifpaaGY
namespace Go.Proofs.Ytdbpjlconbifpaa
open Go.RowKit Go.Lib

theorem eight_len {rows : List (List Int)} (h : ∀ r ∈ rows, r.length ≤ 8) : ∀ r ∈ rows, r.length ≤ 1099511627776 := fun r hr => by have := h r hr; omega
theorem piF_yes {rows : List (List Int)} (h : 1 ≤ (piF rows).length) : VTs rows ∧ piF rows = vls (pvF rows) rows.length := by
  unfold piF at h ⊢
  split at h
  · rename_i hv; exact ⟨hv, if_pos hv⟩
  · simp at h

set_option maxHeartbeats 4000000 in
set_option maxRecDepth 100000 in
theorem fnPivotPays_walk {A : Option Addr} {c : Nat} {xs : List Int} {w : World} (h : Came .u8 w A c xs) :
    Calls Try.prog 5 #[.slice A xs.length c] w fun e w' => e = .returned (.bool true) ∧ Below w.heap.size w w' := by
  by_cases hlen : 1048576 < xs.length
  · go_enter Try.func5, Try.ntmps5
    go_wp2
    go_ret
    exact ⟨rfl, Below.refl _ _⟩
  have hl1 : xs.length ≤ 1048576 := by omega
  have HD := Lib.hid (DrawPivotPays_any A c xs w h)
  clear hlen h
  go_enter Try.func5, Try.ntmps5
  go_wp2_with fail
  refine HD.out.mono ?_
  rintro e w1 ⟨A1, c1, rows, rfl, hR, hl4, hl8, b1⟩
  have hl8' := eight_len hl8
  have HS := Lib.hid (fun w' (h : RdR w' A1 c1 rows) => SPivotPays_any A1 c1 rows w' h (by omega) hl8')
  have HI := Lib.hid (fun w' (h : RdR w' A1 c1 rows) => PivotPays_any A1 c1 rows w' h hl8')
  have hpf := piF_yes (rows := rows)
  have hzl := piF_len rows
  obtain ⟨zs, hzs⟩ : ∃ zs, zs = piF rows := ⟨_, rfl⟩
  rw [← hzs] at HS HI hpf hzl
  have HPF := Lib.hid hpf
  have hzl2 : zs.length ≤ 1099511627776 := by omega
  have H8 := Lib.hid hl8'
  clear hpf hzs HD hl8 hl8' hl1 hzl
  go_wp2_with fail
  refine (HI.out w1 hR).mono ?_
  rintro e w2 ⟨A2, c2, rfl, o2, b2⟩
  have B2 := b1.trans (b2.mono b1.size)
  have hR2 := hR.below b2
  go_wp2_with fail
  refine (HS.out w2 hR2).mono ?_
  rintro e w3 ⟨A3, c3, rfl, o3, b3⟩
  have B3 := B2.trans (b3.mono B2.size)
  have hR3 := hR2.below b3
  have o23 := o2.below b3
  clear o2 hR2 b2 b3 b1
  go_wp2_with fail
  refine (equalU_any A2 A3 c2 c3 zs zs w3 o23.rd o3.rd hzl2).mono ?_
  rw [eqB_self]
  rintro e w4 ⟨rfl, n4, rfl⟩
  by_cases hz : zs.length = 0
  · have hz0 : ((zs.length : Int) == 0) = true := by simp [hz]
    clear hz
    go_wp2_with fail
    refine (HS.out (w3.drewN n4) (hR3.drewN n4)).mono ?_
    rintro e w5 ⟨A5, c5, rfl, o5, b5⟩
    have B5 := (below_drewN' B3 n4).trans (b5.mono B3.size)
    have o25 := (o23.drewN n4).below b5
    clear o3 o23
    go_wp2_with fail
    refine (equalU_any A2 A5 c2 c5 zs zs w5 o25.rd o5.rd hzl2).mono ?_
    rw [eqB_self]
    rintro e w6 ⟨rfl, n6, rfl⟩
    go_wp2
    go_ret
    exact ⟨rfl, below_drewN' B5 n6⟩
  · have hz0 : ((zs.length : Int) == 0) = false := beq_eq_false_iff_ne.2 (by omega)
    obtain ⟨hvd, hzh⟩ := HPF.out (by omega)
    have hln : zs.length = rows.length := by rw [hzh, vls_len]
    have HV := Lib.hid hvd
    have HZH := Lib.hid hzh
    have HLN := Lib.hid hln
    have h1l := hvd.1.1
    have HBS := Lib.hid (fun (W : World) (hW : RdR W A1 c1 rows) => BestSplit_yes A1 c1 rows.length rows W rfl hW H8.out hvd)
    have HAD := Lib.hid (fun (W : World) (hW : RdR W A1 c1 rows) => AddsOf_yes A1 c1 rows.length rows W rfl hW H8.out hvd)
    have B4 := below_drewN' B3 n4
    have o24 := o23.drewN n4
    have hR4 := hR3.drewN n4
    obtain ⟨g2, rfl⟩ := own_some o24 (by omega)
    have hzz : zs.length = zs.length := rfl
    clear hz hvd hzh o3 o23 hzz hR3 hR HI HS
    go_wp2_with fail
    refine (HBS.out _ hR4).mono ?_
    rintro e w5 ⟨A5, c5, ys, M, rfl, o5, b5, ⟨_, hys, _⟩ | ⟨hno, _⟩⟩
    · have hyl : ys.length = rows.length := by rw [hys, setsF_len']
      rw [hyl]
      obtain ⟨g5, rfl⟩ := own_some o5 (by omega)
      have HYS := Lib.hid hys
      have B5 := B4.trans (b5.mono B4.size)
      have o25 := o24.below b5
      have hR5 := hR4.below b5
      clear hys o24 hyl b5 hR4 B4
      go_wp2_with fail
      refine (HAD.out _ hR5).mono ?_
      rintro e w6 ⟨g6, c6, rfl, o6, b6⟩
      have B6 := B5.trans (b6.mono B5.size)
      have o26 := Lib.hid (o25.below b6)
      have o56 := Lib.hid (o5.below b6)
      have o66 := Lib.hid o6
      have hR6 := hR5.below b6
      clear o25 o5 o6 b6 hR5 B5
      go_wp2_with fail
      go_loopw [8] (fun i wr => ∃ j n : Nat, j ≤ rows.length ∧ i = .int .i64 j ∧ wr = w6.drewN n) (fun i _ => rows.length - (intOf i).toNat)
      case atStart => exact ⟨0, 0, Nat.zero_le _, rfl, rfl⟩
      case round =>
        obtain ⟨j, n, hj, rfl, rfl⟩ := hrel
        by_cases hlt : j < rows.length
        · obtain ⟨b, off, r, A', c', rfl, hr, hc, hcap, hrd⟩ := hR6.at_ hlt
          have hvt := HV.out.2 r (List.mem_of_getElem? hr.out)
          obtain ⟨br, ofr, rfl⟩ := hrd.out.some_ hvt.1
          rw [hvt.1] at hc
          obtain ⟨s, hs⟩ : ∃ s, s = setOf (wayF rows) j := ⟨_, rfl⟩
          have hs8 : s < 8 := by rw [hs]; exact setOf_lt _ j
          obtain ⟨b3, o3, x, hA, _, hx, hcx⟩ := hrd.out.at_ (k := s) (by rw [hvt.1]; exact hs8)
          cases hA
          have hxe := T_of hx.out
          have hxb := hvt.bd hs8
          rw [hxe] at hxb
          have hca := o26.out.cell (show zs[j]? = some (pvF rows j) by rw [HZH.out]; exact vls_at hlt)
          have hcs := o56.out.cell (show ys[j]? = some (s : Int) by rw [HYS.out, setsF_at _ hlt, hs])
          have hcd := o66.out.cell (vls_at (f := adF rows) hlt)
          have hpv := pv_nn (ts := rows) hlt
          have hpl := pv_le HV.out.2 HV.out.1.2 hlt
          have htr := truth_has HV.out.2 HV.out.1.2 j
          rw [← hs, getD_row hr.out, hxe] at hpl htr
          rw [← htr] at hcd
          obtain ⟨y, hy⟩ : ∃ y, y = pvF rows j := ⟨_, rfl⟩
          rw [← hy] at hca hcd hpv hpl
          have q1 : decide (y < 0) = false := by simp; omega
          have q2 : decide (x < y) = false := by simp; omega
          have e1 : IntKind.i64.wrap (x - y) = x - y := IntWalk.i64_in _ (by omega)
          have q3 : (x - y != x - y) = false := by simp
          have hs0 : (0 : Int) ≤ (s : Int) := by omega
          have hs7 : (s : Int) < 8 := by omega
          clear hs hvt hxe hxb hx hrd hpv hpl htr hy hr hcap
          go_wp2_with fail
          go_quiet (fail)
          go_wp2
          go_roundw
          case rel => exact ⟨j + 1, _, by omega, by go_num, rfl⟩
          case measure => simp [intOf]; omega
        · obtain rfl : j = rows.length := by omega
          have hB6 := below_drewN' B6 n
          have hll : (zs.length : Int) = (rows.length : Int) := by have := HLN.out; omega
          have hle : ((zs.length : Int) == (rows.length : Int)) = true := by rw [hll]; simp
          clear hll HLN
          go_wp2
          go_ret
          exact ⟨rfl, hB6⟩
    · exact absurd HV.out hno

end Go.Proofs.Ytdbpjlconbifpaa
