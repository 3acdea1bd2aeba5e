/-
  The laws of chapter 5: the walk of FnAddsOf.
-/
import Derived.Test.YtdbpjlconbifpaaQl
import Derived.Test.YtdbpjlconbifpaaQg
namespace Go.Proofs.Ytdbpjlconbifpaa
open Go.RowKit Go.Lib

theorem adL_yes {rows : List (List Int)} (h : 1 ≤ (adL rows).length) : VTs rows ∧ adL rows = vls (adF rows) rows.length := by
  unfold adL at h ⊢
  split at h
  · rename_i hv; exact ⟨hv, if_pos hv⟩
  · simp at h

set_option maxHeartbeats 4000000 in
set_option maxRecDepth 100000 in
theorem fnAddsOf_walk {A : Option Addr} {c : Nat} {xs : List Int} {w : World} (h : Came .u8 w A c xs) :
    Calls Try.prog 6 #[.slice A xs.length c] w fun e w' => e = .returned (.bool true) ∧ Below w.heap.size w w' := by
  by_cases hlen : 1048576 < xs.length
  · go_enter Try.func6, Try.ntmps6
    go_wp2
    go_ret
    exact ⟨rfl, Below.refl _ _⟩
  have hl1 : xs.length ≤ 1048576 := by omega
  have HD := Lib.hid (DrawAddsOf_any A c xs w h)
  clear hlen h
  go_enter Try.func6, Try.ntmps6
  go_wp2_with fail
  refine HD.out.mono ?_
  rintro e w1 ⟨A1, c1, rows, rfl, hR, hl4, hl8, b1⟩
  have hl8' := eight_len hl8
  have HS := Lib.hid (fun w' (h : RdR w' A1 c1 rows) => SAddsOf_any A1 c1 rows w' h (by omega) hl8')
  have HI := Lib.hid (fun w' (h : RdR w' A1 c1 rows) => AddsOf_any A1 c1 rows w' h hl8')
  have hpf := adL_yes (rows := rows)
  have hzl := adL_len rows
  obtain ⟨zs, hzs⟩ : ∃ zs, zs = adL rows := ⟨_, rfl⟩
  rw [← hzs] at HS HI hpf hzl
  have HPF := Lib.hid hpf
  have hzl2 : zs.length ≤ 1099511627776 := by omega
  have H8 := Lib.hid hl8'
  clear hpf hzs HD hl8 hl8' hl1 hzl
  go_wp2_with fail
  refine (HI.out w1 hR).mono ?_
  rintro e w2 ⟨A2, c2, rfl, o2, b2⟩
  have B2 := b1.trans (b2.mono b1.size)
  have hR2 := hR.below b2
  go_wp2_with fail
  refine (HS.out w2 hR2).mono ?_
  rintro e w3 ⟨A3, c3, rfl, o3, b3⟩
  have B3 := B2.trans (b3.mono B2.size)
  have hR3 := hR2.below b3
  have o23 := o2.below b3
  clear o2 hR2 b2 b3 b1
  go_wp2_with fail
  refine (equalU_any A2 A3 c2 c3 zs zs w3 o23.rd o3.rd hzl2).mono ?_
  rw [eqB_self]
  rintro e w4 ⟨rfl, n4, rfl⟩
  by_cases hz : zs.length = 0
  · have hz0 : ((zs.length : Int) == 0) = true := by simp [hz]
    clear hz
    go_wp2_with fail
    refine (HS.out (w3.drewN n4) (hR3.drewN n4)).mono ?_
    rintro e w5 ⟨A5, c5, rfl, o5, b5⟩
    have B5 := (below_drewN' B3 n4).trans (b5.mono B3.size)
    have o25 := (o23.drewN n4).below b5
    clear o3 o23
    go_wp2_with fail
    refine (equalU_any A2 A5 c2 c5 zs zs w5 o25.rd o5.rd hzl2).mono ?_
    rw [eqB_self]
    rintro e w6 ⟨rfl, n6, rfl⟩
    go_wp2
    go_ret
    exact ⟨rfl, below_drewN' B5 n6⟩
  · have hz0 : ((zs.length : Int) == 0) = false := beq_eq_false_iff_ne.2 (by omega)
    obtain ⟨hvd, hzh⟩ := HPF.out (by omega)
    have hln : zs.length = rows.length := by rw [hzh, vls_len]
    have HV := Lib.hid hvd
    have HZH := Lib.hid hzh
    have HLN := Lib.hid hln
    have h1l := hvd.1.1
    have B4 := below_drewN' B3 n4
    have o24 := o23.drewN n4
    have hR4 := hR3.drewN n4
    obtain ⟨g2, rfl⟩ := own_some o24 (by omega)
    have HO4 := Lib.hid o24
    have HR4 := Lib.hid hR4
    have HB4 := B4
    clear hz hvd hzh o3 o23 hR3 hR HI HS o24 hR4 B4
    go_wp2_with fail
    go_loopw [5] (fun i wr => ∃ j : Nat, j ≤ rows.length ∧ i = .int .i64 j ∧ Hid (Own wr w1.heap.size (some ⟨g2, 0, none⟩) c2 zs) ∧ Hid (RdR wr A1 c1 rows) ∧ Below w.heap.size w wr) (fun i _ => rows.length - (intOf i).toNat)
    case atStart => exact ⟨0, Nat.zero_le _, rfl, HO4, HR4, HB4⟩
    case round =>
      obtain ⟨j, hj, rfl, HO3, HR3, hb⟩ := hrel
      by_cases hlt : j < rows.length
      · obtain ⟨b, off, r, A', c', rfl, hr, hc, hcap, hrd⟩ := HR3.out.at_ hlt
        have hvt := HV.out.2 r (List.mem_of_getElem? hr.out)
        obtain ⟨br, ofr, rfl⟩ := hrd.out.some_ hvt.1
        rw [hvt.1] at hc
        obtain ⟨b3, o3, x, hA, _, hx, hcx⟩ := hrd.out.at_ (k := 7) (by rw [hvt.1]; omega)
        cases hA
        have hxe := T_of hx.out
        have hca := HO3.out.cell (show zs[j]? = some (adF rows j) by rw [HZH.out]; exact vls_at hlt)
        have hpv := ad_nn HV.out.2 hlt
        have hpl := ad_le HV.out.2 hlt
        rw [getD_row hr.out, hxe] at hpl
        obtain ⟨y, hy⟩ : ∃ y, y = adF rows j := ⟨_, rfl⟩
        rw [← hy] at hca hpv hpl
        have q1 : decide (y < 0) = false := by simp; omega
        have q2 : decide (x < y) = false := by simp; omega
        have HPW : Hid (∀ n, Calls Try.prog 14 #[.int .i64 3] (wr.drewN n) fun e w' => e = .returned (.int .i64 8) ∧ ∃ k, w' = wr.drewN k) := Lib.hid (fun n => (Lpower_any 3 (by omega) (wr.drewN n)).mono fun _ _ ⟨he, hw⟩ => ⟨he, n, hw.symm⟩)
        clear hvt hxe hx hrd hpv hpl hy hr hcap
        go_wp2_with fail
        go_quiet (first | (go_at_call 14; exact HPW.out _))
        go_wp2
        go_roundw
        case rel => exact ⟨j + 1, by omega, by go_num, Lib.hid (HO3.out.drewN _), Lib.hid (HR3.out.drewN _), below_drewN' hb _⟩
        case measure => simp [intOf]; omega
      · obtain rfl : j = rows.length := by omega
        have hll : (zs.length : Int) = (rows.length : Int) := by have := HLN.out; omega
        have hle : ((zs.length : Int) == (rows.length : Int)) = true := by rw [hll]; simp
        clear hll HLN
        go_wp2
        go_ret
        exact ⟨rfl, hb⟩

end Go.Proofs.Ytdbpjlconbifpaa
