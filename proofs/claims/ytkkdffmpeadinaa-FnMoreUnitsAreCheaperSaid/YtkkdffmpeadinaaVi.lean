/-
  Chapter 3: the walks of FnAwardUnits and FnWorthOf.
-/
import Derived.Test.YtkkdffmpeadinaaVh
namespace Go.Proofs.Ytkkdffmpeadinaa
open Go.RowKit

theorem aw_facts {rows : List (List Int)} {k : Int} (h : 1 ≤ (awL rows k).length) :
    VD rows ∧ (0 ≤ k ∧ k ≤ 5) ∧ ∃ hs : Nat → Nat, awL rows k = lst hs rows.length ∧ (∀ i, hs i ≤ 5) ∧ (∀ i, i < rows.length → hs i ≤ (RW rows i).length) ∧ val (RW rows) hs rows.length = woF rows k ∧ (awL rows k).sum = min k (rows.flatten.length : Int) := by
  unfold awL at h ⊢
  unfold woF
  cases hf : fuB rows k with
  | false => rw [hf] at h; simp at h
  | true =>
    obtain ⟨hv, h0, h5⟩ := fuB_iff.1 hf
    simp only [if_true]
    refine ⟨hv, ⟨h0, h5⟩, _, rfl, fun i => ?_, (fair_aw hv.good k.toNat).len, aw_best hv.good _, ?_⟩
    · have := aw_le (R := RW rows) (n := rows.length) k.toNat i
      omega
    · have e : (lst (aw (RW rows) rows.length k.toNat) rows.length).sum = cnt (aw (RW rows) rows.length k.toNat) rows.length := vls_sum (fun i => (aw (RW rows) rows.length k.toNat i : Int)) rows.length
      rw [e, cnt_min hv.good, flat_count]
      omega

set_option maxHeartbeats 4000000 in
theorem fnAwardUnits_walk {A : Option Addr} {c : Nat} {xs : List Int} {w : World} (h : Came .u8 w A c xs) :
    Calls Try.prog 4 #[.slice A xs.length c] w fun e w' => e = .returned (.bool true) ∧ Below w.heap.size w w' := by
  by_cases hlen : 1048576 < xs.length
  · go_enter Try.func4, Try.ntmps4
    go_wp2
    go_ret
    exact ⟨rfl, Below.refl _ _⟩
  have hl1 : xs.length ≤ 1048576 := by omega
  have HD := Lib.hid (DrawAwardUnits_any A c xs w h)
  clear hlen h
  go_enter Try.func4, Try.ntmps4
  go_wp2_with fail
  refine HD.out.mono ?_
  rintro e w1 ⟨A1, c1, rows, k, rfl, hR, hl4, hl6, hk0, hk1, b1⟩
  obtain ⟨hS, hI⟩ := AwardUnits_both rows k (by omega) (six_len hl6)
  have hW := (WorthOf_both rows k (by omega) (six_len hl6)).2
  have hpf := aw_facts (rows := rows) (k := k)
  have hel := awL_len (rows := rows) (k := k)
  obtain ⟨zs, hzs⟩ : ∃ zs, zs = awL rows k := ⟨_, rfl⟩
  obtain ⟨v, hv⟩ : ∃ v, v = woF rows k := ⟨_, rfl⟩
  rw [← hzs] at hS hI hpf hel
  rw [← hv] at hW hpf
  have HS := Lib.hid hS
  have HI := Lib.hid hI
  have HW := Lib.hid hW
  have HPF := Lib.hid hpf
  have H6 := Lib.hid hl6
  have hzl : zs.length ≤ 1099511627776 := by omega
  clear hS hI hW hpf hzs hv HD hl6
  go_wp2_with fail
  refine (HI.out A1 c1 w1 hR).mono ?_
  rintro e w2 ⟨A2, c2, rfl, o2, b2⟩
  have B2 := b1.trans (b2.mono b1.size)
  have hR2 := hR.below b2
  go_wp2_with fail
  refine (HS.out A1 c1 w2 hR2).mono ?_
  rintro e w3 ⟨A3, c3, rfl, o3, b3⟩
  have B3 := B2.trans (b3.mono B2.size)
  have hR3 := hR2.below b3
  have o23 := o2.below b3
  clear o2
  go_wp2_with fail
  refine (equalU_any A2 A3 c2 c3 zs zs w3 o23.rd o3.rd hzl).mono ?_
  rw [eqB_self]
  rintro e w4 ⟨rfl, n4, rfl⟩
  by_cases hz : zs.length = 0
  · have hz0 : ((zs.length : Int) == 0) = true := by simp [hz]
    clear hz
    go_wp2_with fail
    refine (HS.out A1 c1 (w3.drewN n4) (hR3.drewN n4)).mono ?_
    rintro e w5 ⟨A5, c5, rfl, o5, b5⟩
    have B5 := (below_drewN' B3 n4).trans (b5.mono B3.size)
    have o25 := (o23.drewN n4).below b5
    clear o3 o23
    go_wp2_with fail
    refine (equalU_any A2 A5 c2 c5 zs zs w5 o25.rd o5.rd hzl).mono ?_
    rw [eqB_self]
    rintro e w6 ⟨rfl, n6, rfl⟩
    go_wp2
    go_ret
    exact ⟨rfl, below_drewN' B5 n6⟩
  · have hz0 : ((zs.length : Int) == 0) = false := beq_eq_false_iff_ne.2 (by omega)
    obtain ⟨hvd, hkk, hs, hzh, hh5, hhl, hval, hsum⟩ := HPF.out (by omega)
    have hln : zs.length = rows.length := by rw [hzh, lst_len]
    have HVD := Lib.hid hvd
    have HH5 := Lib.hid hh5
    have HHL := Lib.hid hhl
    have HZH := Lib.hid hzh
    have HVAL := Lib.hid hval
    have HSM := Lib.hid hsum
    have HLN := Lib.hid hln
    have h1l := hvd.1.1
    have hkk0 := hkk.1
    have hkk1 := hkk.2
    have HFC := Lib.hid (hvd.flat)
    clear hz hvd hh5 hhl hzh hval hsum o3 hln hkk
    go_wp2
    go_loopw [6, 7, 8] (fun a s i wr => ∃ (j n : Nat) (z y : Int), j ≤ rows.length ∧ i = .int .i64 j ∧ a = .int .i64 z ∧ s = .int .i64 y ∧ wr = w3.drewN n ∧ Hid (z = (rows.take j).flatten.length) ∧ Hid (y = val (RW rows) hs j)) (fun _ _ i _ => rows.length - (intOf i).toNat)
    case atStart => exact ⟨0, n4, 0, 0, Nat.zero_le _, rfl, rfl, rfl, rfl, Lib.hid (by simp), Lib.hid rfl⟩
    case round =>
      obtain ⟨j, n, z, y, hj, rfl, rfl, rfl, rfl, HZ, HY⟩ := hrel
      have hzb : 0 ≤ z ∧ z ≤ 20 := by have h1 := HZ.out; have h2 := flat_le (rows := rows) j; have h3 := HFC.out; omega
      have hyb : 0 ≤ y ∧ y ≤ 600 := by
        rw [HY.out]
        have h1 := sumTo_nn (f := fun i => pre (RW rows i) (hs i)) (n := j) (fun i hi => (pre_le150 (HVD.out.good i (by omega)) _).1)
        have h2 := sumTo_le (f := fun i => pre (RW rows i) (hs i)) (g := fun _ => 150) (n := j) (fun i hi => (pre_le150 (HVD.out.good i (by omega)) _).2)
        rw [sumTo_const] at h2
        exact ⟨h1, by unfold val; omega⟩
      have hzb0 := hzb.1
      have hzb1 := hzb.2
      have hyb0 := hyb.1
      have hyb1 := hyb.2
      clear hzb hyb
      by_cases hlt : j < rows.length
      · obtain ⟨b, off, r, A', c', rfl, hr, hc, hcap, hrd⟩ := hR3.at_ hlt
        obtain ⟨t, ht⟩ : ∃ t, t = hs j := ⟨_, rfl⟩
        have hch : ∃ bz oz, A2 = some ⟨bz, oz, none⟩ ∧ w3.cell? ⟨bz, oz + j, none⟩ = some (.int .i64 (t : Int)) := by
          have h1 := o23.rd
          rw [HZH.out] at h1
          obtain ⟨bz, oz, e1, e2⟩ := h1.has hlt
          exact ⟨bz, oz, e1, by rw [ht]; exact e2⟩
        obtain ⟨bz, oz, rfl, hcx⟩ := hch
        have hro : RowOk r := by rw [← rw_of hr.out]; exact HVD.out.good j hlt
        have hr5 : r.length ≤ 5 := hro.1
        have htr : t ≤ r.length := by rw [ht, ← rw_of hr.out]; exact HHL.out j hlt
        have HFT : Hid (z + (r.length : Int) = (rows.take (j + 1)).flatten.length) := Lib.hid (by have := flat_take hr.out; have h1 := HZ.out; omega)
        have HT := Lib.hid ht
        have HRW := Lib.hid (rw_of hr.out)
        have HRO := Lib.hid hro
        have hjz : (j : Int) < (zs.length : Int) := by have := HLN.out; omega
        clear ht hro
        go_wp2
        go_loopw [7, 9] (fun s i wr => ∃ (q n : Nat) (u : Int), q ≤ t ∧ i = .int .i64 q ∧ wr = w3.drewN n ∧ s = .int .i64 u ∧ Hid (u = y + pre r q)) (fun _ i _ => t - (intOf i).toNat)
        case atStart => exact ⟨0, n, y, Nat.zero_le _, rfl, rfl, rfl, Lib.hid (by rw [pre_zero]; omega)⟩
        case round =>
          obtain ⟨q, n, u, hq, rfl, rfl, rfl, HU⟩ := hrel
          by_cases hql : q < t
          · obtain ⟨b3, o3, x, rfl, _, hx, hcx2⟩ := hrd.out.at_ (k := q) (by omega)
            have hxb := HRO.out.2 q x hx.out
            have hpb := pre_le150 HRO.out q
            have HU2 : Hid (u + x = y + pre r (q + 1)) := Lib.hid (by rw [pre_step hx.out, HU.out]; omega)
            have hu := HU.out
            have hx0 := hxb.1
            have hx1 := hxb.2.1
            have hu0 : 0 ≤ u := by omega
            have hu1 : u ≤ 1000 := by omega
            clear hxb hpb hu
            go_wp2
            go_roundw
            case rel => exact ⟨q + 1, _, _, by omega, by go_num, rfl, rfl, HU2⟩
            case measure => simp [intOf]; omega
          · obtain rfl : q = t := by omega
            have HS2 : Hid (u = val (RW rows) hs (j + 1)) := Lib.hid (by rw [HU.out, HY.out, HT.out]; show _ = val (RW rows) hs j + pre (RW rows j) (hs j); rw [HRW.out])
            go_wp2
            go_roundw
            case rel => exact ⟨j + 1, _, _, _, by omega, by go_num, rfl, rfl, rfl, HFT, HS2⟩
            case measure => simp [intOf]; omega
      · obtain rfl : j = rows.length := by omega
        have HZA : Hid (z = (rows.flatten.length : Int)) := Lib.hid (by have h1 := HZ.out; rwa [List.take_length] at h1)
        have hyv : y = v := by rw [HY.out, HVAL.out]
        subst hyv
        have hsm : zs.sum = min k z := by rw [HSM.out, HZA.out]
        have HAB : Hid (Abs2 zs) := Lib.hid (fun x hx => by
          rw [HZH.out] at hx
          obtain ⟨i, hi, rfl⟩ := List.mem_map.1 hx
          have := HH5.out i
          omega)
        have HSM2 := Lib.hid hsm
        have hvv : (y == y) = true := by simp
        clear hsm
        go_wp2_with fail
        refine (HW.out A1 c1 (w3.drewN n) (hR3.drewN n)).mono ?_
        rintro e w6 ⟨rfl, b6⟩
        have B6 := (below_drewN' B3 n).trans (b6.mono B3.size)
        have htt := totalU_any A2 c2 zs w6 ((o23.drewN n).below b6).rd (by omega) HAB.out
        rw [HSM2.out] at htt
        clear b6
        by_cases hkz : k ≤ z
        · rw [Int.min_eq_left hkz] at htt
          have HTT := Lib.hid htt
          have e1 : min k z = k := Int.min_eq_left hkz
          have hkk : (k == k) = true := by simp
          clear htt
          go_wp2_with fail
          all_goals
            refine HTT.out.mono ?_
            rintro e w7 ⟨rfl, rfl⟩
            go_wp2
            all_goals
              go_ret
              exact ⟨by first | rfl | (simp <;> omega), B6⟩
        · have hzk : z ≤ k := by omega
          rw [Int.min_eq_right hzk] at htt
          have HTT := Lib.hid htt
          have e1 : min k z = z := Int.min_eq_right hzk
          have hkk : (z == z) = true := by simp
          clear htt
          go_wp2_with fail
          all_goals
            refine HTT.out.mono ?_
            rintro e w7 ⟨rfl, rfl⟩
            go_wp2
            all_goals
              go_ret
              exact ⟨by first | rfl | (simp <;> omega), B6⟩

end Go.Proofs.Ytkkdffmpeadinaa
