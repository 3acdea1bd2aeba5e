/-
  Chapter 3: the walks of FnEachUnits and FnPushedUnits.
-/
import Derived.Test.YtkkdffmpeadinaaVg
namespace Go.Proofs.Ytkkdffmpeadinaa
open Go.RowKit

/-- What EachUnits hands back is worth the best together. -/
theorem ea_sum {rows : List (List Int)} {k : Int} (h : 1 ≤ (eaL rows k).length) : (eaL rows k).sum = woF rows k ∧ Abs2 (eaL rows k) := by
  unfold eaL at h ⊢
  unfold woF
  cases hf : fuB rows k with
  | false => rw [hf] at h; simp at h
  | true =>
    obtain ⟨hv, h0, h5⟩ := fuB_iff.1 hf
    simp only [if_true]
    refine ⟨by rw [vls_sum, ← aw_best hv.good]; rfl, fun x hx => ?_⟩
    obtain ⟨i, hi, rfl⟩ := List.mem_map.1 hx
    have := pre_le150 (hv.good i (List.mem_range.1 hi)) (aw (RW rows) rows.length k.toNat i)
    omega

set_option maxHeartbeats 2000000 in
theorem fnEachUnits_walk {A : Option Addr} {c : Nat} {xs : List Int} {w : World} (h : Came .u8 w A c xs) :
    Calls Try.prog 7 #[.slice A xs.length c] w fun e w' => e = .returned (.bool true) ∧ Below w.heap.size w w' := by
  by_cases hlen : 1048576 < xs.length
  · go_enter Try.func7, Try.ntmps7
    go_wp2
    go_ret
    exact ⟨rfl, Below.refl _ _⟩
  have hl1 : xs.length ≤ 1048576 := by omega
  have HD := Lib.hid (DrawEachUnits_any A c xs w h)
  clear hlen h
  go_enter Try.func7, Try.ntmps7
  go_wp2_with fail
  refine HD.out.mono ?_
  rintro e w1 ⟨A1, c1, rows, k, rfl, hR, hl4, hl6, hk0, hk1, b1⟩
  obtain ⟨hS, hI⟩ := EachUnits_both rows k (by omega) (six_len hl6)
  have hW := (WorthOf_both rows k (by omega) (six_len hl6)).2
  have hes := ea_sum (rows := rows) (k := k)
  have hel := eaL_len (rows := rows) (k := k)
  obtain ⟨zs, hzs⟩ : ∃ zs, zs = eaL rows k := ⟨_, rfl⟩
  obtain ⟨v, hv⟩ : ∃ v, v = woF rows k := ⟨_, rfl⟩
  rw [← hzs] at hS hI hes hel
  rw [← hv] at hW hes
  have HS := Lib.hid hS
  have HI := Lib.hid hI
  have HW := Lib.hid hW
  have HES := Lib.hid hes
  have hzl : zs.length ≤ 1099511627776 := by omega
  clear hS hI hW hes hzs hv HD hl6
  go_wp2_with fail
  refine (HI.out A1 c1 w1 hR).mono ?_
  rintro e w2 ⟨A2, c2, rfl, o2, b2⟩
  have B2 := b1.trans (b2.mono b1.size)
  have hR2 := hR.below b2
  go_wp2_with fail
  refine (HS.out A1 c1 w2 hR2).mono ?_
  rintro e w3 ⟨A3, c3, rfl, o3, b3⟩
  have B3 := B2.trans (b3.mono B2.size)
  have hR3 := hR2.below b3
  have o23 := o2.below b3
  clear o2
  go_wp2_with fail
  refine (equalU_any A2 A3 c2 c3 zs zs w3 o23.rd o3.rd hzl).mono ?_
  rw [eqB_self]
  rintro e w4 ⟨rfl, n4, rfl⟩
  by_cases hz : zs.length = 0
  · have hz0 : ((zs.length : Int) == 0) = true := by simp [hz]
    clear hz
    go_wp2_with fail
    refine (HS.out A1 c1 (w3.drewN n4) (hR3.drewN n4)).mono ?_
    rintro e w5 ⟨A5, c5, rfl, o5, b5⟩
    have B5 := (below_drewN' B3 n4).trans (b5.mono B3.size)
    have o25 := (o23.drewN n4).below b5
    clear o3 o23
    go_wp2_with fail
    refine (equalU_any A2 A5 c2 c5 zs zs w5 o25.rd o5.rd hzl).mono ?_
    rw [eqB_self]
    rintro e w6 ⟨rfl, n6, rfl⟩
    go_wp2
    go_ret
    exact ⟨rfl, below_drewN' B5 n6⟩
  · have hz0 : ((zs.length : Int) == 0) = false := beq_eq_false_iff_ne.2 (by omega)
    obtain ⟨hsum, habs⟩ := HES.out (by omega)
    have HTT := Lib.hid (totalU_any A2 c2 zs (w3.drewN n4) (o23.drewN n4).rd (by omega) habs)
    rw [hsum] at HTT
    have hvv : (v == v) = true := by simp
    clear hz hsum habs o3
    go_wp2_with fail
    refine HTT.out.mono ?_
    rintro e w5 ⟨rfl, rfl⟩
    go_wp2_with fail
    refine (HW.out A1 c1 (w3.drewN n4) (hR3.drewN n4)).mono ?_
    rintro e w6 ⟨rfl, b6⟩
    have B6 := (below_drewN' B3 n4).trans (b6.mono B3.size)
    go_wp2
    go_ret
    exact ⟨rfl, B6⟩

/-- How many numbers there are. -/
theorem pu_facts {rows : List (List Int)} {k : Int} (h : 1 ≤ (puL rows k).length) : VD rows ∧ (0 ≤ k ∧ k ≤ 5) ∧ (puL rows k).length = rows.length ∧ (∀ x ∈ puL rows k, 0 ≤ x ∧ x ≤ 1000) ∧ ((rows.flatten.length : Int) ≤ k → (puL rows k).sum = 0) := by
  unfold puL at h ⊢
  cases hf : fuB rows k with
  | false => rw [hf] at h; simp at h
  | true =>
    obtain ⟨hv, h0, h5⟩ := fuB_iff.1 hf
    simp only [if_true]
    refine ⟨hv, ⟨h0, h5⟩, vls_len _ _, fun x hx => ?_, fun ha => ?_⟩
    · obtain ⟨i, hi, rfl⟩ := List.mem_map.1 hx
      refine ⟨spu_nn hv _ _, ?_⟩
      have h1 := sumTo_le (f := fun n => nthG (k.toNat - aw (RW rows) rows.length k.toNat i + n) (butOf rows i).flatten) (g := fun _ => 30) (n := aw (RW rows) rows.length k.toNat i) (fun q _ => (nthG_bd (hv.butNums i) _).2)
      rw [sumTo_const] at h1
      have h2 := aw_le (R := RW rows) (n := rows.length) k.toNat i
      unfold spuF
      omega
    · rw [vls_sum, sumTo_congr (g := fun _ => 0) (fun i hi => spu_zero hv hi (by omega)), sumTo_const]; simp

set_option maxHeartbeats 2000000 in
theorem fnPushedUnits_walk {A : Option Addr} {c : Nat} {xs : List Int} {w : World} (h : Came .u8 w A c xs) :
    Calls Try.prog 6 #[.slice A xs.length c] w fun e w' => e = .returned (.bool true) ∧ Below w.heap.size w w' := by
  by_cases hlen : 1048576 < xs.length
  · go_enter Try.func6, Try.ntmps6
    go_wp2
    go_ret
    exact ⟨rfl, Below.refl _ _⟩
  have hl1 : xs.length ≤ 1048576 := by omega
  have HD := Lib.hid (DrawPushedUnits_any A c xs w h)
  clear hlen h
  go_enter Try.func6, Try.ntmps6
  go_wp2_with fail
  refine HD.out.mono ?_
  rintro e w1 ⟨A1, c1, rows, k, rfl, hR, hl4, hl6, hk0, hk1, b1⟩
  obtain ⟨hS, hI⟩ := PushedUnits_both rows k (by omega) (six_len hl6)
  have hpf := pu_facts (rows := rows) (k := k)
  have hel := puL_len (rows := rows) (k := k)
  obtain ⟨zs, hzs⟩ : ∃ zs, zs = puL rows k := ⟨_, rfl⟩
  rw [← hzs] at hS hI hpf hel
  have HS := Lib.hid hS
  have HI := Lib.hid hI
  have HPF := Lib.hid hpf
  have H6 := Lib.hid hl6
  have hzl : zs.length ≤ 1099511627776 := by omega
  clear hS hI hpf hzs HD hl6
  go_wp2_with fail
  refine (HI.out A1 c1 w1 hR).mono ?_
  rintro e w2 ⟨A2, c2, rfl, o2, b2⟩
  have B2 := b1.trans (b2.mono b1.size)
  have hR2 := hR.below b2
  go_wp2_with fail
  refine (HS.out A1 c1 w2 hR2).mono ?_
  rintro e w3 ⟨A3, c3, rfl, o3, b3⟩
  have B3 := B2.trans (b3.mono B2.size)
  have hR3 := hR2.below b3
  have o23 := o2.below b3
  clear o2
  go_wp2_with fail
  refine (equalU_any A2 A3 c2 c3 zs zs w3 o23.rd o3.rd hzl).mono ?_
  rw [eqB_self]
  rintro e w4 ⟨rfl, n4, rfl⟩
  by_cases hz : zs.length = 0
  · have hz0 : ((zs.length : Int) == 0) = true := by simp [hz]
    clear hz
    go_wp2_with fail
    refine (HS.out A1 c1 (w3.drewN n4) (hR3.drewN n4)).mono ?_
    rintro e w5 ⟨A5, c5, rfl, o5, b5⟩
    have B5 := (below_drewN' B3 n4).trans (b5.mono B3.size)
    have o25 := (o23.drewN n4).below b5
    clear o3 o23
    go_wp2_with fail
    refine (equalU_any A2 A5 c2 c5 zs zs w5 o25.rd o5.rd hzl).mono ?_
    rw [eqB_self]
    rintro e w6 ⟨rfl, n6, rfl⟩
    go_wp2
    go_ret
    exact ⟨rfl, below_drewN' B5 n6⟩
  · have hz0 : ((zs.length : Int) == 0) = false := beq_eq_false_iff_ne.2 (by omega)
    obtain ⟨hvd, hkk, hln, hbd, hsum⟩ := HPF.out (by omega)
    have HVD := Lib.hid hvd
    have HBD := Lib.hid hbd
    have HSM := Lib.hid hsum
    have HLN := Lib.hid hln
    have h1l := hvd.1.1
    have hkk0 := hkk.1
    have hkk1 := hkk.2
    have HFC := Lib.hid (hvd.flat)
    clear hz hvd hbd hsum o3 hln hkk
    go_wp2
    go_loopw [6, 7] (fun a i wr => ∃ (j n : Nat) (z : Int), j ≤ rows.length ∧ i = .int .i64 j ∧ a = .int .i64 z ∧ wr = w3.drewN n ∧ Hid (z = (rows.take j).flatten.length)) (fun _ i _ => rows.length - (intOf i).toNat)
    case atStart => exact ⟨0, n4, 0, Nat.zero_le _, rfl, rfl, rfl, Lib.hid (by simp)⟩
    case round =>
      obtain ⟨j, n, z, hj, rfl, rfl, rfl, HZ⟩ := hrel
      have hzb : 0 ≤ z ∧ z ≤ 20 := by have h1 := HZ.out; have h2 := flat_le (rows := rows) j; have h3 := HFC.out; omega
      have hzb0 := hzb.1
      have hzb1 := hzb.2
      clear hzb
      by_cases hlt : j < rows.length
      · obtain ⟨b, off, r, A', c', rfl, hr, hc, hcap, hrd⟩ := hR3.at_ hlt
        obtain ⟨bz, oz, x, rfl, _, hx, hcx⟩ := o23.rd.at_ (k := j) (by rw [HLN.out]; exact hlt)
        have hxb := HBD.out x (List.mem_of_getElem? hx.out)
        have hrl : r.length ≤ 6 := H6.out r (List.mem_of_getElem? hr.out)
        have HFT : Hid (z + (r.length : Int) = (rows.take (j + 1)).flatten.length) := Lib.hid (by have := flat_take hr.out; have h1 := HZ.out; omega)
        have hx0 : ¬ x < 0 := by omega
        have hjz : (j : Int) < (zs.length : Int) := by have := HLN.out; omega
        clear hxb
        go_wp2
        go_roundw
        case rel => exact ⟨j + 1, _, _, by omega, by go_num, rfl, rfl, HFT⟩
        case measure => simp [intOf]; omega
      · obtain rfl : j = rows.length := by omega
        have hza : z = (rows.flatten.length : Int) := by have h1 := HZ.out; rwa [List.take_length] at h1
        by_cases hak : k < z
        · clear hza
          go_wp2
          go_ret
          exact ⟨rfl, below_drewN' B3 n⟩
        · have hsm : zs.sum = 0 := HSM.out (by omega)
          have HTT := Lib.hid (totalU_any A2 c2 zs (w3.drewN n) (o23.drewN n).rd (by omega) (fun x hx => by have := HBD.out x hx; omega))
          rw [hsm] at HTT
          clear hza hsm
          go_wp2_with fail
          refine HTT.out.mono ?_
          rintro e w5 ⟨rfl, rfl⟩
          go_wp2
          go_ret
          exact ⟨rfl, below_drewN' B3 n⟩

end Go.Proofs.Ytkkdffmpeadinaa
