/-
  Chapter 3: the walk of FnMoreUnitsAreCheaper.
-/
import Derived.Test.YtkkdffmpeadinaaVj
namespace Go.Proofs.Ytkkdffmpeadinaa
open Go.RowKit

theorem VD.nums {rows : List (List Int)} (hv : VD rows) : ∀ x ∈ rows.flatten, 0 ≤ x ∧ x ≤ 30 := by
  intro x hx
  rw [List.mem_flatten] at hx
  obtain ⟨r, hr, hxr⟩ := hx
  obtain ⟨q, hq, rfl⟩ := List.getElem_of_mem hxr
  have := (hv.2 r hr).2 q _ (List.getElem?_eq_getElem hq)
  omega
theorem op_no {rows : List (List Int)} {k : Int} (h : fuB rows k = false) : opF rows k = -1 := by unfold opF; rw [h]; simp
theorem op_next {rows : List (List Int)} {k : Int} (h : fuB rows k = true) : 0 ≤ opF rows k ∧ opF rows (k + 1) ≤ opF rows k := by
  obtain ⟨hv, h0, h5⟩ := fuB_iff.1 h
  obtain ⟨n, rfl⟩ := Int.eq_ofNat_of_zero_le h0
  have h1 := (nthG_bd hv.nums n).1
  rw [op_yes h, Int.toNat_natCast]
  refine ⟨h1, ?_⟩
  cases hf : fuB rows ((n : Int) + 1) with
  | false => rw [op_no hf]; omega
  | true => rw [op_yes hf, show ((n : Int) + 1).toNat = n + 1 by omega]; exact nth_anti hv.nums n
theorem op_take {rows : List (List Int)} {k : Int} {m : Nat} (h : fuB rows k = true) (h1 : 1 ≤ m) (hm : m ≤ rows.length) : opF (rows.take m) k ≤ opF rows k := by
  obtain ⟨hv, h0, h5⟩ := fuB_iff.1 h
  have hf : fuB (rows.take m) k = true := fuB_iff.2 ⟨hv.take_ h1 hm, h0, h5⟩
  rw [op_yes h, op_yes hf]
  have e : rows.flatten = (rows.take m).flatten ++ (rows.drop m).flatten := by rw [← List.flatten_append, List.take_append_drop]
  rw [e]
  exact nth_append (by rw [← e]; exact hv.nums) _
theorem piv_abs {rows : List (List Int)} (hv : VD rows) (k : Nat) : Abs2 (vls (pivF rows k) rows.length) := fun x hx => by
  obtain ⟨i, hi, rfl⟩ := List.mem_map.1 hx
  have := pre_piv_bd hv (List.mem_range.1 hi) k
  omega
theorem PivotUnits_n (A : Option Addr) (c k n : Nat) (rows : List (List Int)) (w : World) (hn : rows.length = n) (hR : RdR w A c rows) (hv : VD rows) (hk : k ≤ 5) :
    Calls Try.prog 38 #[.slice A n c, .int .i64 k] w (ValsIs w (pivF rows k) n) := by
  subst hn; exact PivotUnits_yes A c k rows w hR hv hk
theorem totalU_n (A : Option Addr) (c n : Nat) (s : Int) (xs : List Int) (w : World) (hn : xs.length = n) (hsm : xs.sum = s) (h : Rd w A c xs) (hl : n ≤ 1048576) (hs : Abs2 xs) :
    Calls Try.prog 23 #[.slice A n c] w fun e w' => e = .returned (.int .i64 s) ∧ w = w' := by
  subst hn hsm; exact totalU_any A c xs w h hl hs

set_option maxHeartbeats 8000000 in
theorem fnMoreUnitsAreCheaper_walk {A : Option Addr} {c : Nat} {xs : List Int} {w : World} (h : Came .u8 w A c xs) :
    Calls Try.prog 10 #[.slice A xs.length c] w fun e w' => e = .returned (.bool true) ∧ Below w.heap.size w w' := by
  by_cases hlen : 1048576 < xs.length
  · go_enter Try.func10, Try.ntmps10
    go_wp2
    go_ret
    exact ⟨rfl, Below.refl _ _⟩
  have hl1 : xs.length ≤ 1048576 := by omega
  have HD := Lib.hid (DrawOnePrice_any A c xs w h)
  clear hlen h
  go_enter Try.func10, Try.ntmps10
  go_wp2_with fail
  refine HD.out.mono ?_
  rintro e w1 ⟨A1, c1, rows, k, rfl, hR, hl4, hl6, hk0, hk1, b1⟩
  obtain ⟨hS, hI⟩ := OnePrice_both rows k (by omega) (six_len hl6)
  have hI1 := (OnePrice_both rows (k + 1) (by omega) (six_len hl6)).2
  have hb0 := op_bd rows k
  have hb1 := op_bd rows (k + 1)
  have hno := op_no (rows := rows) (k := k)
  have hnx := op_next (rows := rows) (k := k)
  obtain ⟨v, hv⟩ : ∃ v, v = opF rows k := ⟨_, rfl⟩
  obtain ⟨v1, hv1⟩ : ∃ v1, v1 = opF rows (k + 1) := ⟨_, rfl⟩
  rw [← hv] at hS hI hb0 hno hnx
  rw [← hv1] at hI1 hb1 hnx
  have HS := Lib.hid hS
  have HI := Lib.hid hI
  have HI1 := Lib.hid hI1
  have H6 := Lib.hid hl6
  have HVE := Lib.hid hv
  have hvv : (v != v) = false := by simp
  clear hS hI hI1 hv hv1 HD hl6
  go_wp2_with fail
  refine (HI.out A1 c1 w1 hR).mono ?_
  rintro e w2 ⟨rfl, b2⟩
  have B2 := b1.trans (b2.mono b1.size)
  have hR2 := hR.below b2
  go_wp2_with fail
  refine (HS.out A1 c1 w2 hR2).mono ?_
  rintro e w3 ⟨rfl, b3⟩
  have B3 := B2.trans (b3.mono B2.size)
  have hR3 := hR2.below b3
  go_wp2_with fail
  refine (HI.out A1 c1 w3 hR3).mono ?_
  rintro e w4 ⟨rfl, b4⟩
  have B4 := B3.trans (b4.mono B3.size)
  have hR4 := hR3.below b4
  clear b1 b2 b3 b4 B2 B3 hR hR2 hR3
  cases hf : fuB rows k with
  | false =>
    have hvn : v < 0 := by have := hno hf; omega
    clear hno hnx hf hb0 hb1
    go_wp2
    go_ret
    exact ⟨rfl, B4⟩
  | true =>
    obtain ⟨hv0, hv10⟩ := hnx hf
    obtain ⟨hvd, hkk0, hkk1⟩ := fuB_iff.1 hf
    obtain ⟨n, rfl⟩ := Int.eq_ofNat_of_zero_le hkk0
    have h1l := hvd.1.1
    obtain ⟨b, off, rfl, hcap, _⟩ := hR4.open_ h1l
    have hvn : ¬ v < 0 := by omega
    obtain ⟨m, hm⟩ : ∃ m, rows.length = m + 1 := ⟨rows.length - 1, by omega⟩
    have hmi : (rows.length : Int) - 1 = (m : Int) := by omega
    have hwm : IntKind.i64.wrap (m : Int) = (m : Int) := IntWalk.i64_in _ (by omega)
    have hmc : (m : Int) ≤ (c1 : Int) := by omega
    have HF := Lib.hid hf
    have HVD := Lib.hid hvd
    have HM := Lib.hid hm
    have hb00 := hb0.1
    have hb01 := hb0.2
    have hb10 := hb1.1
    have hb11 := hb1.2
    by_cases hm0 : m = 0
    · have hmn : ¬ (0 : Int) < (m : Int) := by omega
      have hmn2 : ¬ 0 < m := by omega
      clear hno hnx hf hvd hm hm0 hb0 hb1
      go_wp2_with fail
      refine (HI1.out _ c1 w4 hR4).mono ?_
      rintro e w5 ⟨rfl, b5⟩
      have B5 := B4.trans (b5.mono B4.size)
      go_wp2
      go_ret
      exact ⟨by first | rfl | (simp <;> omega), B5⟩
    · have hm1 : 1 ≤ m := by omega
      have hmn : (0 : Int) < (m : Int) := by omega
      have hmn2 : 0 < m := by omega
      have hvt := hvd.take_ hm1 (by omega)
      have hlt : (rows.take m).length = m := by rw [List.length_take]; omega
      have hRt := hR4.take_ (c2 := c1) m (by omega)
      have HP1 := Lib.hid (PivotUnits_n (some ⟨b, off, none⟩) c1 n m (rows.take m) w4 hlt hRt hvt (by omega))
      obtain ⟨s1, hs1⟩ : ∃ s1, s1 = sumTo (pivF (rows.take m) n) m := ⟨_, rfl⟩
      obtain ⟨s2, hs2⟩ : ∃ s2, s2 = sumTo (pivF rows n) rows.length := ⟨_, rfl⟩
      have hss : ¬ s2 < s1 := by
        have := piv_more hvd hm1 hm.symm n
        omega
      have HS1 : Hid ((vls (pivF (rows.take m) n) m).sum = s1) := Lib.hid (by rw [vls_sum, hs1])
      have HS2 : Hid ((vls (pivF rows n) rows.length).sum = s2) := Lib.hid (by rw [vls_sum, hs2])
      have HA1 : Hid (Abs2 (vls (pivF (rows.take m) n) m)) := Lib.hid (by have := piv_abs hvt n; rwa [hlt] at this)
      have HA2 : Hid (Abs2 (vls (pivF rows n) rows.length)) := Lib.hid (piv_abs hvd n)
      have hT1 := (OnePrice_both (rows.take m) n (by omega) (six_len (fun x hx => H6.out x (List.mem_of_mem_take hx)))).2
      rw [hlt] at hT1
      obtain ⟨vt, hvt1⟩ : ∃ vt, vt = opF (rows.take m) n := ⟨_, rfl⟩
      have hvtv : ¬ v < vt := by
        have := op_take hf hm1 (by omega)
        have e := HVE.out
        omega
      rw [← hvt1] at hT1
      have HT1 := Lib.hid hT1
      have HM1 := Lib.hid hm1
      have HRT := Lib.hid hRt
      have hln : m ≤ 1048576 := by omega
      have hln2 : rows.length ≤ 1048576 := by omega
      clear hno hnx hf hm hm0 hb0 hb1 hs1 hs2 hT1 hvt1 hvt hvd hlt hRt hm1
      go_wp2_with fail
      refine HP1.out.mono ?_
      rintro e w5 ⟨g1, d1, rfl, o1, b5⟩
      have B5 := B4.trans (b5.mono B4.size)
      have hR5 := hR4.below b5
      have HT1c := Lib.hid (totalU_n (some ⟨g1, 0, none⟩) d1 m s1 _ w5 (vls_len _ _) HS1.out o1.rd hln HA1.out)
      go_wp2_with fail
      refine HT1c.out.mono ?_
      rintro e w5' ⟨rfl, rfl⟩
      have HP2 := Lib.hid (PivotUnits_n (some ⟨b, off, none⟩) c1 n rows.length rows w5 rfl hR5 HVD.out (by omega))
      clear HT1c HP1 HA1 HS1
      go_wp2_with fail
      refine HP2.out.mono ?_
      rintro e w6 ⟨g2, d2, rfl, o2, b6⟩
      have B6 := B5.trans (b6.mono B5.size)
      have hR6 := hR5.below b6
      have hRt6 := (HRT.out.below b5).below b6
      have HT2c := Lib.hid (totalU_n (some ⟨g2, 0, none⟩) d2 rows.length s2 _ w6 (vls_len _ _) HS2.out o2.rd hln2 HA2.out)
      go_wp2_with fail
      refine HT2c.out.mono ?_
      rintro e w6' ⟨rfl, rfl⟩
      clear HT2c HP2 HA2 HS2
      go_wp2_with fail
      refine (HT1.out _ c1 w6 hRt6).mono ?_
      rintro e w7 ⟨rfl, b7⟩
      have B7 := B6.trans (b7.mono B6.size)
      have hR7 := hR6.below b7
      go_wp2_with fail
      refine (HI1.out _ c1 w7 hR7).mono ?_
      rintro e w8 ⟨rfl, b8⟩
      have B8 := B7.trans (b8.mono B7.size)
      go_wp2
      go_ret
      exact ⟨by first | rfl | (simp <;> omega), B8⟩

end Go.Proofs.Ytkkdffmpeadinaa
