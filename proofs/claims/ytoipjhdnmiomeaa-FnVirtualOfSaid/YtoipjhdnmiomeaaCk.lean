/-
  Chapter 2: the contracts of IsRegular, of the program and of the model.
-/
import Derived.Test.YtoipjhdnmiomeaaCj
namespace Go.Proofs.Ytoipjhdnmiomeaa
open Go.RowKit

/-- Up to k no virtual value is less than the one ahead of it. -/
def regUp (xs : List Int) (k : Nat) : Bool := (List.range k).all fun v => decide (v = 0) || !decide (virtQ xs v < virtQ xs (v - 1))
/-- What IsRegular hands back. -/
def regB (xs : List Int) : Bool := vW xs && regUp xs xs.length
theorem regUp_one (xs : List Int) : regUp xs 1 = true := by simp [regUp]
theorem regUp_yes {xs : List Int} {k : Nat} (h : regUp xs k = true) (h2 : ¬ virtQ xs k < virtQ xs (k - 1)) : regUp xs (k + 1) = true := by
  unfold regUp at *
  rw [List.range_succ, List.all_append, h]
  simp [h2]
theorem regUp_no {xs : List Int} {k : Nat} (hk : 1 ≤ k) (hl : k < xs.length) (h2 : virtQ xs k < virtQ xs (k - 1)) : regB xs = false := by
  have : regUp xs xs.length = false := by
    unfold regUp
    rw [List.all_eq_false]
    exact ⟨k, List.mem_range.2 hl, by simp [h2]; omega⟩
  unfold regB; rw [this]; simp
theorem regB_yes {xs : List Int} (hv : vW xs = true) (h : regUp xs xs.length = true) : regB xs = true := by unfold regB; rw [hv, h]; rfl
theorem regB_bad {xs : List Int} (hv : vW xs = false) : regB xs = false := by unfold regB; rw [hv]; rfl
theorem regB_reg {xs : List Int} (h : regB xs = true) : regW xs := by
  intro v hv
  simp only [regB, regUp, Bool.and_eq_true, List.all_eq_true] at h
  have := h.2 (v + 1) (List.mem_range.2 hv)
  simp at this
  exact Rat.not_lt.1 this

theorem virt_bd {xs : List Int} {v : Nat} {n d : Int} (hv : vW xs = true) (hlt : v < xs.length) (hq : FrIs (virtQ xs v) n d) : -36 ≤ n ∧ n ≤ 36 ∧ 1 ≤ d ∧ d ≤ 6 := by
  obtain ⟨p1, p2, p3, p4, p5⟩ := virt_parts hv (List.getElem?_eq_getElem hlt) hq
  obtain ⟨t1, t2⟩ := rev_b hv (v + 1)
  have := fq_le p2 p1
  omega

set_option maxHeartbeats 1000000 in
theorem IsRegular_any (A : Option Addr) (c : Nat) (xs : List Int) (w : World) (h : Rd w A c xs) (hcc : xs.length ≤ c) (hl : xs.length ≤ 1048576) :
    Calls Try.prog 31 #[.slice A xs.length c] w fun e w' => e = .returned (.bool (regB xs)) ∧ Below w.heap.size w w' := by
  have HV := Lib.hid (VirtualOf_any A c xs w h hcc hl)
  cases hv : vW xs with
  | false =>
    have HE := Lib.hid (regB_bad hv)
    rw [show virtO xs = none by unfold virtO; rw [hv]; rfl] at HV
    clear hv
    go_enter Try.func31, Try.ntmps31
    go_wp2_with fail
    refine HV.out.mono ?_
    rintro e w1 ⟨hb, ⟨_, rfl⟩ | ⟨qs, g, c', he, _⟩⟩
    · go_wp2
      go_loopw [4] (fun i wr => i = .int .i64 1 ∧ Below w.heap.size w wr) (fun _ _ => 0)
      case atStart => exact ⟨rfl, hb⟩
      case round =>
        obtain ⟨rfl, hbr⟩ := hrel
        go_wp2
        go_ret
        exact ⟨by rw [HE.out]; rfl, hbr⟩
    · cases he
  | true =>
    rw [show virtO xs = some (virtL xs) by unfold virtO; rw [hv]; rfl] at HV
    have HVV := Lib.hid hv
    obtain ⟨l1, l2⟩ := vW_le hv
    clear hv
    go_enter Try.func31, Try.ntmps31
    go_wp2_with fail
    refine HV.out.mono ?_
    rintro e w1 ⟨hb, ⟨he, _⟩ | ⟨qs, g, c', he, rfl, ho⟩⟩
    · cases he
    have e2 : (frL qs).length = xs.length := by obtain rfl := Option.some.inj he; rw [frL_len, virtL_len]
    have HQ := Lib.hid (show qs = virtL xs from (Option.some.inj he).symm)
    rw [e2]
    have hR := ho.rd
    clear he e2 ho
    go_wp2
    go_loopw [4] (fun i wr => ∃ k : Nat, 1 ≤ k ∧ k ≤ xs.length ∧ i = .int .i64 k ∧ Below w.heap.size w wr ∧ Below w1.heap.size w1 wr ∧ Hid (regUp xs k = true)) (fun i _ => xs.length - (intOf i).toNat)
    case atStart => exact ⟨1, Nat.le_refl _, l1, rfl, hb, Below.refl _ _, Lib.hid (regUp_one xs)⟩
    case round =>
      obtain ⟨k, hk1, hk, rfl, hbr, hbr1, HP⟩ := hrel
      by_cases hlt : k < xs.length
      · obtain ⟨b1, x, y, e0, hb1, hx, hc1, hc2⟩ := (hR.below hbr1).at_ (k := k) (by rw [HQ.out, frL_len, virtL_len]; exact hlt)
        obtain rfl : g = b1 := by simpa using e0
        clear e0
        obtain ⟨b2, x', y', e3, hb2, hx', hc3, hc4⟩ := (hR.below hbr1).at_ (k := k - 1) (by rw [HQ.out, frL_len, virtL_len]; omega)
        obtain rfl : g = b2 := by simpa using e3
        clear e3
        have HX : Hid (FrIs (virtQ xs k) x y) := Lib.hid (by
          obtain ⟨q, h1, h2⟩ := frL_at hx.out
          rw [HQ.out, virtL_at hlt] at h1
          exact Option.some.inj h1 ▸ h2)
        have HX' : Hid (FrIs (virtQ xs (k - 1)) x' y') := Lib.hid (by
          obtain ⟨q, h1, h2⟩ := frL_at hx'.out
          rw [HQ.out, virtL_at (by omega)] at h1
          exact Option.some.inj h1 ▸ h2)
        obtain ⟨m1, m2, m3, m4⟩ := virt_bd HVV.out hlt HX.out
        obtain ⟨m5, m6, m7, m8⟩ := virt_bd HVV.out (show k - 1 < xs.length by omega) HX'.out
        have HL := Lib.hid (lessF_is HX.out HX'.out)
        obtain ⟨u1, u2⟩ := mul_bd m1 m2 m7 m8 (by omega)
        obtain ⟨u3, u4⟩ := mul_bd m5 m6 m3 m4 (by omega)
        have e1 : ((k : Int) - 1) = ((k - 1 : Nat) : Int) := by omega
        have hk2 : k - 1 < xs.length := by omega
        have hk3 : ((k - 1 : Nat) : Int) < (xs.length : Int) := by omega
        clear hx hx'
        by_cases hq : virtQ xs k < virtQ xs (k - 1)
        · have HE := Lib.hid (regUp_no hk1 hlt hq)
          have HLL := Lib.hid (show lessF x y x' y' = true by rw [HL.out]; simpa using hq)
          clear hq
          go_wp2_with fail
          refine region_tail 9 (by kernel_rfl) (by kernel_rfl) ?_
          simp only [List.take_succ_cons, List.take_zero, List.drop_succ_cons, List.drop_zero]
          iterate 9 (refine wpStill_step (fun K hK => ?_); go_simp; (try go_bits); refine hK _ ?_; clear hK K)
          refine wpStill_nil ?_
          go_wp2_with fail
          refine (less_any x y x' y' _ _ HLL.out (by omega) (by omega) (by omega) (by omega)).mono ?_
          rintro e w4 ⟨rfl, hb4⟩
          go_wp2
          go_ret
          exact ⟨by rw [HE.out]; rfl, below_up hbr.drew hb4⟩
        · have HE := Lib.hid (regUp_yes HP.out hq)
          have HLL := Lib.hid (show lessF x y x' y' = false by rw [HL.out]; simpa using hq)
          clear hq
          go_wp2_with fail
          refine region_tail 9 (by kernel_rfl) (by kernel_rfl) ?_
          simp only [List.take_succ_cons, List.take_zero, List.drop_succ_cons, List.drop_zero]
          iterate 9 (refine wpStill_step (fun K hK => ?_); go_simp; (try go_bits); refine hK _ ?_; clear hK K)
          refine wpStill_nil ?_
          go_wp2_with fail
          refine (less_any x y x' y' _ _ HLL.out (by omega) (by omega) (by omega) (by omega)).mono ?_
          rintro e w4 ⟨rfl, hb4⟩
          go_wp2
          go_roundw
          case rel => exact ⟨k + 1, by omega, by omega, by go_num, below_up hbr.drew hb4, below_up hbr1.drew hb4, HE⟩
          case measure => simp [intOf] <;> omega
      · obtain rfl : k = xs.length := by omega
        have HE := Lib.hid (regB_yes HVV.out HP.out)
        have hp : (0 : Int) < (xs.length : Int) := by omega
        go_wp2
        go_ret
        exact ⟨by rw [HE.out]; simp; omega, hbr⟩

end Go.Proofs.Ytoipjhdnmiomeaa
