/-
  Chapter 4: the contracts of IsModest and of the model's; both sides of ValidTable and of IsModest.
-/
import Derived.Test.YtccbjgajmjcpjabWg
import Derived.Test.YtccbjgajmjcpjabWy
import Derived.Test.YtccbjgajmjcpjabWx
namespace Go.Proofs.Ytccbjgajmjcpjab
open Go.RowKit

noncomputable def mdB (t : List Int) : Bool := @decide (VT t ∧ Mod t) (Classical.propDecidable _)
theorem mdB_true {t : List Int} (h : VT t) (hm : Mod t) : mdB t = true := by unfold mdB; simp [h, hm]
theorem mdB_false {t : List Int} (h : ¬ (VT t ∧ Mod t)) : mdB t = false := by unfold mdB; simp only [decide_eq_false_iff_not]; exact h
/-- Of the first k sets, and of all. -/
def MdTo (t : List Int) (k : Nat) : Prop := ∀ s, s < k → ∀ x, x < 8 → T t (s ||| x) + T t (s &&& x) ≤ T t s + T t x
def MdU (t : List Int) (s j : Nat) : Prop := ∀ x, x < j → T t (s ||| x) + T t (s &&& x) ≤ T t s + T t x
theorem MdTo.zero (t : List Int) : MdTo t 0 := fun s h => absurd h (by omega)
theorem MdU.zero (t : List Int) (s : Nat) : MdU t s 0 := fun s h => absurd h (by omega)
theorem MdU.next {t : List Int} {s j : Nat} (h : MdU t s j) (hj : T t (s ||| j) + T t (s &&& j) ≤ T t s + T t j) : MdU t s (j + 1) := fun x hx => by
  rcases Nat.lt_or_ge x j with h1 | h1
  · exact h x h1
  · rw [show x = j by omega]; exact hj
theorem MdTo.next {t : List Int} {s : Nat} (h : MdTo t s) (hu : MdU t s 8) : MdTo t (s + 1) := fun x hx => by
  rcases Nat.lt_or_ge x s with h1 | h1
  · exact h x h1
  · rw [show x = s by omega]; exact hu
theorem and8 {p r : Nat} (hp : p < 8) : p &&& r < 8 := Nat.lt_of_le_of_lt Nat.and_le_left hp

theorem mdB_ne {t : List Int} (h : VT t) : mdB t = neB (T t) 8 := by
  by_cases hm : Mod t
  · rw [mdB_true h hm, neB_true (fun a ha b hb => hm a ha b hb)]
  · rw [mdB_false (fun h => hm h.2), neB_false (fun hn => hm (fun a ha b hb => hn a ha b hb))]
theorem IsModest_any (A : Option Addr) (c : Nat) (t : List Int) (w : World) (h : Rd w A c t) (hl : t.length ≤ 1099511627776) :
    Calls Try.prog 40 #[.slice A t.length c] w fun e w' => e = .returned (.bool (mdB t)) ∧ Below w.heap.size w w' := by
  have HV := Lib.hid (ValidTable_any A c t w h hl)
  by_cases hv : VT t
  · rw [vt_true hv] at HV
    have HE := Lib.hid (mdB_ne hv)
    have HAL := Lib.hid (fun (w1 : World) (hb : Below w.heap.size w w1) => addsLess_any A c 3 8 t w1 (h.below hb) rfl (by omega) hv.1 (fun s hs => ⟨(hv.bd hs).1, by have := (hv.bd hs).2; omega⟩))
    rw [hv.1] at HV ⊢
    clear hv
    go_enter Try.func40, Try.ntmps40
    go_wp2_with (first
      | (go_at_call 103; refine HV.out.mono ?_; rintro e w1 ⟨rfl, hb1⟩; have HB1 := Lib.hid hb1; clear hb1)
      | (go_at_call 104; refine (HAL.out _ HB1.out).mono ?_; rintro e w2 ⟨rfl, n, rfl⟩))
    go_ret
    exact ⟨by rw [HE.out]; rfl, below_drewN' HB1.out n⟩
  · rw [vt_false hv] at HV
    have HE := Lib.hid (mdB_false (t := t) (fun h => hv h.1))
    clear hv
    go_enter Try.func40, Try.ntmps40
    go_wp2_with (go_at_call 103; refine HV.out.mono ?_; rintro e w1 ⟨rfl, hb⟩)
    go_ret
    exact ⟨by rw [HE.out]; rfl, hb⟩

set_option maxHeartbeats 1600000 in
theorem Smodest_any (A : Option Addr) (c : Nat) (t : List Int) (w : World) (h : Rd w A c t) (hv : VT t) :
    Calls Try.prog 102 #[.slice A t.length c] w fun e w' => e = .returned (.bool (mdB t)) ∧ Below w.heap.size w w' := by
  have HN := Lib.hid (fun (hm : ¬ Mod t) => mdB_false (t := t) (fun h => hm h.2))
  have HY := Lib.hid (fun (hm : MdTo t 8) => mdB_true hv hm)
  have HBD := Lib.hid (fun (s : Nat) (hs : s < 8) => hv.bd hs)
  have h8 := hv.1
  rw [h8]
  clear hv
  go_enter Try.func102, Try.ntmps102
  go_wp2
  go_loopw [3] (fun i wr => ∃ k n : Nat, k ≤ 8 ∧ i = .int .i64 (k : Int) ∧ wr = w.drewN n ∧ Hid (MdTo t k)) (fun i _ => 8 - (intOf i).toNat)
  case atStart => exact ⟨0, 0, by omega, rfl, rfl, Lib.hid (MdTo.zero t)⟩
  case round =>
    obtain ⟨k, n, hk, rfl, rfl, HO⟩ := hrel
    by_cases hlt : k < 8
    · obtain ⟨b, off, x, rfl, _, hx, hc0⟩ := h.at_ (k := k) (by omega)
      have hTx := T_of hx.out
      have hxb := HBD.out k hlt
      rw [hTx] at hxb
      have HTX := Lib.hid hTx
      obtain ⟨hx0, hx30⟩ := hxb
      clear hx hTx hc0
      have hk0 : (0 : Int) ≤ (k : Int) := by omega
      have hk8 : (k : Int) < 8 := by omega
      go_wp2
      go_loopw [4] (fun i wr => ∃ j m : Nat, j ≤ 8 ∧ i = .int .i64 (j : Int) ∧ wr = w.drewN m ∧ Hid (MdU t k j)) (fun i _ => 8 - (intOf i).toNat)
      case atStart => exact ⟨0, n, by omega, rfl, rfl, Lib.hid (MdU.zero t k)⟩
      case round =>
        obtain ⟨j, m, hj, rfl, rfl, HU⟩ := hrel
        by_cases hjl : j < 8
        · obtain ⟨b1, off1, x', hA, _, hx', hc⟩ := h.at_ (k := k) (by omega)
          cases hA
          obtain rfl : x = x' := HTX.out.symm.trans (T_of hx'.out)
          obtain ⟨b2, off2, y, hA, _, hy, hc2⟩ := h.at_ (k := j) (by omega)
          cases hA
          obtain ⟨b3, off3, u, hA, _, hu, hc3⟩ := h.at_ (k := k ||| j) (by rw [h8]; exact or8 hlt hjl)
          cases hA
          obtain ⟨b4, off4, v, hA, _, hv, hc4⟩ := h.at_ (k := k &&& j) (by rw [h8]; exact and8 hlt)
          cases hA
          have hTy := T_of hy.out
          have hTu := T_of hu.out
          have hTv := T_of hv.out
          have hyb := HBD.out j hjl
          have hub := HBD.out (k ||| j) (or8 hlt hjl)
          have hvb := HBD.out (k &&& j) (and8 hlt)
          rw [hTy] at hyb
          rw [hTu] at hub
          rw [hTv] at hvb
          have HNO : x + y < u + v → Hid (mdB t = false) := fun hh => Lib.hid (HN.out (fun hm => by have := hm k hlt j hjl; rw [hTu, hTv, HTX.out, hTy] at this; omega))
          have HYE : ¬ x + y < u + v → Hid (MdU t k (j + 1)) := fun hh => Lib.hid (HU.out.next (by rw [hTu, hTv, HTX.out, hTy]; omega))
          obtain ⟨hy0, hy30⟩ := hyb
          obtain ⟨hu0, hu30⟩ := hub
          obtain ⟨hv0, hv30⟩ := hvb
          have ho := or_nat hlt hjl
          have ha := and_nat hlt hjl
          have ho8 := or8 hlt hjl
          have ha8 : k &&& j < 8 := and8 hlt
          obtain ⟨p, hp⟩ : ∃ p, p = k ||| j := ⟨_, rfl⟩
          obtain ⟨q, hq⟩ : ∃ q, q = k &&& j := ⟨_, rfl⟩
          rw [← hp] at ho hc3 ho8
          rw [← hq] at ha hc4 ha8
          have hj0 : (0 : Int) ≤ (j : Int) := by omega
          have hj8 : (j : Int) < 8 := by omega
          have hp0 : (0 : Int) ≤ (p : Int) := by omega
          have hp8 : (p : Int) < 8 := by omega
          have hq0 : (0 : Int) ≤ (q : Int) := by omega
          have hq8 : (q : Int) < 8 := by omega
          clear hp hq hy hu hv hTy hTu hTv hx'
          have e1 : IntKind.i64.wrap (x + y) = x + y := IntWalk.i64_in _ (by omega)
          have e2 : IntKind.i64.wrap (u + v) = u + v := IntWalk.i64_in _ (by omega)
          by_cases hh : x + y < u + v
          · have HE := HNO hh
            clear HNO HYE
            go_wp2_with fail
            go_quiet (fail)
            go_wp2
            go_ret
            exact ⟨by rw [HE.out]; rfl, below_drewN' (below_drewN' (Below.refl _ _) m) nq⟩
          · have HU' := HYE hh
            clear HNO HYE
            go_wp2_with fail
            go_quiet (fail)
            go_wp2
            go_roundw
            case rel => exact ⟨j + 1, _, by omega, by go_num, rfl, HU'⟩
            case measure => simp [intOf]; omega
        · obtain rfl : j = 8 := by omega
          have HO' := Lib.hid (HO.out.next HU.out)
          go_wp2
          go_roundw
          case rel => exact ⟨k + 1, _, by omega, by go_num, rfl, HO'⟩
          case measure => simp [intOf]; omega
    · obtain rfl : k = 8 := by omega
      have HE := Lib.hid (HY.out HO.out)
      go_wp2
      go_ret
      exact ⟨by rw [HE.out]; rfl, below_drewN' (Below.refl _ _) n⟩

theorem SIsModest_any (A : Option Addr) (c : Nat) (t : List Int) (w : World) (h : Rd w A c t) (hl : t.length ≤ 1099511627776) :
    Calls Try.prog 38 #[.slice A t.length c] w fun e w' => e = .returned (.bool (mdB t)) ∧ Below w.heap.size w w' := by
  have HV := Lib.hid (SvalidTable_any A c t w h hl)
  by_cases hv : VT t
  · rw [vt_true hv] at HV
    have HM := Lib.hid (fun w' (hr : Rd w' A c t) => Smodest_any A c t w' hr hv)
    clear hv
    go_enter Try.func38, Try.ntmps38
    go_wp2_with (first | (go_at_call 101; refine HV.out.mono ?_; rintro e w1 ⟨rfl, n, rfl⟩) | (go_at_call 102; refine (HM.out _ (h.drewN n)).mono ?_; rintro e w1 ⟨rfl, hb⟩))
    go_ret
    exact ⟨rfl, below_then (below_drewN' (Below.refl _ _) n) hb⟩
  · rw [vt_false hv] at HV
    have HE := Lib.hid (mdB_false (t := t) (fun h => hv h.1))
    clear hv
    go_enter Try.func38, Try.ntmps38
    go_wp2_with (go_at_call 101; refine HV.out.mono ?_; rintro e w1 ⟨rfl, n, rfl⟩)
    go_ret
    exact ⟨by rw [HE.out]; rfl, below_drewN' (Below.refl _ _) n⟩

theorem IsModest_both (xs : List Int) (hl : xs.length ≤ 1048576) : ∃ v,
    (∀ A c w, Rd w A c xs → Calls Try.prog 38 #[.slice A xs.length c] w fun e w' => e = .returned (.bool v) ∧ Below w.heap.size w w') ∧
    (∀ A c w, Rd w A c xs → xs.length ≤ c → Calls Try.prog 40 #[.slice A xs.length c] w fun e w' => e = .returned (.bool v) ∧ Below w.heap.size w w') :=
  ⟨mdB xs, fun A c w h => SIsModest_any A c xs w h (by omega), fun A c w h _ => IsModest_any A c xs w h (by omega)⟩

end Go.Proofs.Ytccbjgajmjcpjab
