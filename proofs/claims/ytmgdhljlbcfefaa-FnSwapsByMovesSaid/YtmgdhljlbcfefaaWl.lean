/-
  Chapter 4: the contracts of the models' IsSum and IsOne; both sides.
-/
import Derived.Test.YtmgdhljlbcfefaaWk
namespace Go.Proofs.Ytmgdhljlbcfefaa
open Go.RowKit

theorem sumAl_bd {t : List Int} (h : VT t) (s : Nat) : ∀ k, k ≤ 3 → 0 ≤ sumAl t s k ∧ sumAl t s k ≤ 30 * (k : Int)
  | 0, _ => by simp [sumAl]
  | k + 1, hk => by
    have ih := sumAl_bd h s k (by omega)
    have hb := h.bd (s := 2 ^ k) (pow8 (by omega))
    simp only [sumAl]
    rcases bit_cases s k with e | e <;> rw [e] <;> simp <;> omega
theorem mostAl_bd {t : List Int} (h : VT t) (s : Nat) : ∀ k, k ≤ 3 → 0 ≤ mostAl t s k ∧ mostAl t s k ≤ 30 * (k : Int)
  | 0, _ => by simp [mostAl]
  | k + 1, hk => by
    have ih := mostAl_bd h s k (by omega)
    have hb := h.bd (s := 2 ^ k) (pow8 (by omega))
    simp only [mostAl]
    rcases bit_cases s k with e | e <;> rw [e] <;> simp <;> omega
theorem sumAl_no (t : List Int) {s k : Nat} (h : s / 2 ^ k % 2 = 0) : sumAl t s (k + 1) = sumAl t s k := by simp only [sumAl]; rw [h]; simp
theorem sumAl_yes (t : List Int) {s k : Nat} (h : s / 2 ^ k % 2 = 1) : sumAl t s (k + 1) = sumAl t s k + T t (2 ^ k) := by simp only [sumAl]; rw [h]; simp
theorem mostAl_no (t : List Int) {s k : Nat} (h : s / 2 ^ k % 2 = 0) : mostAl t s (k + 1) = max (mostAl t s k) 0 := by simp only [mostAl]; rw [h]; simp
theorem mostAl_yes (t : List Int) {s k : Nat} (h : s / 2 ^ k % 2 = 1) : mostAl t s (k + 1) = max (mostAl t s k) (T t (2 ^ k)) := by simp only [mostAl]; rw [h]; simp

set_option maxHeartbeats 1600000 in
theorem SIsSum_any (A : Option Addr) (c : Nat) (t : List Int) (w : World) (h : Rd w A c t) (hl : t.length ≤ 1099511627776) :
    Calls Try.prog 14 #[.slice A t.length c] w fun e w' => e = .returned (.bool (byB t (fun s => sumAl t s 3))) ∧ Below w.heap.size w w' := by
  have HV := Lib.hid (SvalidTable_any A c t w h hl)
  by_cases hv : VT t
  · rw [vt_true hv] at HV
    have HN := Lib.hid (fun (hm : ¬ ∀ s, s < 8 → T t s = sumAl t s 3) => byB_false (t := t) (V := fun s => sumAl t s 3) (fun h => hm h.2))
    have HY := Lib.hid (fun (hm : ByTo t (fun s => sumAl t s 3) 8) => byB_true hv hm)
    have HBD := Lib.hid (fun (s : Nat) (hs : s < 8) => hv.bd hs)
    have HSB := Lib.hid (fun (s k : Nat) (hk : k ≤ 3) => sumAl_bd hv s k hk)
    have h8 := hv.1
    rw [h8] at HV ⊢
    clear hv
    go_enter Try.func14, Try.ntmps14
    go_wp2_with (go_at_call 54; refine HV.out.mono ?_; rintro e w1 ⟨rfl, n0, rfl⟩)
    go_loopw [3] (fun i wr => ∃ k n : Nat, k ≤ 8 ∧ i = .int .i64 (k : Int) ∧ wr = w.drewN n ∧ Hid (ByTo t (fun s => sumAl t s 3) k)) (fun i _ => 8 - (intOf i).toNat)
    case atStart => exact ⟨0, n0, by omega, rfl, rfl, Lib.hid (ByTo.zero t _)⟩
    case round =>
      obtain ⟨k, n, hk, rfl, rfl, HO⟩ := hrel
      by_cases hlt : k < 8
      · obtain ⟨b, off, x, rfl, _, hx, hc⟩ := h.at_ (k := k) (by omega)
        have HTX := Lib.hid (T_of hx.out)
        have hk0 : (0 : Int) ≤ (k : Int) := by omega
        have hk8 : (k : Int) < 8 := by omega
        clear hx
        go_wp2
        go_loopw [4, 5] (fun m i wr => ∃ (j n : Nat) (v : Int), j ≤ 3 ∧ i = .int .i64 (j : Int) ∧ m = .int .i64 v ∧ Hid (v = sumAl t k j) ∧ wr = w.drewN n) (fun _ i _ => 3 - (intOf i).toNat)
        case atStart => exact ⟨0, n, 0, by omega, rfl, rfl, Lib.hid rfl, rfl⟩
        case round =>
          obtain ⟨j, m, v, hj, rfl, rfl, HW, rfl⟩ := hrel
          by_cases hjl : j < 3
          · obtain ⟨b2, off2, z, hA, _, hz, hc2⟩ := h.at_ (k := 2 ^ j) (by rw [h8]; exact pow8 hjl)
            cases hA
            have hTz := T_of hz.out
            have HBit := Lib.hid (fun (w1 : World) => Sbit_any k j hlt hjl w1)
            have HP := Lib.hid (fun (w1 : World) => Spower_any j (by omega) w1)
            have hzb := HBD.out (2 ^ j) (pow8 hjl)
            rw [hTz] at hzb
            have hvb := HSB.out k j hj
            rw [← HW.out] at hvb
            obtain ⟨hz0, hz30⟩ := hzb
            obtain ⟨hv0, hv90⟩ := hvb
            have hp8 : (((2 ^ j : Nat) : Int)) < 8 := by have := pow8 hjl; omega
            have hv100 : v ≤ 90 := by omega
            clear hv90
            have hZN := Lib.hid (fun (e : k / 2 ^ j % 2 = 0) => sumAl_no t e)
            have hZY := Lib.hid (fun (e : k / 2 ^ j % 2 = 1) => sumAl_yes t e)
            rw [← HW.out, hTz] at hZY
            rw [← HW.out] at hZN
            have hbc := bit_cases k j
            obtain ⟨d, hd⟩ : ∃ d, d = k / 2 ^ j % 2 := ⟨_, rfl⟩
            rw [← hd] at HBit hZN hZY hbc
            clear hd hTz hz
            obtain ⟨p, hp⟩ : ∃ p, p = 2 ^ j := ⟨_, rfl⟩
            rw [← hp] at HP hc2 hp8
            clear hp
            have hp0 : (0 : Int) ≤ (p : Int) := by omega
            have e1 : IntKind.i64.wrap z = z := IntWalk.i64_in _ (by omega)
            have e2 : IntKind.i64.wrap v = v := IntWalk.i64_in _ (by omega)
            have e3 : IntKind.i64.wrap (v + z) = v + z := IntWalk.i64_in _ (by omega)
            rcases hbc with rfl | rfl
            · have HW' := hZN.out rfl
              clear hZN hZY
              have HW' : Hid (v = sumAl t k (j + 1)) := Lib.hid HW'.symm
              go_wp2_with (first | (go_at_call 55; refine (HBit.out _).mono ?_; rintro e w1 ⟨rfl, rfl⟩) | (go_at_call 56; refine (HP.out _).mono ?_; rintro e w1 ⟨rfl, rfl⟩))
              go_roundw
              case rel => exact ⟨j + 1, _, v, by omega, by go_num, rfl, HW', rfl⟩
              case measure => simp [intOf]; omega
            · have HW' := hZY.out rfl
              clear hZN hZY
              have HW' : Hid (v + z = sumAl t k (j + 1)) := Lib.hid HW'.symm
              go_wp2_with (first | (go_at_call 55; refine (HBit.out _).mono ?_; rintro e w1 ⟨rfl, rfl⟩) | (go_at_call 56; refine (HP.out _).mono ?_; rintro e w1 ⟨rfl, rfl⟩))
              go_roundw
              case rel => exact ⟨j + 1, _, _, by omega, by go_num, rfl, HW', rfl⟩
              case measure => simp [intOf]; omega
          · obtain rfl : j = 3 := by omega
            by_cases hxv : x = v
            · have HO' := Lib.hid (HO.out.next (show T t k = sumAl t k 3 by rw [HTX.out, hxv, HW.out]))
              have hne : (x != x) = false := by simp
              subst hxv
              clear HW
              go_wp2
              go_roundw
              case rel => exact ⟨k + 1, _, by omega, by go_num, rfl, HO'⟩
              case measure => simp [intOf]; omega
            · have HE := Lib.hid (HN.out (fun hm => hxv (by have := hm k hlt; rw [HTX.out] at this; rw [this, HW.out])))
              go_wp2
              go_ret
              exact ⟨by rw [HE.out]; rfl, below_drewN' (Below.refl _ _) _⟩
      · obtain rfl : k = 8 := by omega
        have HE := Lib.hid (HY.out HO.out)
        go_wp2
        go_ret
        exact ⟨by rw [HE.out]; rfl, below_drewN' (Below.refl _ _) _⟩
  · rw [vt_false hv] at HV
    have HE := Lib.hid (byB_false (t := t) (V := fun s => sumAl t s 3) (fun h => hv h.1))
    clear hv
    go_enter Try.func14, Try.ntmps14
    go_wp2_with (go_at_call 54; refine HV.out.mono ?_; rintro e w1 ⟨rfl, n0, rfl⟩)
    go_ret
    exact ⟨by rw [HE.out]; rfl, below_drewN' (Below.refl _ _) _⟩

theorem IsSum_both (xs : List Int) (hl : xs.length ≤ 1048576) : ∃ v,
    (∀ A c w, Rd w A c xs → Calls Try.prog 14 #[.slice A xs.length c] w fun e w' => e = .returned (.bool v) ∧ Below w.heap.size w w') ∧
    (∀ A c w, Rd w A c xs → xs.length ≤ c → Calls Try.prog 13 #[.slice A xs.length c] w fun e w' => e = .returned (.bool v) ∧ Below w.heap.size w w') :=
  ⟨_, fun A c w h => SIsSum_any A c xs w h (by omega), fun A c w h _ => IsSum_any A c xs w h (by omega)⟩

set_option maxHeartbeats 1600000 in
theorem SIsOne_any (A : Option Addr) (c : Nat) (t : List Int) (w : World) (h : Rd w A c t) (hl : t.length ≤ 1099511627776) :
    Calls Try.prog 19 #[.slice A t.length c] w fun e w' => e = .returned (.bool (byB t (fun s => mostAl t s 3))) ∧ Below w.heap.size w w' := by
  have HV := Lib.hid (SvalidTable_any A c t w h hl)
  by_cases hv : VT t
  · rw [vt_true hv] at HV
    have HN := Lib.hid (fun (hm : ¬ ∀ s, s < 8 → T t s = mostAl t s 3) => byB_false (t := t) (V := fun s => mostAl t s 3) (fun h => hm h.2))
    have HY := Lib.hid (fun (hm : ByTo t (fun s => mostAl t s 3) 8) => byB_true hv hm)
    have HBD := Lib.hid (fun (s : Nat) (hs : s < 8) => hv.bd hs)
    have HSB := Lib.hid (fun (s k : Nat) (hk : k ≤ 3) => mostAl_bd hv s k hk)
    have h8 := hv.1
    rw [h8] at HV ⊢
    clear hv
    go_enter Try.func19, Try.ntmps19
    go_wp2_with (go_at_call 54; refine HV.out.mono ?_; rintro e w1 ⟨rfl, n0, rfl⟩)
    go_loopw [3] (fun i wr => ∃ k n : Nat, k ≤ 8 ∧ i = .int .i64 (k : Int) ∧ wr = w.drewN n ∧ Hid (ByTo t (fun s => mostAl t s 3) k)) (fun i _ => 8 - (intOf i).toNat)
    case atStart => exact ⟨0, n0, by omega, rfl, rfl, Lib.hid (ByTo.zero t _)⟩
    case round =>
      obtain ⟨k, n, hk, rfl, rfl, HO⟩ := hrel
      by_cases hlt : k < 8
      · obtain ⟨b, off, x, rfl, _, hx, hc⟩ := h.at_ (k := k) (by omega)
        have HTX := Lib.hid (T_of hx.out)
        have hk0 : (0 : Int) ≤ (k : Int) := by omega
        have hk8 : (k : Int) < 8 := by omega
        clear hx
        go_wp2
        go_loopw [4, 5] (fun m i wr => ∃ (j n : Nat) (v : Int), j ≤ 3 ∧ i = .int .i64 (j : Int) ∧ m = .int .i64 v ∧ Hid (v = mostAl t k j) ∧ wr = w.drewN n) (fun _ i _ => 3 - (intOf i).toNat)
        case atStart => exact ⟨0, n, 0, by omega, rfl, rfl, Lib.hid rfl, rfl⟩
        case round =>
          obtain ⟨j, m, v, hj, rfl, rfl, HW, rfl⟩ := hrel
          by_cases hjl : j < 3
          · obtain ⟨b2, off2, z, hA, _, hz, hc2⟩ := h.at_ (k := 2 ^ j) (by rw [h8]; exact pow8 hjl)
            cases hA
            have hTz := T_of hz.out
            have HBit := Lib.hid (fun (w1 : World) => Sbit_any k j hlt hjl w1)
            have HP := Lib.hid (fun (w1 : World) => Spower_any j (by omega) w1)
            have hzb := HBD.out (2 ^ j) (pow8 hjl)
            rw [hTz] at hzb
            have hvb := HSB.out k j hj
            rw [← HW.out] at hvb
            obtain ⟨hz0, hz30⟩ := hzb
            obtain ⟨hv0, hv90⟩ := hvb
            have hp8 : (((2 ^ j : Nat) : Int)) < 8 := by have := pow8 hjl; omega
            have hv100 : v ≤ 90 := by omega
            clear hv90
            have hZN := Lib.hid (fun (e : k / 2 ^ j % 2 = 0) => mostAl_no t e)
            have hZY := Lib.hid (fun (e : k / 2 ^ j % 2 = 1) => mostAl_yes t e)
            rw [← HW.out, hTz] at hZY
            rw [← HW.out] at hZN
            have hbc := bit_cases k j
            obtain ⟨d, hd⟩ : ∃ d, d = k / 2 ^ j % 2 := ⟨_, rfl⟩
            rw [← hd] at HBit hZN hZY hbc
            clear hd hTz hz
            obtain ⟨p, hp⟩ : ∃ p, p = 2 ^ j := ⟨_, rfl⟩
            rw [← hp] at HP hc2 hp8
            clear hp
            have hp0 : (0 : Int) ≤ (p : Int) := by omega
            have e1 : IntKind.i64.wrap z = z := IntWalk.i64_in _ (by omega)
            have e2 : IntKind.i64.wrap v = v := IntWalk.i64_in _ (by omega)
            have e3 : IntKind.i64.wrap (v + z) = v + z := IntWalk.i64_in _ (by omega)
            rcases hbc with rfl | rfl
            · have HW' := hZN.out rfl
              clear hZN hZY
              have HW' : Hid (v = mostAl t k (j + 1)) := Lib.hid (by rw [HW']; omega)
              go_wp2_with (first | (go_at_call 55; refine (HBit.out _).mono ?_; rintro e w1 ⟨rfl, rfl⟩) | (go_at_call 56; refine (HP.out _).mono ?_; rintro e w1 ⟨rfl, rfl⟩))
              go_roundw
              case rel => exact ⟨j + 1, _, v, by omega, by go_num, rfl, HW', rfl⟩
              case measure => simp [intOf]; omega
            · have HW' := hZY.out rfl
              clear hZN hZY
              have HW' : Hid ((if v < z then z else v) = mostAl t k (j + 1)) := Lib.hid (by rw [HW']; split <;> omega)
              go_wp2_with (first | (go_at_call 55; refine (HBit.out _).mono ?_; rintro e w1 ⟨rfl, rfl⟩) | (go_at_call 56; refine (HP.out _).mono ?_; rintro e w1 ⟨rfl, rfl⟩))
              go_roundw
              case rel => exact ⟨j + 1, _, _, by omega, by go_num, rfl, HW', rfl⟩
              case measure => simp [intOf]; omega
          · obtain rfl : j = 3 := by omega
            by_cases hxv : x = v
            · have HO' := Lib.hid (HO.out.next (show T t k = mostAl t k 3 by rw [HTX.out, hxv, HW.out]))
              have hne : (x != x) = false := by simp
              subst hxv
              clear HW
              go_wp2
              go_roundw
              case rel => exact ⟨k + 1, _, by omega, by go_num, rfl, HO'⟩
              case measure => simp [intOf]; omega
            · have HE := Lib.hid (HN.out (fun hm => hxv (by have := hm k hlt; rw [HTX.out] at this; rw [this, HW.out])))
              go_wp2
              go_ret
              exact ⟨by rw [HE.out]; rfl, below_drewN' (Below.refl _ _) _⟩
      · obtain rfl : k = 8 := by omega
        have HE := Lib.hid (HY.out HO.out)
        go_wp2
        go_ret
        exact ⟨by rw [HE.out]; rfl, below_drewN' (Below.refl _ _) _⟩
  · rw [vt_false hv] at HV
    have HE := Lib.hid (byB_false (t := t) (V := fun s => mostAl t s 3) (fun h => hv h.1))
    clear hv
    go_enter Try.func19, Try.ntmps19
    go_wp2_with (go_at_call 54; refine HV.out.mono ?_; rintro e w1 ⟨rfl, n0, rfl⟩)
    go_ret
    exact ⟨by rw [HE.out]; rfl, below_drewN' (Below.refl _ _) _⟩

theorem IsOne_both (xs : List Int) (hl : xs.length ≤ 1048576) : ∃ v,
    (∀ A c w, Rd w A c xs → Calls Try.prog 19 #[.slice A xs.length c] w fun e w' => e = .returned (.bool v) ∧ Below w.heap.size w w') ∧
    (∀ A c w, Rd w A c xs → xs.length ≤ c → Calls Try.prog 18 #[.slice A xs.length c] w fun e w' => e = .returned (.bool v) ∧ Below w.heap.size w w') :=
  ⟨_, fun A c w h => SIsOne_any A c xs w h (by omega), fun A c w h _ => IsOne_any A c xs w h (by omega)⟩

end Go.Proofs.Ytmgdhljlbcfefaa
