/-
  Chapter 4: the contracts of the models' IsSum and IsOne; both sides.
-/
import Derived.Test.YtcmbpkgfcglciabWk
namespace Go.Proofs.Ytcmbpkgfcglciab
open Go.RowKit

theorem sumTo_bd {t : List Int} (h : VT t) (s : Nat) : ∀ k, k ≤ 3 → 0 ≤ sumTo t s k ∧ sumTo t s k ≤ 30 * (k : Int)
  | 0, _ => by simp [sumTo]
  | k + 1, hk => by
    have ih := sumTo_bd h s k (by omega)
    have hb := h.bd (s := 2 ^ k) (pow8 (by omega))
    simp only [sumTo]
    rcases bit_cases s k with e | e <;> rw [e] <;> simp <;> omega
theorem mostTo_bd {t : List Int} (h : VT t) (s : Nat) : ∀ k, k ≤ 3 → 0 ≤ mostTo t s k ∧ mostTo t s k ≤ 30 * (k : Int)
  | 0, _ => by simp [mostTo]
  | k + 1, hk => by
    have ih := mostTo_bd h s k (by omega)
    have hb := h.bd (s := 2 ^ k) (pow8 (by omega))
    simp only [mostTo]
    rcases bit_cases s k with e | e <;> rw [e] <;> simp <;> omega
theorem sumTo_no (t : List Int) {s k : Nat} (h : s / 2 ^ k % 2 = 0) : sumTo t s (k + 1) = sumTo t s k := by simp only [sumTo]; rw [h]; simp
theorem sumTo_yes (t : List Int) {s k : Nat} (h : s / 2 ^ k % 2 = 1) : sumTo t s (k + 1) = sumTo t s k + T t (2 ^ k) := by simp only [sumTo]; rw [h]; simp
theorem mostTo_no (t : List Int) {s k : Nat} (h : s / 2 ^ k % 2 = 0) : mostTo t s (k + 1) = max (mostTo t s k) 0 := by simp only [mostTo]; rw [h]; simp
theorem mostTo_yes (t : List Int) {s k : Nat} (h : s / 2 ^ k % 2 = 1) : mostTo t s (k + 1) = max (mostTo t s k) (T t (2 ^ k)) := by simp only [mostTo]; rw [h]; simp

set_option maxHeartbeats 1600000 in
theorem SIsSum_any (A : Option Addr) (c : Nat) (t : List Int) (w : World) (h : Rd w A c t) (hl : t.length ≤ 1099511627776) :
    Calls Try.prog 6 #[.slice A t.length c] w fun e w' => e = .returned (.bool (byB t (fun s => sumTo t s 3))) ∧ Below w.heap.size w w' := by
  have HV := Lib.hid (SvalidTable_any A c t w h hl)
  by_cases hv : VT t
  · rw [vt_true hv] at HV
    have HN := Lib.hid (fun (hm : ¬ ∀ s, s < 8 → T t s = sumTo t s 3) => byB_false (t := t) (V := fun s => sumTo t s 3) (fun h => hm h.2))
    have HY := Lib.hid (fun (hm : ByTo t (fun s => sumTo t s 3) 8) => byB_true hv hm)
    have HBD := Lib.hid (fun (s : Nat) (hs : s < 8) => hv.bd hs)
    have HSB := Lib.hid (fun (s k : Nat) (hk : k ≤ 3) => sumTo_bd hv s k hk)
    have h8 := hv.1
    rw [h8] at HV ⊢
    clear hv
    go_enter Try.func6, Try.ntmps6
    go_wp2_with (go_at_call 14; refine HV.out.mono ?_; rintro e w1 ⟨rfl, n0, rfl⟩)
    go_loopw [3] (fun i wr => ∃ k n : Nat, k ≤ 8 ∧ i = .int .i64 (k : Int) ∧ wr = w.drewN n ∧ Hid (ByTo t (fun s => sumTo t s 3) k)) (fun i _ => 8 - (intOf i).toNat)
    case atStart => exact ⟨0, n0, by omega, rfl, rfl, Lib.hid (ByTo.zero t _)⟩
    case round =>
      obtain ⟨k, n, hk, rfl, rfl, HO⟩ := hrel
      by_cases hlt : k < 8
      · obtain ⟨b, off, x, rfl, _, hx, hc⟩ := h.at_ (k := k) (by omega)
        have HTX := Lib.hid (T_of hx.out)
        have hk0 : (0 : Int) ≤ (k : Int) := by omega
        have hk8 : (k : Int) < 8 := by omega
        clear hx
        go_wp2
        go_loopw [4, 5] (fun m i wr => ∃ (j n : Nat) (v : Int), j ≤ 3 ∧ i = .int .i64 (j : Int) ∧ m = .int .i64 v ∧ Hid (v = sumTo t k j) ∧ wr = w.drewN n) (fun _ i _ => 3 - (intOf i).toNat)
        case atStart => exact ⟨0, n, 0, by omega, rfl, rfl, Lib.hid rfl, rfl⟩
        case round =>
          obtain ⟨j, m, v, hj, rfl, rfl, HW, rfl⟩ := hrel
          by_cases hjl : j < 3
          · obtain ⟨b2, off2, z, hA, _, hz, hc2⟩ := h.at_ (k := 2 ^ j) (by rw [h8]; exact pow8 hjl)
            cases hA
            have hTz := T_of hz.out
            have HBit := Lib.hid (fun (w1 : World) => Sbit_any k j hlt hjl w1)
            have HP := Lib.hid (fun (w1 : World) => Spower_any j (by omega) w1)
            have hzb := HBD.out (2 ^ j) (pow8 hjl)
            rw [hTz] at hzb
            have hvb := HSB.out k j hj
            rw [← HW.out] at hvb
            obtain ⟨hz0, hz30⟩ := hzb
            obtain ⟨hv0, hv90⟩ := hvb
            have hp8 : (((2 ^ j : Nat) : Int)) < 8 := by have := pow8 hjl; omega
            have hv100 : v ≤ 90 := by omega
            clear hv90
            have hZN := Lib.hid (fun (e : k / 2 ^ j % 2 = 0) => sumTo_no t e)
            have hZY := Lib.hid (fun (e : k / 2 ^ j % 2 = 1) => sumTo_yes t e)
            rw [← HW.out, hTz] at hZY
            rw [← HW.out] at hZN
            have hbc := bit_cases k j
            obtain ⟨d, hd⟩ : ∃ d, d = k / 2 ^ j % 2 := ⟨_, rfl⟩
            rw [← hd] at HBit hZN hZY hbc
            clear hd hTz hz
            obtain ⟨p, hp⟩ : ∃ p, p = 2 ^ j := ⟨_, rfl⟩
            rw [← hp] at HP hc2 hp8
            clear hp
            have hp0 : (0 : Int) ≤ (p : Int) := by omega
            have e1 : IntKind.i64.wrap z = z := IntWalk.i64_in _ (by omega)
            have e2 : IntKind.i64.wrap v = v := IntWalk.i64_in _ (by omega)
            have e3 : IntKind.i64.wrap (v + z) = v + z := IntWalk.i64_in _ (by omega)
            rcases hbc with rfl | rfl
            · have HW' := hZN.out rfl
              clear hZN hZY
              have HW' : Hid (v = sumTo t k (j + 1)) := Lib.hid HW'.symm
              go_wp2_with (first | (go_at_call 15; refine (HBit.out _).mono ?_; rintro e w1 ⟨rfl, rfl⟩) | (go_at_call 16; refine (HP.out _).mono ?_; rintro e w1 ⟨rfl, rfl⟩))
              go_roundw
              case rel => exact ⟨j + 1, _, v, by omega, by go_num, rfl, HW', rfl⟩
              case measure => simp [intOf]; omega
            · have HW' := hZY.out rfl
              clear hZN hZY
              have HW' : Hid (v + z = sumTo t k (j + 1)) := Lib.hid HW'.symm
              go_wp2_with (first | (go_at_call 15; refine (HBit.out _).mono ?_; rintro e w1 ⟨rfl, rfl⟩) | (go_at_call 16; refine (HP.out _).mono ?_; rintro e w1 ⟨rfl, rfl⟩))
              go_roundw
              case rel => exact ⟨j + 1, _, _, by omega, by go_num, rfl, HW', rfl⟩
              case measure => simp [intOf]; omega
          · obtain rfl : j = 3 := by omega
            by_cases hxv : x = v
            · have HO' := Lib.hid (HO.out.next (show T t k = sumTo t k 3 by rw [HTX.out, hxv, HW.out]))
              have hne : (x != x) = false := by simp
              subst hxv
              clear HW
              go_wp2
              go_roundw
              case rel => exact ⟨k + 1, _, by omega, by go_num, rfl, HO'⟩
              case measure => simp [intOf]; omega
            · have HE := Lib.hid (HN.out (fun hm => hxv (by have := hm k hlt; rw [HTX.out] at this; rw [this, HW.out])))
              go_wp2
              go_ret
              exact ⟨by rw [HE.out]; rfl, below_drewN' (Below.refl _ _) _⟩
      · obtain rfl : k = 8 := by omega
        have HE := Lib.hid (HY.out HO.out)
        go_wp2
        go_ret
        exact ⟨by rw [HE.out]; rfl, below_drewN' (Below.refl _ _) _⟩
  · rw [vt_false hv] at HV
    have HE := Lib.hid (byB_false (t := t) (V := fun s => sumTo t s 3) (fun h => hv h.1))
    clear hv
    go_enter Try.func6, Try.ntmps6
    go_wp2_with (go_at_call 14; refine HV.out.mono ?_; rintro e w1 ⟨rfl, n0, rfl⟩)
    go_ret
    exact ⟨by rw [HE.out]; rfl, below_drewN' (Below.refl _ _) _⟩

theorem IsSum_both (xs : List Int) (hl : xs.length ≤ 1048576) : ∃ v,
    (∀ A c w, Rd w A c xs → Calls Try.prog 6 #[.slice A xs.length c] w fun e w' => e = .returned (.bool v) ∧ Below w.heap.size w w') ∧
    (∀ A c w, Rd w A c xs → xs.length ≤ c → Calls Try.prog 8 #[.slice A xs.length c] w fun e w' => e = .returned (.bool v) ∧ Below w.heap.size w w') :=
  ⟨_, fun A c w h => SIsSum_any A c xs w h (by omega), fun A c w h _ => IsSum_any A c xs w h (by omega)⟩

set_option maxHeartbeats 1600000 in
theorem SIsOne_any (A : Option Addr) (c : Nat) (t : List Int) (w : World) (h : Rd w A c t) (hl : t.length ≤ 1099511627776) :
    Calls Try.prog 10 #[.slice A t.length c] w fun e w' => e = .returned (.bool (byB t (fun s => mostTo t s 3))) ∧ Below w.heap.size w w' := by
  have HV := Lib.hid (SvalidTable_any A c t w h hl)
  by_cases hv : VT t
  · rw [vt_true hv] at HV
    have HN := Lib.hid (fun (hm : ¬ ∀ s, s < 8 → T t s = mostTo t s 3) => byB_false (t := t) (V := fun s => mostTo t s 3) (fun h => hm h.2))
    have HY := Lib.hid (fun (hm : ByTo t (fun s => mostTo t s 3) 8) => byB_true hv hm)
    have HBD := Lib.hid (fun (s : Nat) (hs : s < 8) => hv.bd hs)
    have HSB := Lib.hid (fun (s k : Nat) (hk : k ≤ 3) => mostTo_bd hv s k hk)
    have h8 := hv.1
    rw [h8] at HV ⊢
    clear hv
    go_enter Try.func10, Try.ntmps10
    go_wp2_with (go_at_call 14; refine HV.out.mono ?_; rintro e w1 ⟨rfl, n0, rfl⟩)
    go_loopw [3] (fun i wr => ∃ k n : Nat, k ≤ 8 ∧ i = .int .i64 (k : Int) ∧ wr = w.drewN n ∧ Hid (ByTo t (fun s => mostTo t s 3) k)) (fun i _ => 8 - (intOf i).toNat)
    case atStart => exact ⟨0, n0, by omega, rfl, rfl, Lib.hid (ByTo.zero t _)⟩
    case round =>
      obtain ⟨k, n, hk, rfl, rfl, HO⟩ := hrel
      by_cases hlt : k < 8
      · obtain ⟨b, off, x, rfl, _, hx, hc⟩ := h.at_ (k := k) (by omega)
        have HTX := Lib.hid (T_of hx.out)
        have hk0 : (0 : Int) ≤ (k : Int) := by omega
        have hk8 : (k : Int) < 8 := by omega
        clear hx
        go_wp2
        go_loopw [4, 5] (fun m i wr => ∃ (j n : Nat) (v : Int), j ≤ 3 ∧ i = .int .i64 (j : Int) ∧ m = .int .i64 v ∧ Hid (v = mostTo t k j) ∧ wr = w.drewN n) (fun _ i _ => 3 - (intOf i).toNat)
        case atStart => exact ⟨0, n, 0, by omega, rfl, rfl, Lib.hid rfl, rfl⟩
        case round =>
          obtain ⟨j, m, v, hj, rfl, rfl, HW, rfl⟩ := hrel
          by_cases hjl : j < 3
          · obtain ⟨b2, off2, z, hA, _, hz, hc2⟩ := h.at_ (k := 2 ^ j) (by rw [h8]; exact pow8 hjl)
            cases hA
            have hTz := T_of hz.out
            have HBit := Lib.hid (fun (w1 : World) => Sbit_any k j hlt hjl w1)
            have HP := Lib.hid (fun (w1 : World) => Spower_any j (by omega) w1)
            have hzb := HBD.out (2 ^ j) (pow8 hjl)
            rw [hTz] at hzb
            have hvb := HSB.out k j hj
            rw [← HW.out] at hvb
            obtain ⟨hz0, hz30⟩ := hzb
            obtain ⟨hv0, hv90⟩ := hvb
            have hp8 : (((2 ^ j : Nat) : Int)) < 8 := by have := pow8 hjl; omega
            have hv100 : v ≤ 90 := by omega
            clear hv90
            have hZN := Lib.hid (fun (e : k / 2 ^ j % 2 = 0) => mostTo_no t e)
            have hZY := Lib.hid (fun (e : k / 2 ^ j % 2 = 1) => mostTo_yes t e)
            rw [← HW.out, hTz] at hZY
            rw [← HW.out] at hZN
            have hbc := bit_cases k j
            obtain ⟨d, hd⟩ : ∃ d, d = k / 2 ^ j % 2 := ⟨_, rfl⟩
            rw [← hd] at HBit hZN hZY hbc
            clear hd hTz hz
            obtain ⟨p, hp⟩ : ∃ p, p = 2 ^ j := ⟨_, rfl⟩
            rw [← hp] at HP hc2 hp8
            clear hp
            have hp0 : (0 : Int) ≤ (p : Int) := by omega
            have e1 : IntKind.i64.wrap z = z := IntWalk.i64_in _ (by omega)
            have e2 : IntKind.i64.wrap v = v := IntWalk.i64_in _ (by omega)
            have e3 : IntKind.i64.wrap (v + z) = v + z := IntWalk.i64_in _ (by omega)
            rcases hbc with rfl | rfl
            · have HW' := hZN.out rfl
              clear hZN hZY
              have HW' : Hid (v = mostTo t k (j + 1)) := Lib.hid (by rw [HW']; omega)
              go_wp2_with (first | (go_at_call 15; refine (HBit.out _).mono ?_; rintro e w1 ⟨rfl, rfl⟩) | (go_at_call 16; refine (HP.out _).mono ?_; rintro e w1 ⟨rfl, rfl⟩))
              go_roundw
              case rel => exact ⟨j + 1, _, v, by omega, by go_num, rfl, HW', rfl⟩
              case measure => simp [intOf]; omega
            · have HW' := hZY.out rfl
              clear hZN hZY
              have HW' : Hid ((if v < z then z else v) = mostTo t k (j + 1)) := Lib.hid (by rw [HW']; split <;> omega)
              go_wp2_with (first | (go_at_call 15; refine (HBit.out _).mono ?_; rintro e w1 ⟨rfl, rfl⟩) | (go_at_call 16; refine (HP.out _).mono ?_; rintro e w1 ⟨rfl, rfl⟩))
              go_roundw
              case rel => exact ⟨j + 1, _, _, by omega, by go_num, rfl, HW', rfl⟩
              case measure => simp [intOf]; omega
          · obtain rfl : j = 3 := by omega
            by_cases hxv : x = v
            · have HO' := Lib.hid (HO.out.next (show T t k = mostTo t k 3 by rw [HTX.out, hxv, HW.out]))
              have hne : (x != x) = false := by simp
              subst hxv
              clear HW
              go_wp2
              go_roundw
              case rel => exact ⟨k + 1, _, by omega, by go_num, rfl, HO'⟩
              case measure => simp [intOf]; omega
            · have HE := Lib.hid (HN.out (fun hm => hxv (by have := hm k hlt; rw [HTX.out] at this; rw [this, HW.out])))
              go_wp2
              go_ret
              exact ⟨by rw [HE.out]; rfl, below_drewN' (Below.refl _ _) _⟩
      · obtain rfl : k = 8 := by omega
        have HE := Lib.hid (HY.out HO.out)
        go_wp2
        go_ret
        exact ⟨by rw [HE.out]; rfl, below_drewN' (Below.refl _ _) _⟩
  · rw [vt_false hv] at HV
    have HE := Lib.hid (byB_false (t := t) (V := fun s => mostTo t s 3) (fun h => hv h.1))
    clear hv
    go_enter Try.func10, Try.ntmps10
    go_wp2_with (go_at_call 14; refine HV.out.mono ?_; rintro e w1 ⟨rfl, n0, rfl⟩)
    go_ret
    exact ⟨by rw [HE.out]; rfl, below_drewN' (Below.refl _ _) _⟩

theorem IsOne_both (xs : List Int) (hl : xs.length ≤ 1048576) : ∃ v,
    (∀ A c w, Rd w A c xs → Calls Try.prog 10 #[.slice A xs.length c] w fun e w' => e = .returned (.bool v) ∧ Below w.heap.size w w') ∧
    (∀ A c w, Rd w A c xs → xs.length ≤ c → Calls Try.prog 11 #[.slice A xs.length c] w fun e w' => e = .returned (.bool v) ∧ Below w.heap.size w w') :=
  ⟨_, fun A c w h => SIsOne_any A c xs w h (by omega), fun A c w h _ => IsOne_any A c xs w h (by omega)⟩

end Go.Proofs.Ytcmbpkgfcglciab
