/-
  Chapter 4, the model: texts: the contract of readSet.
-/
import Derived.Test.YtfjncipekjnbjabTb
namespace Go.Proofs.Ytfjncipekjnbjab
open Go.RowKit Go.Lib

/-- What readSet hands back. -/
def setN (v : Nat) : Int := if v = 0 then -1 else v

set_option maxHeartbeats 1600000 in
theorem SreadSet_any (s : ByteArray) (w : World) (hs : s.size ≤ 1099511627776) :
    Calls Try.prog 170 #[.string s] w fun e w' => ∃ v, SetIs s.data.toList v ∧ e = .returned (.int .i64 (setN v)) ∧ ∃ m, w' = w.drewN m := by
  obtain ⟨l, hl⟩ : ∃ l, l = s.data.toList := ⟨_, rfl⟩
  have HSZ : Hid (s.size = l.length) := Lib.hid (by rw [hl, Array.length_toList]; rfl)
  have HAT : Hid (∀ k (h : k < s.size), l[k]? = some (s[k]'h)) := Lib.hid (fun k h => by rw [hl]; exact sB_at s h)
  rw [← hl]
  clear hl
  go_enter Try.func170, Try.ntmps170
  go_wp2
  go_loopw [3, 4] (fun o i wr => ∃ (u k m : Nat), o = .int .i64 (u : Int) ∧ i = .int .i64 (k : Int) ∧ u < 8 ∧ k ≤ s.size ∧ Hid (l.take k = lw u) ∧ wr = w.drewN m) (fun _ i _ => s.size - (intOf i).toNat)
  case atStart => exact ⟨0, 0, 0, rfl, rfl, by omega, Nat.zero_le _, Lib.hid (by simp [lw]), rfl⟩
  case round =>
    obtain ⟨u, k, m, rfl, rfl, hu, hks, HS, rfl⟩ := hrel
    by_cases hlt : k < s.size
    · by_cases hj : ∃ j, j < 3 ∧ s[k]'hlt = UInt8.ofNat (97 + j) ∧ u < 2 ^ j
      · obtain ⟨j, hj3, hbj, huj⟩ := hj
        have HN := Lib.hid (lw_step hu hj3 huj)
        have HL : Hid (l.take (k + 1) = lw (u + 2 ^ j)) := Lib.hid (by rw [HN.out.2, List.take_add_one, HS.out, HAT.out k hlt, hbj]; rfl)
        have h8 := HN.out.1
        by_cases hk0 : k = 0
        · subst hk0
          rcases nat3 hj3 with rfl | rfl | rfl
          · have e1 : ((s[0]'hlt).toNat : Int) = 97 := by rw [hbj]; rfl
            have HP : Hid (∀ w1, Calls Try.prog 113 #[.int .i64 0] w1 fun e w' => e = .returned (.int .i64 1) ∧ w1 = w') := Lib.hid (fun w1 => Spower_any 0 (by omega) w1)
            clear hbj huj
            go_wp2_with fail
            go_region
            go_wp2_with fail
            refine (HP.out _).mono ?_
            rintro e w1 ⟨rfl, rfl⟩
            go_wp2
            go_roundw
            case rel => exact ⟨u + 2 ^ 0, _, _, by go_num, by go_num, h8, by omega, HL, rfl⟩
            case measure => simp [intOf]; omega
          · have e1 : ((s[0]'hlt).toNat : Int) = 98 := by rw [hbj]; rfl
            have HP : Hid (∀ w1, Calls Try.prog 113 #[.int .i64 1] w1 fun e w' => e = .returned (.int .i64 2) ∧ w1 = w') := Lib.hid (fun w1 => Spower_any 1 (by omega) w1)
            clear hbj huj
            go_wp2_with fail
            go_region
            go_wp2_with fail
            refine (HP.out _).mono ?_
            rintro e w1 ⟨rfl, rfl⟩
            go_wp2
            go_roundw
            case rel => exact ⟨u + 2 ^ 1, _, _, by go_num, by go_num, h8, by omega, HL, rfl⟩
            case measure => simp [intOf]; omega
          · have e1 : ((s[0]'hlt).toNat : Int) = 99 := by rw [hbj]; rfl
            have HP : Hid (∀ w1, Calls Try.prog 113 #[.int .i64 2] w1 fun e w' => e = .returned (.int .i64 4) ∧ w1 = w') := Lib.hid (fun w1 => Spower_any 2 (by omega) w1)
            clear hbj huj
            go_wp2_with fail
            go_region
            go_wp2_with fail
            refine (HP.out _).mono ?_
            rintro e w1 ⟨rfl, rfl⟩
            go_wp2
            go_roundw
            case rel => exact ⟨u + 2 ^ 2, _, _, by go_num, by go_num, h8, by omega, HL, rfl⟩
            case measure => simp [intOf]; omega
        · obtain ⟨i, rfl⟩ : ∃ i, k = i + 1 := ⟨k - 1, by omega⟩
          have hil : i < s.size := by omega
          have hah := (lw_ahead hu HS.out (HAT.out i hil) hj3).2 huj
          rcases nat3 hj3 with rfl | rfl | rfl
          · have e1 : ((s[i + 1]'hlt).toNat : Int) = 97 := by rw [hbj]; rfl
            have e2 : ((s[i]'hil).toNat : Int) < 97 := by have := UInt8.lt_iff_toNat_lt.1 hah; simp at this; omega
            clear hah
            have HP : Hid (∀ w1, Calls Try.prog 113 #[.int .i64 0] w1 fun e w' => e = .returned (.int .i64 1) ∧ w1 = w') := Lib.hid (fun w1 => Spower_any 0 (by omega) w1)
            clear hbj huj
            go_wp2_with fail
            go_region
            go_wp2_with fail
            refine (HP.out _).mono ?_
            rintro e w1 ⟨rfl, rfl⟩
            go_wp2
            go_roundw
            case rel => exact ⟨u + 2 ^ 0, _, _, by go_num, by go_num, h8, by omega, HL, rfl⟩
            case measure => simp [intOf]; omega
          · have e1 : ((s[i + 1]'hlt).toNat : Int) = 98 := by rw [hbj]; rfl
            have e2 : ((s[i]'hil).toNat : Int) < 98 := by have := UInt8.lt_iff_toNat_lt.1 hah; simp at this; omega
            clear hah
            have HP : Hid (∀ w1, Calls Try.prog 113 #[.int .i64 1] w1 fun e w' => e = .returned (.int .i64 2) ∧ w1 = w') := Lib.hid (fun w1 => Spower_any 1 (by omega) w1)
            clear hbj huj
            go_wp2_with fail
            go_region
            go_wp2_with fail
            refine (HP.out _).mono ?_
            rintro e w1 ⟨rfl, rfl⟩
            go_wp2
            go_roundw
            case rel => exact ⟨u + 2 ^ 1, _, _, by go_num, by go_num, h8, by omega, HL, rfl⟩
            case measure => simp [intOf]; omega
          · have e1 : ((s[i + 1]'hlt).toNat : Int) = 99 := by rw [hbj]; rfl
            have e2 : ((s[i]'hil).toNat : Int) < 99 := by have := UInt8.lt_iff_toNat_lt.1 hah; simp at this; omega
            clear hah
            have HP : Hid (∀ w1, Calls Try.prog 113 #[.int .i64 2] w1 fun e w' => e = .returned (.int .i64 4) ∧ w1 = w') := Lib.hid (fun w1 => Spower_any 2 (by omega) w1)
            clear hbj huj
            go_wp2_with fail
            go_region
            go_wp2_with fail
            refine (HP.out _).mono ?_
            rintro e w1 ⟨rfl, rfl⟩
            go_wp2
            go_roundw
            case rel => exact ⟨u + 2 ^ 2, _, _, by go_num, by go_num, h8, by omega, HL, rfl⟩
            case measure => simp [intOf]; omega
      · have HNO := Lib.hid (SetIs.no (l := l) (fun t ht => lw_stop hu HS.out (HAT.out k hlt) hj ht))
        by_cases h97 : ((s[k]'hlt).toNat : Int) < 97
        · clear hj
          go_wp2_with fail
          go_region
          go_wp2
          go_ret
          exact ⟨0, HNO.out, rfl, _, rfl⟩
        by_cases h100 : 99 < ((s[k]'hlt).toNat : Int)
        · have hb := (s[k]'hlt).toNat_lt
          obtain ⟨z, e1⟩ : ∃ z : Int, ((s[k]'hlt).toNat : Int) = z + 97 := ⟨((s[k]'hlt).toNat : Int) - 97, by omega⟩
          have hz1 : decide (z + 97 < 97) = false := by simp; omega
          have hz2 : decide (3 ≤ z) = true := by simp; omega
          have ew : IntKind.u8.wrap z = z := IntWalk.u8_in _ (by omega)
          have ew2 : IntKind.i64.wrap z = z := IntWalk.i64_in _ (by omega)
          clear hj hb h97 h100
          go_wp2_with fail
          go_region
          go_wp2
          go_ret
          exact ⟨0, HNO.out, rfl, _, rfl⟩
        by_cases hk0 : k = 0
        · exfalso
          subst hk0
          have hz : lw u = [] := by rw [← HS.out]; rfl
          have : ((s[0]'hlt).toNat : Int) = 97 ∨ ((s[0]'hlt).toNat : Int) = 98 ∨ ((s[0]'hlt).toNat : Int) = 99 := by omega
          rcases this with h | h | h
          · exact hj ⟨0, by omega, by apply UInt8.toNat_inj.1; show (s[0]'hlt).toNat = 97; omega, lw_first hu hz (by omega)⟩
          · exact hj ⟨1, by omega, by apply UInt8.toNat_inj.1; show (s[0]'hlt).toNat = 98; omega, lw_first hu hz (by omega)⟩
          · exact hj ⟨2, by omega, by apply UInt8.toNat_inj.1; show (s[0]'hlt).toNat = 99; omega, lw_first hu hz (by omega)⟩
        · obtain ⟨i, rfl⟩ : ∃ i, k = i + 1 := ⟨k - 1, by omega⟩
          have hil : i < s.size := by omega
          have : ((s[i + 1]'hlt).toNat : Int) = 97 ∨ ((s[i + 1]'hlt).toNat : Int) = 98 ∨ ((s[i + 1]'hlt).toNat : Int) = 99 := by omega
          rcases this with h | h | h
          · clear hk0
            have e1 : ((s[i + 1]'hlt).toNat : Int) = 97 := by omega
            have e2 : 97 ≤ ((s[i]'hil).toNat : Int) := by
              have := fun h : s[i]'hil < UInt8.ofNat (97 + 0) => hj ⟨0, by omega, by apply UInt8.toNat_inj.1; show (s[i + 1]'hlt).toNat = 97; omega, (lw_ahead hu HS.out (HAT.out i hil) (by omega : 0 < 3)).1 h⟩
              have h2 : ¬ (s[i]'hil).toNat < 97 := fun h => this (UInt8.lt_iff_toNat_lt.2 (by simpa using h))
              omega
            clear hj h97 h100
            go_wp2_with fail
            go_region
            go_wp2
            go_ret
            exact ⟨0, HNO.out, rfl, _, rfl⟩
          · clear hk0
            have e1 : ((s[i + 1]'hlt).toNat : Int) = 98 := by omega
            have e2 : 98 ≤ ((s[i]'hil).toNat : Int) := by
              have := fun h : s[i]'hil < UInt8.ofNat (97 + 1) => hj ⟨1, by omega, by apply UInt8.toNat_inj.1; show (s[i + 1]'hlt).toNat = 98; omega, (lw_ahead hu HS.out (HAT.out i hil) (by omega : 1 < 3)).1 h⟩
              have h2 : ¬ (s[i]'hil).toNat < 98 := fun h => this (UInt8.lt_iff_toNat_lt.2 (by simpa using h))
              omega
            clear hj h97 h100
            go_wp2_with fail
            go_region
            go_wp2
            go_ret
            exact ⟨0, HNO.out, rfl, _, rfl⟩
          · clear hk0
            have e1 : ((s[i + 1]'hlt).toNat : Int) = 99 := by omega
            have e2 : 99 ≤ ((s[i]'hil).toNat : Int) := by
              have := fun h : s[i]'hil < UInt8.ofNat (97 + 2) => hj ⟨2, by omega, by apply UInt8.toNat_inj.1; show (s[i + 1]'hlt).toNat = 99; omega, (lw_ahead hu HS.out (HAT.out i hil) (by omega : 2 < 3)).1 h⟩
              have h2 : ¬ (s[i]'hil).toNat < 99 := fun h => this (UInt8.lt_iff_toNat_lt.2 (by simpa using h))
              omega
            clear hj h97 h100
            go_wp2_with fail
            go_region
            go_wp2
            go_ret
            exact ⟨0, HNO.out, rfl, _, rfl⟩
    · obtain rfl : k = s.size := by omega
      clear hlt
      have HV := Lib.hid (SetIs.yes (l := l) hu (by rw [← HS.out, HSZ.out, List.take_length]))
      by_cases h0 : u = 0
      · subst h0
        go_wp2
        go_ret
        exact ⟨0, HV.out, rfl, m, rfl⟩
      · have e0 : ((u : Int) == 0) = false := by simp; omega
        have HE : Hid (setN u = (u : Int)) := Lib.hid (by simp [setN, h0])
        clear h0
        go_wp2
        go_ret
        exact ⟨u, HV.out, by rw [HE.out]; rfl, m, rfl⟩

end Go.Proofs.Ytfjncipekjnbjab
