/-
  Chapter 4, the model: texts: the contract of readNumber.
-/
import Derived.Test.YtfjncipekjnbjabTc
namespace Go.Proofs.Ytfjncipekjnbjab
open Go.RowKit Go.Lib

theorem sB_toList (l : List UInt8) : (sB l).toList = l := ByteArray.toList_mk l

set_option maxHeartbeats 1600000 in
theorem SreadNumber_any (s : ByteArray) (w : World) (hs : s.size ≤ 1099511627776) :
    Calls Try.prog 171 #[.string s] w fun e w' => ∃ v : Int, NumW s.data.toList v ∧ -1 ≤ v ∧ v ≤ 10009 ∧ e = .returned (.int .i64 v) ∧ ∃ m, w' = w.drewN m := by
  obtain ⟨l, hl⟩ : ∃ l, l = s.data.toList := ⟨_, rfl⟩
  have HSZ : Hid (s.size = l.length) := Lib.hid (by rw [hl, Array.length_toList]; rfl)
  have HAT : Hid (∀ k (h : k < s.size), l[k]? = some (s[k]'h)) := Lib.hid (fun k h => by rw [hl]; exact sB_at s h)
  have HSB : Hid (s = sB l) := Lib.hid (by rw [hl, sB_list])
  rw [← hl]
  clear hl
  go_enter Try.func171, Try.ntmps171
  go_wp2
  go_loopw [3, 4] (fun o i wr => ∃ (u k m : Nat), o = .int .i64 (u : Int) ∧ i = .int .i64 (k : Int) ∧ u ≤ 10009 ∧ k ≤ s.size ∧ Hid (u = dval (l.take k)) ∧ wr = w.drewN m) (fun _ i _ => s.size - (intOf i).toNat)
  case atStart => exact ⟨0, 0, 0, rfl, rfl, by omega, Nat.zero_le _, Lib.hid (by simp [dval]), rfl⟩
  case round =>
    obtain ⟨u, k, m, rfl, rfl, hu, hks, HS, rfl⟩ := hrel
    by_cases hlt : k < s.size
    · by_cases hd : 48 ≤ (s[k]'hlt).toNat ∧ (s[k]'hlt).toNat ≤ 57
      · obtain ⟨z, hz⟩ : ∃ z : Nat, (s[k]'hlt).toNat = z + 48 := ⟨(s[k]'hlt).toNat - 48, by omega⟩
        have e1 : ((s[k]'hlt).toNat : Int) = (z : Int) + 48 := by omega
        have hz9 : z ≤ 9 := by omega
        have hz1 : decide ((z : Int) + 48 < 48) = false := by simp; omega
        have hz2 : decide (57 < (z : Int) + 48) = false := by simp; omega
        by_cases hbig : 1000 < u
        · have HNO := Lib.hid (NumW.no (l := l) (v := -1) (by omega) (no_big (i := k) (by rw [← HS.out]; omega)))
          have hub : decide (1000 < (u : Int)) = true := by simp; omega
          clear hd hz HS hbig
          go_wp2
          go_ret
          exact ⟨-1, HNO.out, by omega, by omega, rfl, _, rfl⟩
        · have HV : Hid (10 * u + z = dval (l.take (k + 1))) := Lib.hid (by
            rw [List.take_add_one, HAT.out k hlt, Option.toList_some, dval_snoc, ← HS.out, hz]; simp)
          have hub : decide (1000 < (u : Int)) = false := by simp; omega
          have HB : Hid (u ≤ 1000) := Lib.hid (by omega)
          have ew : IntKind.u8.wrap (z : Int) = (z : Int) := IntWalk.u8_in _ (by omega)
          have ew2 : IntKind.i64.wrap (z : Int) = (z : Int) := IntWalk.i64_in _ (by omega)
          clear hd hz HS hbig
          go_wp2
          go_roundw
          case rel => exact ⟨10 * u + z, k + 1, _, by go_num, by go_num, by have := HB.out; omega, by omega, HV, rfl⟩
          case measure => simp [intOf]; omega
      · have HNO := Lib.hid (NumW.no (l := l) (v := -1) (by omega) (no_digit (HAT.out k hlt) (by rw [UInt8.le_iff_toNat_le, UInt8.le_iff_toNat_le]; exact hd)))
        obtain ⟨y, hy⟩ : ∃ y : Nat, (s[k]'hlt).toNat = y := ⟨_, rfl⟩
        rw [hy] at hd
        have e1 : ((s[k]'hlt).toNat : Int) = (y : Int) := by omega
        by_cases h48 : y < 48
        · have hz1 : decide ((y : Int) < 48) = true := by simp; omega
          clear hd hy
          go_wp2
          go_ret
          exact ⟨-1, HNO.out, by omega, by omega, rfl, _, rfl⟩
        · have hz1 : decide ((y : Int) < 48) = false := by simp; omega
          have hz2 : decide (57 < (y : Int)) = true := by simp; omega
          clear hd hy
          go_wp2
          go_ret
          exact ⟨-1, HNO.out, by omega, by omega, rfl, _, rfl⟩
    · obtain rfl : k = s.size := by omega
      clear hlt
      have HU : Hid (dval l = u) := Lib.hid (by rw [HS.out, HSZ.out, List.take_length])
      rcases hem : s.toList.isEmpty with _ | _
      · have hne : l ≠ [] := by
          rintro rfl
          rw [HSB.out] at hem
          simp [sB] at hem
        have HN : Hid (∀ w, Calls Try.prog 174 #[.int .i64 (u : Int)] w (TextIs w (decDigits u))) := Lib.hid (fun w => Snumber_any 4 u (by omega) (by omega) w)
        by_cases hd : l = decDigits u
        · have hcmp : ((sB (decDigits u)).toList == s.toList) = true := by rw [HSB.out, ← hd]; simp
          have HY := Lib.hid (NumW.yes hd HU.out)
          clear hd
          go_wp2_with fail
          refine (HN.out _).mono ?_
          rintro e w1 ⟨rfl, m1, rfl⟩
          go_wp2
          go_ret
          exact ⟨(u : Int), HY.out, by omega, by omega, rfl, _, rfl⟩
        · have hcmp : ((sB (decDigits u)).toList == s.toList) = false := by
            rw [HSB.out, beq_eq_false_iff_ne, sB_toList, sB_toList]; exact fun e => hd e.symm
          have HNO := Lib.hid (NumW.no (l := l) (v := -1) (by omega) (no_other HU.out hd))
          clear hd
          go_wp2_with fail
          refine (HN.out _).mono ?_
          rintro e w1 ⟨rfl, m1, rfl⟩
          go_wp2
          go_ret
          exact ⟨-1, HNO.out, by omega, by omega, rfl, _, rfl⟩
      · have HNO := Lib.hid (NumW.no (l := l) (v := -1) (by omega) (fun m _ => by
          have : l = [] := by
            rw [HSB.out] at hem
            simpa [sB] using hem
          rw [this]; exact fun e => dec_ne m e.symm))
        go_wp2
        go_ret
        exact ⟨-1, HNO.out, by omega, by omega, rfl, _, rfl⟩

end Go.Proofs.Ytfjncipekjnbjab
