/-
  Chapter 8: MostPairPrices of the model and of the program.
-/
import Derived.Test.YtpildecpabeanabG27
import Derived.Test.YtpildecpabeanabOd
import Derived.Test.YtpildecpabeanabG06
import Derived.Test.YtpildecpabeanabG09
namespace Go.Proofs.Ytpildecpabeanab
open Go.RowKit

open Classical in
/-- What each thing takes when it is missing, nil for others. -/
noncomputable def mpL (rows : List (List Int)) : List Int := if VR rows then (List.range (RW rows 0).length).map (mpP rows) else []
theorem mp_yes {rows : List (List Int)} (h : VR rows) : mpL rows = (List.range (RW rows 0).length).map (mpP rows) := by simp [mpL, h]
theorem mp_no {rows : List (List Int)} (h : ¬ VR rows) : mpL rows = [] := by simp [mpL, h]
theorem row_head {rows : List (List Int)} {w : World} {A : Option Addr} {c : Nat} (h : RdR w A c rows) (hv : VR rows) : ∃ b off A' c', A = some ⟨b, off, none⟩ ∧ w.cell? ⟨b, off, none⟩ = some (.slice A' (RW rows 0).length c') := by
  obtain ⟨b, off, r, A', c', rfl, hr, hc, _, _⟩ := h.at_ (k := 0) (by have := hv.1; omega)
  rw [rw_of hr.out]
  exact ⟨b, off, A', c', rfl, by simpa using hc⟩

theorem mpL_len (rows : List (List Int)) : (mpL rows).length ≤ 1000 := by
  by_cases h : VR rows
  · rw [mp_yes h]; simp; have := h.rk.2.2.2; omega
  · rw [mp_no h]; simp
end Go.Proofs.Ytpildecpabeanab

/-
  Chapter 8: prices of a market, of the program and of the model.
-/
namespace Go.Proofs.Ytpildecpabeanab
open Go.RowKit

/-- Prices of up to four things. -/
def gB (xs : List Int) : Bool := inR xs.length 1 4 && xs.all (fun x => inR x 0 40)
theorem gB_bad {xs : List Int} (h : xs.all (fun x => inR x 0 40) = false) : gB xs = false := by simp only [gB, h, Bool.and_false]
theorem gB_all {xs : List Int} (h : (xs.take xs.length).all (fun x => inR x 0 40) = true) : gB xs = inR xs.length 1 4 := by
  rw [List.take_length] at h; simp only [gB, h, Bool.and_true]
theorem gB_len {xs : List Int} (h : inR xs.length 1 4 = false) : gB xs = false := by simp only [gB, h, Bool.false_and]

theorem isPriceG_any (n : Int) (w : World) :
    Calls Try.prog 56 #[.int .i64 n] w fun e w' => e = .returned (.bool (inR n 0 40)) ∧ w = w' := by
  by_cases h1 : 0 ≤ n
  · by_cases h2 : n ≤ 40
    · have HE := Lib.hid (inR_true.2 ⟨h1, h2⟩)
      go_enter Try.func56, Try.ntmps56
      go_wp2
      go_ret
      exact ⟨by rw [HE.out]; rfl, rfl⟩
    · have HE := Lib.hid (inR_false.2 (fun h : 0 ≤ n ∧ n ≤ 40 => h2 h.2))
      go_enter Try.func56, Try.ntmps56
      go_wp2
      go_ret
      exact ⟨by rw [HE.out]; rfl, rfl⟩
  · have HE := Lib.hid (inR_false.2 (fun h : 0 ≤ n ∧ n ≤ 40 => h1 h.1))
    go_enter Try.func56, Try.ntmps56
    go_wp2
    go_ret
    exact ⟨by rw [HE.out]; rfl, rfl⟩

set_option maxHeartbeats 400000 in
/-- areAll at prices. -/
theorem areGoods_any (A : Option Addr) (c : Nat) (xs : List Int) (w : World) (h : Rd w A c xs) (hl : xs.length ≤ 1099511627776) :
    Calls Try.prog 55 #[.slice A xs.length c, .int .i64 4, .func (.func 56) #[] #[]] w fun e w' => e = .returned (.bool (gB xs)) ∧ w = w' := by
  by_cases h1 : 1 ≤ xs.length
  · by_cases h2 : xs.length ≤ 4
    · have HR := Lib.hid (inR_true (n := (xs.length : Int)) (lo := 1) (hi := 4) |>.2 ⟨by omega, by omega⟩)
      go_enter Try.func55, Try.ntmps55
      go_wp2
      go_loop [20] (fun i => ∃ k : Nat, k ≤ xs.length ∧ i = .int .i64 k ∧ Hid ((xs.take k).all (fun x => inR x 0 40) = true)) (fun i => xs.length - (intOf i).toNat)
      case atStart => exact ⟨0, Nat.zero_le _, rfl, Lib.hid rfl⟩
      case round =>
        obtain ⟨k, hk, rfl, HT⟩ := hrel
        by_cases hlt : k < xs.length
        · obtain ⟨b, off, x, rfl, _, hx, hc⟩ := h.at_ hlt
          go_wp2_with fail
          refine (isPriceG_any _ _).mono ?_
          rintro e w' ⟨rfl, rfl⟩
          cases hb : inR x 0 40 with
          | true =>
            have HT' := Lib.hid (all_step hx.out hb HT.out)
            clear hb
            go_wp2
            go_round
            case rel => exact ⟨k + 1, by omega, by go_num, HT'⟩
            case measure => simp [intOf]; omega
          | false =>
            have HE := Lib.hid (gB_bad (all_at (p := fun x => inR x 0 40) hx.out hb))
            clear hb
            go_wp2
            go_ret
            exact ⟨by rw [HE.out]; rfl, rfl⟩
        · obtain rfl : k = xs.length := by omega
          have HE := Lib.hid (gB_all HT.out)
          go_wp2
          go_ret
          exact ⟨by rw [HE.out, HR.out]; rfl, rfl⟩
    · have HE := Lib.hid (gB_len (inR_false (n := (xs.length : Int)) (lo := 1) (hi := 4) |>.2 (by omega)))
      go_enter Try.func55, Try.ntmps55
      go_wp2
      go_ret
      exact ⟨by rw [HE.out]; rfl, rfl⟩
  · have HE := Lib.hid (gB_len (inR_false (n := (xs.length : Int)) (lo := 1) (hi := 4) |>.2 (by omega)))
    go_enter Try.func55, Try.ntmps55
    go_wp2
    go_ret
    exact ⟨by rw [HE.out]; rfl, rfl⟩

end Go.Proofs.Ytpildecpabeanab
