/-
  Chapter 2: the contracts of what reckons with fractions, of the program and of the model.
-/
import Derived.Test.YtoipjhdnmiomeaaCc
import Derived.Test.YtoipjhdnmiomeaaCr
namespace Go.Proofs.Ytoipjhdnmiomeaa
open Go.RowKit

/-- The value of a fraction. -/
def frV (n d : Int) : Value := .agg #[.int .i64 n, .int .i64 d]

theorem gcd_step (a b : Nat) : Nat.gcd b (a % b) = Nat.gcd a b := by rw [Nat.gcd_comm a b, Nat.gcd_rec b a, Nat.gcd_comm]

set_option maxHeartbeats 400000 in
theorem commonFactor_any (a b : Nat) (w : World) (ha : a ≤ 4611686018427387903) (hb : b ≤ 4611686018427387903) :
    Calls Try.prog 84 #[.int .i64 a, .int .i64 b] w fun e w' => e = .returned (.int .i64 (Nat.gcd a b : Nat)) ∧ Below w.heap.size w w' := by
  go_enter Try.func84, Try.ntmps84
  go_wp2
  go_loopw [0, 1] (fun s i wr => ∃ x y : Nat, s = .int .i64 x ∧ i = .int .i64 y ∧ x ≤ 4611686018427387903 ∧ y ≤ 4611686018427387903 ∧ Hid (Nat.gcd x y = Nat.gcd a b) ∧ Below w.heap.size w wr) (fun _ i _ => (intOf i).toNat)
  case atStart => exact ⟨a, b, rfl, rfl, ha, hb, Lib.hid rfl, Below.refl _ _⟩
  case round =>
    obtain ⟨x, y, rfl, rfl, hx, hy, HG, hbel⟩ := hrel
    by_cases h0 : y = 0
    · subst h0
      have HE := Lib.hid (show x = Nat.gcd a b by rw [← HG.out]; simp)
      go_wp2
      go_ret
      exact ⟨by rw [HE.out]; rfl, hbel⟩
    · have h1 : (1 : Int) ≤ y := by omega
      have h2 : ((y : Int) != 0) = true := by simp; omega
      have hm : (x : Int) % (y : Int) = ((x % y : Nat) : Int) := by omega
      have hm2 : x % y < y := Nat.mod_lt _ (by omega)
      have HG2 := Lib.hid (show Nat.gcd y (x % y) = Nat.gcd a b by rw [gcd_step, HG.out])
      go_wp2
      go_quiet (fail)
      go_wp2
      go_roundw
      case rel => exact ⟨y, x % y, rfl, by go_num, by omega, by omega, HG2, below_drewN' hbel _⟩
      case measure => simp [intOf]; omega

set_option maxHeartbeats 400000 in
theorem gcd_any (a b : Int) (w : World) (ha0 : -4611686018427387903 ≤ a) (ha : a ≤ 4611686018427387903) (hb0 : -4611686018427387903 ≤ b) (hb : b ≤ 4611686018427387903) :
    Calls Try.prog 93 #[.int .i64 a, .int .i64 b] w fun e w' => e = .returned (.int .i64 (Nat.gcd a.natAbs b.natAbs : Nat)) ∧ Below w.heap.size w w' := by
  go_enter Try.func93, Try.ntmps93
  go_wp2
  go_loopw [0, 1] (fun s i wr => ∃ x y : Int, s = .int .i64 x ∧ i = .int .i64 y ∧ -4611686018427387903 ≤ x ∧ x ≤ 4611686018427387903 ∧ -4611686018427387903 ≤ y ∧ y ≤ 4611686018427387903 ∧ Hid (Nat.gcd x.natAbs y.natAbs = Nat.gcd a.natAbs b.natAbs) ∧ Below w.heap.size w wr) (fun _ i _ => (intOf i).natAbs)
  case atStart => exact ⟨a, b, rfl, rfl, ha0, ha, hb0, hb, Lib.hid rfl, Below.refl _ _⟩
  case round =>
    obtain ⟨x, y, rfl, rfl, hx0, hx, hy0, hy, HG, hbel⟩ := hrel
    by_cases h0 : y = 0
    · subst h0
      by_cases hs : 0 ≤ x
      · have HE := Lib.hid (show x = ((Nat.gcd a.natAbs b.natAbs : Nat) : Int) by rw [← HG.out]; simp; omega)
        have hm : max x (-x) = x := by omega
        go_wp2
        go_ret
        exact ⟨by rw [← HE.out]; simp; try omega, hbel⟩
      · have HE := Lib.hid (show -x = ((Nat.gcd a.natAbs b.natAbs : Nat) : Int) by rw [← HG.out]; simp; omega)
        have hm : max x (-x) = -x := by omega
        go_wp2
        go_ret
        exact ⟨by rw [← HE.out]; simp; try omega, hbel⟩
    · have h2 : (y != 0) = true := by simpa using h0
      have hm2 : (x.tmod y).natAbs < y.natAbs := by rw [Int.natAbs_tmod]; exact Nat.mod_lt _ (by omega)
      have HG2 := Lib.hid (show Nat.gcd y.natAbs (x.tmod y).natAbs = Nat.gcd a.natAbs b.natAbs by rw [Int.natAbs_tmod, gcd_step, HG.out])
      go_wp2
      go_roundw
      case rel => exact ⟨y, x.tmod y, rfl, by go_num, by omega, by omega, by omega, by omega, HG2, hbel⟩
      case measure => simp only [intOf]; first | exact hm2 | (simp; exact hm2)

set_option maxHeartbeats 400000 in
theorem divisor_any (a b : Int) (w : World) (ha0 : -4611686018427387903 ≤ a) (ha : a ≤ 4611686018427387903) (hb0 : -4611686018427387903 ≤ b) (hb : b ≤ 4611686018427387903) :
    Calls Try.prog 28 #[.int .i64 a, .int .i64 b] w fun e w' => e = .returned (.int .i64 (Nat.gcd a.natAbs b.natAbs : Nat)) ∧ Below w.heap.size w w' := by
  go_enter Try.func28, Try.ntmps28
  go_wp2
  go_loopw [0, 1] (fun s i wr => ∃ x y : Int, s = .int .i64 x ∧ i = .int .i64 y ∧ -4611686018427387903 ≤ x ∧ x ≤ 4611686018427387903 ∧ -4611686018427387903 ≤ y ∧ y ≤ 4611686018427387903 ∧ Hid (Nat.gcd x.natAbs y.natAbs = Nat.gcd a.natAbs b.natAbs) ∧ Below w.heap.size w wr) (fun _ i _ => (intOf i).natAbs)
  case atStart => exact ⟨a, b, rfl, rfl, ha0, ha, hb0, hb, Lib.hid rfl, Below.refl _ _⟩
  case round =>
    obtain ⟨x, y, rfl, rfl, hx0, hx, hy0, hy, HG, hbel⟩ := hrel
    by_cases h0 : y = 0
    · subst h0
      by_cases hs : 0 ≤ x
      · have HE := Lib.hid (show x = ((Nat.gcd a.natAbs b.natAbs : Nat) : Int) by rw [← HG.out]; simp; omega)
        have hm : max x (-x) = x := by omega
        go_wp2
        go_ret
        exact ⟨by rw [← HE.out]; simp; try omega, hbel⟩
      · have HE := Lib.hid (show -x = ((Nat.gcd a.natAbs b.natAbs : Nat) : Int) by rw [← HG.out]; simp; omega)
        have hm : max x (-x) = -x := by omega
        go_wp2
        go_ret
        exact ⟨by rw [← HE.out]; simp; try omega, hbel⟩
    · have h2 : (y != 0) = true := by simpa using h0
      have hm2 : (x.tmod y).natAbs < y.natAbs := by rw [Int.natAbs_tmod]; exact Nat.mod_lt _ (by omega)
      have HG2 := Lib.hid (show Nat.gcd y.natAbs (x.tmod y).natAbs = Nat.gcd a.natAbs b.natAbs by rw [Int.natAbs_tmod, gcd_step, HG.out])
      go_wp2
      go_roundw
      case rel => exact ⟨y, x.tmod y, rfl, by go_num, by omega, by omega, by omega, by omega, HG2, hbel⟩
      case measure => simp only [intOf]; first | exact hm2 | (simp; exact hm2)
end Go.Proofs.Ytoipjhdnmiomeaa
