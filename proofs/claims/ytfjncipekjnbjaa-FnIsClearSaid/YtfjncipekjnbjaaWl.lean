/-
  Chapter 4: the contracts of the models' IsSum and IsOne; both sides.
-/
import Derived.Test.YtfjncipekjnbjaaWk
namespace Go.Proofs.Ytfjncipekjnbjaa
open Go.RowKit

theorem sumAl_bd {t : List Int} (h : VT t) (s : Nat) : ∀ k, k ≤ 3 → 0 ≤ sumAl t s k ∧ sumAl t s k ≤ 30 * (k : Int)
  | 0, _ => by simp [sumAl]
  | k + 1, hk => by
    have ih := sumAl_bd h s k (by omega)
    have hb := h.bd (s := 2 ^ k) (pow8 (by omega))
    simp only [sumAl]
    rcases bit_cases s k with e | e <;> rw [e] <;> simp <;> omega
theorem mostAl_bd {t : List Int} (h : VT t) (s : Nat) : ∀ k, k ≤ 3 → 0 ≤ mostAl t s k ∧ mostAl t s k ≤ 30 * (k : Int)
  | 0, _ => by simp [mostAl]
  | k + 1, hk => by
    have ih := mostAl_bd h s k (by omega)
    have hb := h.bd (s := 2 ^ k) (pow8 (by omega))
    simp only [mostAl]
    rcases bit_cases s k with e | e <;> rw [e] <;> simp <;> omega
theorem sumAl_no (t : List Int) {s k : Nat} (h : s / 2 ^ k % 2 = 0) : sumAl t s (k + 1) = sumAl t s k := by simp only [sumAl]; rw [h]; simp
theorem sumAl_yes (t : List Int) {s k : Nat} (h : s / 2 ^ k % 2 = 1) : sumAl t s (k + 1) = sumAl t s k + T t (2 ^ k) := by simp only [sumAl]; rw [h]; simp
theorem mostAl_no (t : List Int) {s k : Nat} (h : s / 2 ^ k % 2 = 0) : mostAl t s (k + 1) = max (mostAl t s k) 0 := by simp only [mostAl]; rw [h]; simp
theorem mostAl_yes (t : List Int) {s k : Nat} (h : s / 2 ^ k % 2 = 1) : mostAl t s (k + 1) = max (mostAl t s k) (T t (2 ^ k)) := by simp only [mostAl]; rw [h]; simp

end Go.Proofs.Ytfjncipekjnbjaa
