/-
  Chapter 6: which things may be moved, by the model: moves, byMoves, SwapsByMoves.
-/
import Derived.Test.YtpildecpabeanabG26
namespace Go.Proofs.Ytpildecpabeanab
open Go.RowKit

noncomputable def moB (t : List Int) (s x i : Nat) : Bool := @decide (MvOne t s x i) (Classical.propDecidable _)
theorem moB_true {t : List Int} {s x i : Nat} (h : MvOne t s x i) : moB t s x i = true := by unfold moB; simp [h]
theorem moB_false {t : List Int} {s x i : Nat} (h : ¬ MvOne t s x i) : moB t s x i = false := by unfold moB; simp [h]
theorem moB_iff {t : List Int} {s x i : Nat} : moB t s x i = true ↔ MvOne t s x i := by unfold moB; simp
/-- None of the first k things can be moved back. -/
def MvNo (t : List Int) (s x i k : Nat) : Prop := ∀ j, j < k → x / 2 ^ j % 2 = 1 → s / 2 ^ j % 2 = 0 → ¬ T t s + T t x ≤ T t (s - 2 ^ i + 2 ^ j) + T t (x + 2 ^ i - 2 ^ j)
theorem MvNo.zero (t : List Int) (s x i : Nat) : MvNo t s x i 0 := fun j h => absurd h (by omega)
theorem MvNo.next {t : List Int} {s x i k : Nat} (h : MvNo t s x i k) (hk : x / 2 ^ k % 2 = 1 → s / 2 ^ k % 2 = 0 → ¬ T t s + T t x ≤ T t (s - 2 ^ i + 2 ^ k) + T t (x + 2 ^ i - 2 ^ k)) : MvNo t s x i (k + 1) := fun j hj => by
  rcases Nat.lt_or_ge j k with h1 | h1
  · exact h j h1
  · rw [show j = k by omega]; exact hk
theorem moB_all {t : List Int} {s x i : Nat} (h0 : ¬ T t s + T t x ≤ T t (s - 2 ^ i) + T t (x + 2 ^ i)) (h : MvNo t s x i 3) : moB t s x i = false := moB_false (by
  rintro (h1 | ⟨j, hj, h1, h2, h3⟩)
  · exact h0 h1
  · exact h j hj h1 h2 h3)
theorem mv_fit {s x i : Nat} (hs : s < 8) (hx : x < 8) (hi : i < 3) (h1 : s / 2 ^ i % 2 = 1) (h0 : x / 2 ^ i % 2 = 0) : 2 ^ i ≤ s ∧ x + 2 ^ i < 8 ∧ 2 ^ i ≤ 4 := by
  rcases nat3 hi with rfl | rfl | rfl <;> simp at h1 h0 ⊢ <;> omega
theorem mv_fit2 {s x i j : Nat} (hs : s < 8) (hx : x < 8) (hi : i < 3) (hj : j < 3) (h1 : s / 2 ^ i % 2 = 1) (h0 : x / 2 ^ i % 2 = 0) (g1 : x / 2 ^ j % 2 = 1) (g0 : s / 2 ^ j % 2 = 0) : s - 2 ^ i + 2 ^ j < 8 ∧ 2 ^ j ≤ x + 2 ^ i ∧ 2 ^ j ≤ 4 := by
  rcases nat3 hi with rfl | rfl | rfl <;> rcases nat3 hj with rfl | rfl | rfl <;> simp at h1 h0 g1 g0 ⊢ <;> omega

end Go.Proofs.Ytpildecpabeanab

/-
  Chapter 6: which things may be moved, by the model: byMoves, SwapsByMoves.
-/
namespace Go.Proofs.Ytpildecpabeanab
open Go.RowKit

/-- The thing i may be moved from s to x, if it is there and not here. -/
def MvQ (t : List Int) (s x i : Nat) : Prop := s / 2 ^ i % 2 = 1 → x / 2 ^ i % 2 = 0 → MvOne t s x i
def MvI (t : List Int) (s x k : Nat) : Prop := ∀ i, i < k → MvQ t s x i
def MvX (t : List Int) (s k : Nat) : Prop := ∀ x, x < k → MvI t s x 3
def MvS (t : List Int) (k : Nat) : Prop := ∀ s, s < k → MvX t s 8
theorem MvI.zero (t : List Int) (s x : Nat) : MvI t s x 0 := fun i h => absurd h (by omega)
theorem MvX.zero (t : List Int) (s : Nat) : MvX t s 0 := fun i h => absurd h (by omega)
theorem MvS.zero (t : List Int) : MvS t 0 := fun i h => absurd h (by omega)
theorem MvI.next {t : List Int} {s x k : Nat} (h : MvI t s x k) (hk : MvQ t s x k) : MvI t s x (k + 1) := fun i hi => by
  rcases Nat.lt_or_ge i k with h1 | h1
  · exact h i h1
  · rw [show i = k by omega]; exact hk
theorem MvX.next {t : List Int} {s k : Nat} (h : MvX t s k) (hk : MvI t s k 3) : MvX t s (k + 1) := fun i hi => by
  rcases Nat.lt_or_ge i k with h1 | h1
  · exact h i h1
  · rw [show i = k by omega]; exact hk
theorem MvS.next {t : List Int} {k : Nat} (h : MvS t k) (hk : MvX t k 8) : MvS t (k + 1) := fun i hi => by
  rcases Nat.lt_or_ge i k with h1 | h1
  · exact h i h1
  · rw [show i = k by omega]; exact hk
theorem MvS.mv {t : List Int} (h : MvS t 8) : Mv t := fun s hs x hx i hi h1 h2 => h s hs x hx i hi h1 h2

end Go.Proofs.Ytpildecpabeanab
