/-
  Chapter 4: the contracts of IsModest and of the model's; both sides of ValidTable and of IsModest.
-/
import Derived.Test.YtpildecpabeanabG16
import Derived.Test.YtpildecpabeanabWx
namespace Go.Proofs.Ytpildecpabeanab
open Go.RowKit

noncomputable def mdB (t : List Int) : Bool := @decide (VT t ∧ Mod t) (Classical.propDecidable _)
theorem mdB_true {t : List Int} (h : VT t) (hm : Mod t) : mdB t = true := by unfold mdB; simp [h, hm]
theorem mdB_false {t : List Int} (h : ¬ (VT t ∧ Mod t)) : mdB t = false := by unfold mdB; simp only [decide_eq_false_iff_not]; exact h
/-- Of the first k sets, and of all. -/
def MdTo (t : List Int) (k : Nat) : Prop := ∀ s, s < k → ∀ x, x < 8 → T t (s ||| x) + T t (s &&& x) ≤ T t s + T t x
def MdU (t : List Int) (s j : Nat) : Prop := ∀ x, x < j → T t (s ||| x) + T t (s &&& x) ≤ T t s + T t x
theorem MdTo.zero (t : List Int) : MdTo t 0 := fun s h => absurd h (by omega)
theorem MdU.zero (t : List Int) (s : Nat) : MdU t s 0 := fun s h => absurd h (by omega)
theorem MdU.next {t : List Int} {s j : Nat} (h : MdU t s j) (hj : T t (s ||| j) + T t (s &&& j) ≤ T t s + T t j) : MdU t s (j + 1) := fun x hx => by
  rcases Nat.lt_or_ge x j with h1 | h1
  · exact h x h1
  · rw [show x = j by omega]; exact hj
theorem MdTo.next {t : List Int} {s : Nat} (h : MdTo t s) (hu : MdU t s 8) : MdTo t (s + 1) := fun x hx => by
  rcases Nat.lt_or_ge x s with h1 | h1
  · exact h x h1
  · rw [show x = s by omega]; exact hu
theorem and8 {p r : Nat} (hp : p < 8) : p &&& r < 8 := Nat.lt_of_le_of_lt Nat.and_le_left hp

theorem mdB_ne {t : List Int} (h : VT t) : mdB t = neB (T t) 8 := by
  by_cases hm : Mod t
  · rw [mdB_true h hm, neB_true (fun a ha b hb => hm a ha b hb)]
  · rw [mdB_false (fun h => hm h.2), neB_false (fun hn => hm (fun a ha b hb => hn a ha b hb))]
end Go.Proofs.Ytpildecpabeanab
