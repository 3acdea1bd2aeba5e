/-
  Chapter 6: which things may be moved, by the model: byMoves, SwapsByMoves.
-/
import Derived.Test.YtccbjgajmjcpjaaJf
namespace Go.Proofs.Ytccbjgajmjcpjaa
open Go.RowKit

/-- The thing i may be moved from s to x, if it is there and not here. -/
def MvQ (t : List Int) (s x i : Nat) : Prop := s / 2 ^ i % 2 = 1 → x / 2 ^ i % 2 = 0 → MvOne t s x i
def MvI (t : List Int) (s x k : Nat) : Prop := ∀ i, i < k → MvQ t s x i
def MvX (t : List Int) (s k : Nat) : Prop := ∀ x, x < k → MvI t s x 3
def MvS (t : List Int) (k : Nat) : Prop := ∀ s, s < k → MvX t s 8
theorem MvI.zero (t : List Int) (s x : Nat) : MvI t s x 0 := fun i h => absurd h (by omega)
theorem MvX.zero (t : List Int) (s : Nat) : MvX t s 0 := fun i h => absurd h (by omega)
theorem MvS.zero (t : List Int) : MvS t 0 := fun i h => absurd h (by omega)
theorem MvI.next {t : List Int} {s x k : Nat} (h : MvI t s x k) (hk : MvQ t s x k) : MvI t s x (k + 1) := fun i hi => by
  rcases Nat.lt_or_ge i k with h1 | h1
  · exact h i h1
  · rw [show i = k by omega]; exact hk
theorem MvX.next {t : List Int} {s k : Nat} (h : MvX t s k) (hk : MvI t s k 3) : MvX t s (k + 1) := fun i hi => by
  rcases Nat.lt_or_ge i k with h1 | h1
  · exact h i h1
  · rw [show i = k by omega]; exact hk
theorem MvS.next {t : List Int} {k : Nat} (h : MvS t k) (hk : MvX t k 8) : MvS t (k + 1) := fun i hi => by
  rcases Nat.lt_or_ge i k with h1 | h1
  · exact h i h1
  · rw [show i = k by omega]; exact hk
theorem MvS.mv {t : List Int} (h : MvS t 8) : Mv t := fun s hs x hx i hi h1 h2 => h s hs x hx i hi h1 h2

end Go.Proofs.Ytccbjgajmjcpjaa
