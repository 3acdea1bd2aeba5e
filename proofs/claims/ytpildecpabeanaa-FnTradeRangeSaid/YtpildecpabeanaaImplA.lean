/-
  Chapter 1, the program: the contracts of winnerOf, slices.Clone, slices.Sort, bidOfRank, the sales and saleOf.
-/
import Derived.Test.YtpildecpabeanaaSpecD
import Derived.Test.YtpildecpabeanaaNd
import Derived.Test.YtpildecpabeanaaShelf
import Derived.Sort.OwnSortedInts
namespace Go.Proofs.Ytpildecpabeanaa
open Go.RowKit

/-- The list, sorted. -/
def srt (xs : List Int) : List Int := xs.mergeSort fun x y => decide (x ≤ y)
theorem srt_len (xs : List Int) : (srt xs).length = xs.length := (List.mergeSort_perm xs _).length_eq
theorem srt_asc (xs : List Int) : Asc (srt xs) := by
  have := List.pairwise_mergeSort (le := fun x y : Int => decide (x ≤ y)) (by intro a b c; simp; omega) (by intro a b; simp; omega) xs
  unfold Asc srt
  simpa using this

theorem Sort_any (B g c : Nat) (xs : List Int) (w : World) (h : Own w B (some ⟨g, 0, none⟩) c xs) (hl : xs.length ≤ 1099511627776) :
    Calls Try.prog 115 #[.slice (some ⟨g, 0, none⟩) xs.length c] w fun e w' => e = .returned (.tuple #[]) ∧ Own w' B (some ⟨g, 0, none⟩) c (srt xs) ∧ w.grownBy w' (some g) := by
  have hg := h.ge
  have hlt := h.lt
  rcases h.2 with ⟨hv, _⟩ | ⟨g', cap, cur, hv, _, hb, hn, hcap, hcs, htake⟩
  · cases hv
  injection hv with hA _ hc
  injection hA with hA
  injection hA with hA
  subst hA hc
  rw [Nat.mul_one] at htake
  refine (Try.slices_Sort_int g 0 c xs w (holds_of_blockI hb htake) hlt (by omega)).mono ?_
  rintro e w' ⟨rfl, n, os, rfl⟩
  refine ⟨rfl, ?_, grownBy_sortedI _⟩
  have := ownsRow_sortedI (n := n) (os := os) (ts := srt xs) (srt_len xs) hg hb hn hcap hcs
  unfold Own
  rw [srt_len]
  exact this

end Go.Proofs.Ytpildecpabeanaa
