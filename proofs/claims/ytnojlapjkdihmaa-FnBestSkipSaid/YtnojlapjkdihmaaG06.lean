/-
  Chapter 1, the program: the contracts of bidOfRank, of the sales, of saleOf and of SaleBy.
-/
import Derived.Test.YtnojlapjkdihmaaG05
import Derived.Lib.SliceRun
namespace Go.Proofs.Ytnojlapjkdihmaa
open Go.RowKit

theorem rank_srt {xs : List Int} {k : Nat} {y : Int} (h1 : 1 ≤ k) (h2 : k ≤ xs.length) (hy : (srt xs)[xs.length - k]? = some y) : nthG (k - 1) xs = y := by
  rw [nth_sorted (k - 1) xs (srt xs) (srt_asc xs) (List.mergeSort_perm xs _) (by omega), show xs.length - 1 - (k - 1) = xs.length - k by omega, getD_of hy]

/-- What a sale's payments are. -/
def PayIs (w : World) (xs : List Int) (kd : Nat) (r : Int) (e : Ending) (w' : World) : Prop :=
  ∃ g c, e = .returned (.slice (some ⟨g, 0, none⟩) xs.length c) ∧ Own w' w.heap.size (some ⟨g, 0, none⟩) c (payOf kd xs r) ∧ Below w.heap.size w w'

end Go.Proofs.Ytnojlapjkdihmaa

/-
  Chapter 1, the program: the contracts of SaleBy and isBidder.
-/
namespace Go.Proofs.Ytnojlapjkdihmaa
open Go.RowKit

end Go.Proofs.Ytnojlapjkdihmaa
