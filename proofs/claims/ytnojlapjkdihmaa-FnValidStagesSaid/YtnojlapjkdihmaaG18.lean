/-
  Chapter 1, the program: the contracts of bidOfRank, of the sales, of saleOf and of SaleBy.
-/
import Derived.Test.YtnojlapjkdihmaaG17
import Derived.Lib.SliceRun
import Derived.Test.YtnojlapjkdihmaaG01
namespace Go.Proofs.Ytnojlapjkdihmaa
open Go.RowKit

theorem rank_srt {xs : List Int} {k : Nat} {y : Int} (h1 : 1 ≤ k) (h2 : k ≤ xs.length) (hy : (srt xs)[xs.length - k]? = some y) : nthG (k - 1) xs = y := by
  rw [nth_sorted (k - 1) xs (srt xs) (srt_asc xs) (List.mergeSort_perm xs _) (by omega), show xs.length - 1 - (k - 1) = xs.length - k by omega, getD_of hy]

/-- What a sale's payments are. -/
def PayIs (w : World) (xs : List Int) (kd : Nat) (r : Int) (e : Ending) (w' : World) : Prop :=
  ∃ g c, e = .returned (.slice (some ⟨g, 0, none⟩) xs.length c) ∧ Own w' w.heap.size (some ⟨g, 0, none⟩) c (payOf kd xs r) ∧ Below w.heap.size w w'

end Go.Proofs.Ytnojlapjkdihmaa

/-
  Chapter 1, the program: the contracts of SaleBy and isBidder.
-/
namespace Go.Proofs.Ytnojlapjkdihmaa
open Go.RowKit

end Go.Proofs.Ytnojlapjkdihmaa

/-
  Chapter 1: SaleBy of the program and of the model hand back the same, whatever the arguments.
-/
namespace Go.Proofs.Ytnojlapjkdihmaa
open Go.RowKit

/-- A number and a slice in memory of the call's own. -/
def ResIs (w : World) (a : Int) (P : List Int) (e : Ending) (w' : World) : Prop :=
  ∃ A c, e = .returned (.tuple #[.int .i64 a, .slice A P.length c]) ∧ Own w' w.heap.size A c P ∧ Below w.heap.size w w'

theorem SaleIs.res {w w' : World} {xs : List Int} {kd : Nat} {r : Int} {e : Ending} (h : SaleIs w xs kd r e w') : ResIs w (atOf xs r) (payOf kd xs r) e w' := by
  obtain ⟨g, c, he, ho, hb⟩ := h
  exact ⟨some ⟨g, 0, none⟩, c, by rw [he, payOf_len], ho, hb⟩
theorem NoSale.res {w w' : World} {e : Ending} (h : NoSale e) (hb : Below w.heap.size w w') : ResIs w (-1) [] e w' :=
  ⟨none, 0, h, own_none _ _, hb⟩

end Go.Proofs.Ytnojlapjkdihmaa
