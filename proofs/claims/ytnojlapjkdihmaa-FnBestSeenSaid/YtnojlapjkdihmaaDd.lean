/-
  Chapter 2, the program: the contract of termsOf at fractions.
-/
import Derived.Test.YtnojlapjkdihmaaDc
namespace Go.Proofs.Ytnojlapjkdihmaa
open Go.RowKit Go.Shelf
attribute [local go_sem] Oper.semAt_some

def tq (xs : List Int) (g : List Int → Rat) (vs : List Int) : Int × Int := ((termQ xs g vs).num, ((termQ xs g vs).den : Int))
theorem cell_two_new (w : World) (x y : Value) (t : TypeId) : ∀ j u, [x, y][j]? = some u → (w.alloc (.cells #[x, y] t)).cell? ((⟨w.heap.size, 0, none⟩ : Addr).add j) = some u := by
  intro j u hu
  match j, hu with
  | 0, hu =>
    simp at hu
    subst hu
    show (w.alloc (.cells #[x, y] t)).cell? ⟨w.heap.size, 0, none⟩ = _
    rw [cell_of_row _ w.heap.size 0 _ _ _ (heap_alloc_new w _)]; rfl
  | 1, hu =>
    simp at hu
    subst hu
    show (w.alloc (.cells #[x, y] t)).cell? ⟨w.heap.size, 1, none⟩ = _
    rw [cell_of_row _ w.heap.size 1 _ _ _ (heap_alloc_new w _)]; rfl
  | j + 2, hu => simp at hu

end Go.Proofs.Ytnojlapjkdihmaa
