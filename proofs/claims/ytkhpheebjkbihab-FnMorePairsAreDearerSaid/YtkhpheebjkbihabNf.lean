/-
  The program: what a loop over an iterator leaves as it is.
-/
import Derived.Test.YtkhpheebjkbihabIter
import Derived.RangeFuncBox
import Derived.Laws.EntriesVeiled
namespace Go.Proofs.Ytkhpheebjkbihab
open Go.RowKit Go.Shelf
attribute [local go_sem] Oper.semAt_some

theorem Stays.and {B : Nat} {I I' : World → Prop} (h : Stays B I) (h' : Stays B I') : Stays B (fun W => I W ∧ I' W) :=
  fun A C r hA hg hr => ⟨h A C r hA.1 hg hr, h' A C r hA.2 hg hr⟩
theorem stays_pure {B : Nat} (p : Prop) : Stays B (fun _ => p) := fun _ _ _ h _ _ => h
theorem stays_below {B n : Nat} {w : World} (hn : n ≤ w.heap.size) (hB : n ≤ B) : Stays B (fun W => Below n w W) :=
  fun A C r hA hg hr => hA.grown hg (Nat.le_trans hn hA.size) (fun k e => by cases e; omega)
theorem stays_cell {B b : Nat} {v : Value} (hb : b < B) : Stays B (fun W => W.cell? ⟨b, 0, none⟩ = some v) :=
  fun A C r hA hg hr => (hg.cell_far ⟨b, 0, none⟩ (World.block_lt_of_cell? A _ hA) (by simp; omega)).trans hA

theorem stays_boxed {B b : Nat} {ty : TypeId} {v : Value} (hb : b < B) : Stays B (fun W => Boxed W b ty v) :=
  fun A C r hA hg hr => hA.kept hg (fun e => by cases e; omega)
theorem keeps_of_below {W W' : World} (h : Below W.heap.size W W') : KeepsOthers W W' := KeepsOthers.of_grownBy (grown_of_below h none) (by simp)
theorem Own.rebase {w : World} {B B' g c : Nat} {zs : List Int} (h : Own w B (some ⟨g, 0, none⟩) c zs) (hB : B' ≤ g) : Own w B' (some ⟨g, 0, none⟩) c zs := by
  refine ⟨h.1, ?_⟩
  rcases h.2 with h2 | ⟨g', cap, cur, hv, hg, hh, r⟩
  · exact .inl h2
  · have hv' := hv
    injection hv' with hA _ _
    injection hA with hA
    injection hA with hA
    subst hA
    exact .inr ⟨g, cap, cur, hv, hB, hh, r⟩

end Go.Proofs.Ytkhpheebjkbihab
