/-
  Chapter 2, the model: the contract of BestRevenue.
-/
import Derived.Test.YtnojlapjkdihmaaDa
namespace Go.Proofs.Ytnojlapjkdihmaa
open Go.RowKit

theorem gi_ne {C gi ci : Nat} {ps : List (Int × Int)} (h : gi < C) : Value.ownBlock (.slice (some ⟨gi, 0, none⟩) ps.length ci) ≠ some C := by
  intro e
  simp [Value.ownBlock] at e
  omega
theorem outF_some {w : World} {qs : List Rat} {e : Ending} {w' : World} (h : OutF w (some qs) e w') :
    ∃ g c, e = .returned (.slice (some ⟨g, 0, none⟩) (frL qs).length c) ∧ OwnF w' w.heap.size (some ⟨g, 0, none⟩) c (frL qs) ∧ Below w.heap.size w w' := by
  obtain ⟨hb, ⟨h1, _⟩ | ⟨qs', g, c', h1, rfl, ho⟩⟩ := h
  · cases h1
  · obtain rfl : qs = qs' := by injection h1
    exact ⟨g, c', rfl, ho, hb⟩
theorem topR_snoc (f : Int → Rat) (hf : ∀ vs : List Int, 0 ≤ topR f vs) : ∀ (vs : List Int) (v : Int), topR f (vs ++ [v]) = max (topR f vs) (f v)
  | [], v => by simp only [List.nil_append, topR]; grind
  | u :: vs, v => by
    have h := topR_snoc f hf vs v
    rw [List.cons_append, topR, topR, h]
    grind
theorem iron_step {xs ys : List Int} {k v : Nat} (hx : ys[k]? = some (v : Int)) : ironG xs (ys.take (k + 1)) = max (ironG xs (ys.take k)) (ironAt xs v) := by
  unfold ironG
  rw [List.take_add_one, hx]
  simpa using topR_snoc (fun v => ironAt xs v.toNat) (topR_nn _) (ys.take k) (v : Int)

end Go.Proofs.Ytnojlapjkdihmaa
