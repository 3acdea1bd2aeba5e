/-
  Chapter 1: the contracts of next, nextBids, honest, calm and allRest.
-/
import Derived.Test.YtnojlapjkdihmabG22
import Derived.Deep.RegionWith
namespace Go.Proofs.Ytnojlapjkdihmab
open Go.RowKit

/-- What of the first j is still to be turned, noughts behind. -/
def tailed (xs : List Int) (j : Nat) : List Int := xs.take j ++ List.replicate (xs.length - j) 0
theorem tailed_len (xs : List Int) (j : Nat) (hj : j ≤ xs.length) : (tailed xs j).length = xs.length := by simp [tailed]; omega
theorem tailed_all (xs : List Int) : tailed xs xs.length = xs := by simp [tailed]

theorem tailed_at {xs : List Int} {j : Nat} {x : Int} (hx : xs[j]? = some x) : (tailed xs (j + 1))[j]? = some x := by
  have hj := (List.getElem?_eq_some_iff.1 hx).1
  unfold tailed
  rw [List.getElem?_append_left (by simp; omega), List.getElem?_take_of_lt (by omega), hx]
theorem tailed_zero {xs : List Int} {j : Nat} (hj : j < xs.length) : (tailed xs (j + 1)).set j 0 = tailed xs j := by
  apply List.ext_getElem?
  intro k
  unfold tailed
  simp only [List.getElem?_set, List.getElem?_append, List.length_append, List.length_take, List.length_replicate, List.getElem?_take, List.getElem?_replicate]
  rcases Nat.lt_trichotomy k j with h | h | h
  · simp [show ¬ j = k by omega, show k < min (j + 1) xs.length by omega, show k < min j xs.length by omega, h, show k < j + 1 by omega]
  · subst h
    simp [show k < min (k + 1) xs.length + (xs.length - (k + 1)) by omega, show min k xs.length = k by omega, show 0 < xs.length - k by omega]
  · simp [show ¬ j = k by omega, show ¬ k < min (j + 1) xs.length by omega, show ¬ k < min j xs.length by omega]
    have e1 : k - min (j + 1) xs.length < xs.length - (j + 1) ↔ k - min j xs.length < xs.length - j := by omega
    by_cases hh : k - min (j + 1) xs.length < xs.length - (j + 1)
    · rw [if_pos hh, if_pos (e1.1 hh)]
    · rw [if_neg hh, if_neg (fun x => hh (e1.2 x))]

/-- Where the next bids come from when the last ones are at the top. -/
def NextIs (xs : List Int) (top : Int) (j : Nat) : Prop := nextF xs top = (nextF (xs.take j) top).map (· ++ List.replicate (xs.length - j) 0)
theorem NextIs.start (xs : List Int) (top : Int) : NextIs xs top xs.length := by unfold NextIs; simp
theorem NextIs.up {xs : List Int} {top x : Int} {j : Nat} (h : NextIs xs top (j + 1)) (hx : xs[j]? = some x) (hlt : x < top) : nextF xs top = some ((tailed xs (j + 1)).set j (x + 1)) := by
  have hj := (List.getElem?_eq_some_iff.1 hx).1
  have ht : xs.take (j + 1) = xs.take j ++ [x] := by rw [List.take_add_one, hx]; rfl
  rw [h, ht, nextF_snoc, if_pos hlt]
  simp only [Option.map_some]
  congr 1
  unfold tailed
  rw [ht, List.set_append, if_pos (by simp; omega), List.set_append, if_neg (by simp; omega)]
  simp [show min j xs.length = j by omega]
theorem NextIs.down {xs : List Int} {top x : Int} {j : Nat} (h : NextIs xs top (j + 1)) (hx : xs[j]? = some x) (hge : ¬ x < top) : NextIs xs top j := by
  have hj := (List.getElem?_eq_some_iff.1 hx).1
  have ht : xs.take (j + 1) = xs.take j ++ [x] := by rw [List.take_add_one, hx]; rfl
  unfold NextIs at h ⊢
  rw [h, ht, nextF_snoc, if_neg hge]
  rw [Option.map_map]
  congr 1
  funext l
  simp only [Function.comp, List.append_assoc]
  rw [show xs.length - j = 1 + (xs.length - (j + 1)) by omega, ← List.replicate_append_replicate]
  rfl
theorem NextIs.none_ {xs : List Int} {top : Int} (h : NextIs xs top 0) : nextF xs top = none := by rw [h]; simp [nextF_nil]

/-- What next hands back. -/
def NextOut (w : World) (o : Option (List Int)) (e : Ending) (w' : World) : Prop :=
  (∃ zs g c, o = some zs ∧ e = .returned (.slice (some ⟨g, 0, none⟩) zs.length c) ∧ Own w' w.heap.size (some ⟨g, 0, none⟩) c zs ∧ Below w.heap.size w w') ∨
  (o = none ∧ e = .returned (.slice none 0 0) ∧ Below w.heap.size w w')

end Go.Proofs.Ytnojlapjkdihmab
