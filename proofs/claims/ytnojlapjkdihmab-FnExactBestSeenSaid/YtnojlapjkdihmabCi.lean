/-
  Chapter 2: the contracts of VirtualOf, of the program and of the model.
-/
import Derived.Test.YtnojlapjkdihmabFs
namespace Go.Proofs.Ytnojlapjkdihmab
open Go.RowKit

/-- Fractions as pairs. -/
def frL (qs : List Rat) : List (Int × Int) := qs.map fun q => (q.num, (q.den : Int))
theorem frL_len (qs : List Rat) : (frL qs).length = qs.length := by simp [frL]
theorem frL_at {qs : List Rat} {k : Nat} {x y : Int} (h : (frL qs)[k]? = some (x, y)) : ∃ q, qs[k]? = some q ∧ FrIs q x y := by
  unfold frL at h
  rw [List.getElem?_map] at h
  cases hq : qs[k]? with
  | none => rw [hq] at h; cases h
  | some q => rw [hq] at h; simp at h; exact ⟨q, rfl, h.1.symm, h.2.symm⟩
theorem frL_get {qs : List Rat} {k : Nat} {q : Rat} {x y : Int} (hq : qs[k]? = some q) (h : FrIs q x y) : (frL qs)[k]? = some (x, y) := by
  unfold frL
  rw [List.getElem?_map, hq, h.1, h.2]; rfl

/-- ps up to k, noughts behind. -/
def fillF (ps : List (Int × Int)) (k : Nat) : List (Int × Int) := ps.take k ++ List.replicate (ps.length - k) (0, 0)
theorem fillF_len (ps : List (Int × Int)) (k : Nat) (hk : k ≤ ps.length) : (fillF ps k).length = ps.length := by simp [fillF]; omega
theorem fillF_zero (ps : List (Int × Int)) : fillF ps 0 = List.replicate ps.length (0, 0) := by simp [fillF]
theorem fillF_all (ps : List (Int × Int)) : fillF ps ps.length = ps := by simp [fillF]
theorem fillF_set (ps : List (Int × Int)) (k : Nat) (x : Int × Int) (hx : ps[k]? = some x) : (fillF ps k).set k x = fillF ps (k + 1) := by
  obtain ⟨hk, rfl⟩ := List.getElem?_eq_some_iff.1 hx
  apply List.ext_getElem?
  intro j
  simp only [fillF, List.getElem?_set, List.getElem?_append, List.length_append, List.length_take, List.length_replicate, List.getElem?_take, List.getElem?_replicate]
  rcases Nat.lt_trichotomy j k with h | h | h
  · simp [show ¬ k = j by omega, show j < min k ps.length by omega, show j < min (k + 1) ps.length by omega, h, show j < k + 1 by omega]
  · subst h
    simp [show j < min (j + 1) ps.length by omega, show j < min j ps.length + (ps.length - j) by omega, hk]
  · simp [show ¬ k = j by omega, show ¬ j < min k ps.length by omega, show ¬ j < min (k + 1) ps.length by omega]
    have e1 : j - min k ps.length < ps.length - k ↔ j - min (k + 1) ps.length < ps.length - (k + 1) := by omega
    by_cases hh : j - min k ps.length < ps.length - k
    · rw [if_pos hh, if_pos (e1.1 hh)]
    · rw [if_neg hh, if_neg (fun x => hh (e1.2 x))]

/-- The virtual values of all values. -/
def virtL (xs : List Int) : List Rat := (List.range xs.length).map (virtQ xs)
theorem virtL_len (xs : List Int) : (virtL xs).length = xs.length := by simp [virtL]
theorem virtL_at {xs : List Int} {k : Nat} (h : k < xs.length) : (virtL xs)[k]? = some (virtQ xs k) := by simp [virtL, h]
theorem virtL_take {xs : List Int} {k : Nat} (h : k < xs.length) : (virtL xs).take (k + 1) = (virtL xs).take k ++ [virtQ xs k] := by rw [List.take_add_one, virtL_at h]; rfl

/-- What a call hands back: nil, or fractions in a block of its own; what was there is as it was. -/
def OutF (w : World) (o : Option (List Rat)) (e : Ending) (w' : World) : Prop :=
  Below w.heap.size w w' ∧ ((o = none ∧ e = .returned (.slice none 0 0)) ∨ ∃ qs g c, o = some qs ∧ e = .returned (.slice (some ⟨g, 0, none⟩) (frL qs).length c) ∧ OwnF w' w.heap.size (some ⟨g, 0, none⟩) c (frL qs))

def virtO (xs : List Int) : Option (List Rat) := if vW xs = true then some (virtL xs) else none

end Go.Proofs.Ytnojlapjkdihmab
