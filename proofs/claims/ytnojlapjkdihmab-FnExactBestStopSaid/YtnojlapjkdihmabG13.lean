/-
  Chapter 1: the contracts of next, nextBids, honest, calm and allRest.
-/
import Derived.Test.YtnojlapjkdihmabG12
import Derived.Deep.RegionWith
import Derived.Test.YtnojlapjkdihmabG06
namespace Go.Proofs.Ytnojlapjkdihmab
open Go.RowKit

/-- What of the first j is still to be turned, noughts behind. -/
def tailed (xs : List Int) (j : Nat) : List Int := xs.take j ++ List.replicate (xs.length - j) 0
theorem tailed_len (xs : List Int) (j : Nat) (hj : j ≤ xs.length) : (tailed xs j).length = xs.length := by simp [tailed]; omega
theorem tailed_all (xs : List Int) : tailed xs xs.length = xs := by simp [tailed]

theorem tailed_at {xs : List Int} {j : Nat} {x : Int} (hx : xs[j]? = some x) : (tailed xs (j + 1))[j]? = some x := by
  have hj := (List.getElem?_eq_some_iff.1 hx).1
  unfold tailed
  rw [List.getElem?_append_left (by simp; omega), List.getElem?_take_of_lt (by omega), hx]
theorem tailed_zero {xs : List Int} {j : Nat} (hj : j < xs.length) : (tailed xs (j + 1)).set j 0 = tailed xs j := by
  apply List.ext_getElem?
  intro k
  unfold tailed
  simp only [List.getElem?_set, List.getElem?_append, List.length_append, List.length_take, List.length_replicate, List.getElem?_take, List.getElem?_replicate]
  rcases Nat.lt_trichotomy k j with h | h | h
  · simp [show ¬ j = k by omega, show k < min (j + 1) xs.length by omega, show k < min j xs.length by omega, h, show k < j + 1 by omega]
  · subst h
    simp [show k < min (k + 1) xs.length + (xs.length - (k + 1)) by omega, show min k xs.length = k by omega, show 0 < xs.length - k by omega]
  · simp [show ¬ j = k by omega, show ¬ k < min (j + 1) xs.length by omega, show ¬ k < min j xs.length by omega]
    have e1 : k - min (j + 1) xs.length < xs.length - (j + 1) ↔ k - min j xs.length < xs.length - j := by omega
    by_cases hh : k - min (j + 1) xs.length < xs.length - (j + 1)
    · rw [if_pos hh, if_pos (e1.1 hh)]
    · rw [if_neg hh, if_neg (fun x => hh (e1.2 x))]

/-- Where the next bids come from when the last ones are at the top. -/
def NextIs (xs : List Int) (top : Int) (j : Nat) : Prop := nextF xs top = (nextF (xs.take j) top).map (· ++ List.replicate (xs.length - j) 0)
theorem NextIs.start (xs : List Int) (top : Int) : NextIs xs top xs.length := by unfold NextIs; simp
theorem NextIs.up {xs : List Int} {top x : Int} {j : Nat} (h : NextIs xs top (j + 1)) (hx : xs[j]? = some x) (hlt : x < top) : nextF xs top = some ((tailed xs (j + 1)).set j (x + 1)) := by
  have hj := (List.getElem?_eq_some_iff.1 hx).1
  have ht : xs.take (j + 1) = xs.take j ++ [x] := by rw [List.take_add_one, hx]; rfl
  rw [h, ht, nextF_snoc, if_pos hlt]
  simp only [Option.map_some]
  congr 1
  unfold tailed
  rw [ht, List.set_append, if_pos (by simp; omega), List.set_append, if_neg (by simp; omega)]
  simp [show min j xs.length = j by omega]
theorem NextIs.down {xs : List Int} {top x : Int} {j : Nat} (h : NextIs xs top (j + 1)) (hx : xs[j]? = some x) (hge : ¬ x < top) : NextIs xs top j := by
  have hj := (List.getElem?_eq_some_iff.1 hx).1
  have ht : xs.take (j + 1) = xs.take j ++ [x] := by rw [List.take_add_one, hx]; rfl
  unfold NextIs at h ⊢
  rw [h, ht, nextF_snoc, if_neg hge]
  rw [Option.map_map]
  congr 1
  funext l
  simp only [Function.comp, List.append_assoc]
  rw [show xs.length - j = 1 + (xs.length - (j + 1)) by omega, ← List.replicate_append_replicate]
  rfl
theorem NextIs.none_ {xs : List Int} {top : Int} (h : NextIs xs top 0) : nextF xs top = none := by rw [h]; simp [nextF_nil]

/-- What next hands back. -/
def NextOut (w : World) (o : Option (List Int)) (e : Ending) (w' : World) : Prop :=
  (∃ zs g c, o = some zs ∧ e = .returned (.slice (some ⟨g, 0, none⟩) zs.length c) ∧ Own w' w.heap.size (some ⟨g, 0, none⟩) c zs ∧ Below w.heap.size w w') ∨
  (o = none ∧ e = .returned (.slice none 0 0) ∧ Below w.heap.size w w')

end Go.Proofs.Ytnojlapjkdihmab

/-
  Chapter 1: the contracts of gain and GainOf, of the model and of the program.
-/
namespace Go.Proofs.Ytnojlapjkdihmab
open Go.RowKit

/-- A list of numbers of which none is beyond 2 to 31. -/
def Small (xs : List Int) : Prop := ∀ x ∈ xs, -2147483648 ≤ x ∧ x ≤ 2147483647

theorem Small.at_ {xs : List Int} {i : Nat} {x : Int} (h : Small xs) (hx : xs[i]? = some x) : -2147483648 ≤ x ∧ x ≤ 2147483647 := h x (List.mem_of_getElem? hx)
theorem Small.set_ {xs : List Int} (h : Small xs) {i : Nat} {v : Int} (h1 : -2147483648 ≤ v) (h2 : v ≤ 2147483647) : Small (xs.set i v) := by
  intro x hx
  rcases List.mem_or_eq_of_mem_set hx with h3 | h3
  · exact h x h3
  · subst h3; exact ⟨h1, h2⟩
theorem Small.erase {xs : List Int} (h : Small xs) (i : Nat) : Small (xs.eraseIdx i) := fun x hx => h x (List.mem_of_mem_eraseIdx hx)
theorem vB_small {xs : List Int} (h : vB xs = true) : Small xs := by
  simp only [vB, Bool.and_eq_true, List.all_eq_true] at h
  intro x hx
  have := inR_true.1 (h.2 x hx)
  omega
theorem Small.getD {xs : List Int} (h : Small xs) (i : Nat) : -2147483648 ≤ xs.getD i 0 ∧ xs.getD i 0 ≤ 2147483647 := by
  rw [List.getD_eq_getElem?_getD]
  cases hx : xs[i]? with
  | none => simp
  | some x => exact h.at_ hx
theorem nth_small : ∀ (m : Nat) (xs : List Int), Small xs → -2147483648 ≤ nthG m xs ∧ nthG m xs ≤ 2147483647
  | 0, xs, h => by rw [nthG_zero]; exact h.getD _
  | m + 1, xs, h => by rw [nthG_succ]; exact nth_small m _ (h.erase _)
theorem pay_small {kd : Nat} {xs : List Int} {r : Int} (h : Small xs) (h1 : -2147483648 ≤ r) (h2 : r ≤ 2147483647) : Small (payOf kd xs r) := by
  have hz : Small (List.replicate xs.length 0) := by intro x hx; rw [List.eq_of_mem_replicate hx]; decide
  unfold payOf
  split
  · exact h
  · split
    · exact hz
    · have := nth_small (kd - 1) xs h
      exact hz.set_ (by omega) (by omega)

theorem gain_win {kd : Nat} {xs : List Int} {i : Nat} {v r a p : Int} (ha : a = atOf xs r) (hp : (payOf kd xs r)[i]? = some p) (h : a = (i : Int)) : gainF kd xs i v r = v - p := by
  unfold gainF; rw [← ha, if_pos h, getD_of hp]
theorem gain_lose {kd : Nat} {xs : List Int} {i : Nat} {v r a p : Int} (ha : a = atOf xs r) (hp : (payOf kd xs r)[i]? = some p) (h : a ≠ (i : Int)) : gainF kd xs i v r = -p := by
  unfold gainF; rw [← ha, if_neg h, getD_of hp]; omega

theorem inR_le {x : Int} (h : inR x 0 30 = true) : 0 ≤ x ∧ x ≤ 30 := inR_true.1 h

end Go.Proofs.Ytnojlapjkdihmab
