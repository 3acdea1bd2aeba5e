/-
  Chapter 1 in plain arithmetic: by which kinds truth is best.
-/
import Derived.Test.YtnojlapjkdihmaaG24
namespace Go.Proofs.Ytnojlapjkdihmaa

theorem runF_fit {top n : Nat} : ∀ (m : Nat) (xs : List Int), Fit top n xs → ∀ ys ∈ runF top m xs, Fit top n ys
  | 0, xs, _, ys, h => by simp [runF] at h
  | m + 1, xs, hf, ys, h => by
    rw [runF] at h
    rcases List.mem_cons.1 h with rfl | h
    · exact hf
    · cases hn : nextF xs top with
      | none => rw [hn] at h; simp at h
      | some zs =>
        rw [hn] at h
        exact runF_fit m zs (hf.next hn).1 ys h
theorem allF_fit {top n : Nat} {xs ys : List Int} (hf : Fit top n xs) (h : ys ∈ allF top xs) : Fit top n ys := runF_fit _ xs hf ys h

theorem set_own {xs : List Int} {i : Nat} {x : Int} (hx : xs[i]? = some x) : xs.set i x = xs := set_self hx

theorem second_true (n top : Nat) : isTrueF 2 n top = true := by
  unfold isTrueF
  rw [List.all_eq_true]
  intro ys hy
  have hf := allF_fit (Fit.zero top n) hy
  unfold restF
  rw [List.all_eq_true]
  intro i hi
  have hi : i < ys.length := List.mem_range.1 hi
  obtain ⟨x, hx⟩ := at_some hi
  unfold restAt
  rw [List.all_eq_true, getD_of hx]
  intro b _
  rw [decide_eq_true_eq]
  have := truth_best (xs := ys) (i := i) (v := x) (r := 0) (b := b) hi (hf.2 x (List.mem_of_getElem? hx)).1
  rw [set_own hx] at this
  exact this

theorem firstT : ∀ n top : Nat, 1 ≤ n → n ≤ 3 → top ≤ 5 → isTrueF 1 n top = decide (top = 0) := by
  intro n top h1 h2 h3
  have hn : n = 1 ∨ n = 2 ∨ n = 3 := by omega
  have ht : top = 0 ∨ top = 1 ∨ top = 2 ∨ top = 3 ∨ top = 4 ∨ top = 5 := by omega
  rcases hn with rfl | rfl | rfl <;> rcases ht with rfl | rfl | rfl | rfl | rfl | rfl <;> decide +kernel
theorem allT : ∀ n top : Nat, 1 ≤ n → n ≤ 3 → top ≤ 5 → isTrueF 4 n top = decide (top = 0) := by
  intro n top h1 h2 h3
  have hn : n = 1 ∨ n = 2 ∨ n = 3 := by omega
  have ht : top = 0 ∨ top = 1 ∨ top = 2 ∨ top = 3 ∨ top = 4 ∨ top = 5 := by omega
  rcases hn with rfl | rfl | rfl <;> rcases ht with rfl | rfl | rfl | rfl | rfl | rfl <;> decide +kernel
theorem thirdT : ∀ top : Nat, top ≤ 5 → isTrueF 3 3 top = decide (top = 0) := by
  intro top h3
  have ht : top = 0 ∨ top = 1 ∨ top = 2 ∨ top = 3 ∨ top = 4 ∨ top = 5 := by omega
  rcases ht with rfl | rfl | rfl | rfl | rfl | rfl <;> decide +kernel

end Go.Proofs.Ytnojlapjkdihmaa
