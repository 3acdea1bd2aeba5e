/-
  Chapter 6: three things exchanged, by the program: swapsThird.
-/
import Derived.Test.YtccbjgajmjcpjabG28
import Derived.Test.YtccbjgajmjcpjabG29
import Derived.Test.YtccbjgajmjcpjabG25
import Derived.Test.YtccbjgajmjcpjabG26
namespace Go.Proofs.Ytccbjgajmjcpjab
open Go.RowKit

noncomputable def tqB (t : List Int) (i j k : Nat) : Bool := @decide (T t (2 ^ i + 2 ^ j) + T t (2 ^ k) ≤ max (T t (2 ^ i + 2 ^ k) + T t (2 ^ j)) (T t (2 ^ j + 2 ^ k) + T t (2 ^ i))) (Classical.propDecidable _)
theorem tqB_true {t : List Int} {i j k : Nat} (h : T t (2 ^ i + 2 ^ j) + T t (2 ^ k) ≤ max (T t (2 ^ i + 2 ^ k) + T t (2 ^ j)) (T t (2 ^ j + 2 ^ k) + T t (2 ^ i))) : tqB t i j k = true := by unfold tqB; simp only [decide_eq_true_eq]; exact h
theorem tqB_false {t : List Int} {i j k : Nat} (h : ¬ T t (2 ^ i + 2 ^ j) + T t (2 ^ k) ≤ max (T t (2 ^ i + 2 ^ k) + T t (2 ^ j)) (T t (2 ^ j + 2 ^ k) + T t (2 ^ i))) : tqB t i j k = false := by unfold tqB; simp only [decide_eq_false_iff_not]; exact h
theorem tqB_iff {t : List Int} {i j k : Nat} : tqB t i j k = true ↔ T t (2 ^ i + 2 ^ j) + T t (2 ^ k) ≤ max (T t (2 ^ i + 2 ^ k) + T t (2 ^ j)) (T t (2 ^ j + 2 ^ k) + T t (2 ^ i)) := by unfold tqB; simp only [decide_eq_true_eq]
theorem or_back {i j : Nat} (hi : i < 3) (hj : j < 3) : bits .or .i64 ((2 ^ i : Nat) : Int) ((2 ^ j : Nat) : Int) = bits .or .i64 ((2 ^ j : Nat) : Int) ((2 ^ i : Nat) : Int) := by
  rcases nat3 hi with rfl | rfl | rfl <;> rcases nat3 hj with rfl | rfl | rfl <;> decide

end Go.Proofs.Ytccbjgajmjcpjab

/-
  Chapter 6: three things exchanged, by the program: SwapsByThrees; both sides.
-/
namespace Go.Proofs.Ytccbjgajmjcpjab
open Go.RowKit

/-- What is exchanged holds of the first things of the three lists. -/
def ThK (t : List Int) (i j n : Nat) (L : List Int) : Prop := ∀ k : Nat, k < 3 → ((2 ^ k : Nat) : Int) ∈ L.take n → TriQ t i j k
def ThJ (t : List Int) (i n : Nat) (L : List Int) : Prop := ∀ j : Nat, j < 3 → ((2 ^ j : Nat) : Int) ∈ L.take n → ∀ k, k < 3 → TriQ t i j k
def ThI (t : List Int) (n : Nat) (L : List Int) : Prop := ∀ i : Nat, i < 3 → ((2 ^ i : Nat) : Int) ∈ L.take n → ∀ j, j < 3 → ∀ k, k < 3 → TriQ t i j k
theorem ThK.zero (t : List Int) (i j : Nat) (L : List Int) : ThK t i j 0 L := fun k _ h => absurd h (by simp)
theorem ThJ.zero (t : List Int) (i : Nat) (L : List Int) : ThJ t i 0 L := fun k _ h => absurd h (by simp)
theorem ThI.zero (t : List Int) (L : List Int) : ThI t 0 L := fun k _ h => absurd h (by simp)
theorem take_mem {L : List Int} {n k k' : Nat} (hk : k < 3) (hk' : k' < 3) (hx : L[n]? = some ((2 ^ k' : Nat) : Int)) (hm : ((2 ^ k : Nat) : Int) ∈ L.take (n + 1)) : ((2 ^ k : Nat) : Int) ∈ L.take n ∨ k = k' := by
  rw [List.take_add_one, hx] at hm
  rcases List.mem_append.1 hm with hm | hm
  · exact .inl hm
  · simp at hm
    have e : 2 ^ k = 2 ^ k' := by have : ((2 ^ k : Nat) : Int) = ((2 ^ k' : Nat) : Int) := by simpa using hm
                                  omega
    exact .inr (pow_inj3 hk hk' e)
theorem ThK.next {t : List Int} {i j n k : Nat} {L : List Int} (h : ThK t i j n L) (hk : k < 3) (hx : L[n]? = some ((2 ^ k : Nat) : Int)) (hq : TriQ t i j k) : ThK t i j (n + 1) L := fun k2 hk2 hm => by
  rcases take_mem hk2 hk hx hm with h1 | rfl
  · exact h k2 hk2 h1
  · exact hq
theorem ThJ.next {t : List Int} {i j n : Nat} {L : List Int} (h : ThJ t i n L) (hj : j < 3) (hx : L[n]? = some ((2 ^ j : Nat) : Int)) (hq : ∀ k, k < 3 → TriQ t i j k) : ThJ t i (n + 1) L := fun k2 hk2 hm => by
  rcases take_mem hk2 hj hx hm with h1 | rfl
  · exact h k2 hk2 h1
  · exact hq
theorem ThI.next {t : List Int} {i n : Nat} {L : List Int} (h : ThI t n L) (hi : i < 3) (hx : L[n]? = some ((2 ^ i : Nat) : Int)) (hq : ∀ j, j < 3 → ∀ k, k < 3 → TriQ t i j k) : ThI t (n + 1) L := fun k2 hk2 hm => by
  rcases take_mem hk2 hi hx hm with h1 | rfl
  · exact h k2 hk2 h1
  · exact hq
/-- All things but one, and but two. -/
theorem but1 {i : Nat} (hi : i < 3) : bits .andNot .i64 7 ((2 ^ i : Nat) : Int) = ((7 - 2 ^ i : Nat) : Int) ∧ 7 - 2 ^ i < 8 ∧ ∀ j, j < 3 → ((7 - 2 ^ i) / 2 ^ j % 2 = 1 ↔ j ≠ i) := by
  rcases nat3 hi with rfl | rfl | rfl <;> decide
theorem but2 {i j : Nat} (hi : i < 3) (hj : j < 3) (d : j ≠ i) : bits .andNot .i64 7 (bits .or .i64 ((2 ^ i : Nat) : Int) ((2 ^ j : Nat) : Int)) = ((7 - (2 ^ i + 2 ^ j) : Nat) : Int) ∧ 7 - (2 ^ i + 2 ^ j) < 8 ∧ ∀ k, k < 3 → ((7 - (2 ^ i + 2 ^ j)) / 2 ^ k % 2 = 1 ↔ (k ≠ i ∧ k ≠ j)) := by
  rcases nat3 hi with rfl | rfl | rfl <;> rcases nat3 hj with rfl | rfl | rfl <;> first | exact absurd rfl d | decide

end Go.Proofs.Ytccbjgajmjcpjab

/-
  The laws of chapter 6: the draws of one table; the walks of FnIsSum, FnIsOne, FnSwapsByMoves.
-/
namespace Go.Proofs.Ytccbjgajmjcpjab
open Go.RowKit Go.Lib

theorem byB_iff {t : List Int} {V : Nat → Int} : byB t V = true ↔ VT t ∧ ∀ s, s < 8 → T t s = V s := by unfold byB; simp only [decide_eq_true_eq]
theorem sum_goods {t : List Int} (h : byB t (fun s => sumAl t s 3) = true) : mdB t = true ∧ mvB t = true := by
  obtain ⟨hv, h1⟩ := byB_iff.1 h
  have m := sum_mv hv h1
  exact ⟨mdB_true hv m.modTri.1, mvB_true hv (m.mv hv)⟩
theorem one_goods {t : List Int} (h : byB t (fun s => mostAl t s 3) = true) : mdB t = true ∧ mvB t = true := by
  obtain ⟨hv, h1⟩ := byB_iff.1 h
  have m := one_mv hv h1
  exact ⟨mdB_true hv m.modTri.1, mvB_true hv (m.mv hv)⟩

end Go.Proofs.Ytccbjgajmjcpjab
