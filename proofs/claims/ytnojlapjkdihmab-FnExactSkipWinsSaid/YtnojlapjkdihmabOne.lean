/-
  Chapter 1, bids: the contracts of ValidBids, of the program and of the model, and of what they call.
-/
import Derived.Test.YtnojlapjkdihmabMem
namespace Go.Proofs.Ytnojlapjkdihmab
open Go.RowKit

/-- A number in a range. -/
def inR (n lo hi : Int) : Bool := decide (lo ≤ n) && decide (n ≤ hi)
theorem inR_true {n lo hi : Int} : inR n lo hi = true ↔ lo ≤ n ∧ n ≤ hi := by simp [inR]
theorem inR_false {n lo hi : Int} : inR n lo hi = false ↔ ¬ (lo ≤ n ∧ n ≤ hi) := by simp [inR]

/-- Numbers are bids. -/
def vB (xs : List Int) : Bool := inR xs.length 1 6 && xs.all (fun x => inR x 0 30)

theorem inRange_any (n lo hi : Int) (w : World) :
    Calls Try.prog 45 #[.int .i64 n, .int .i64 lo, .int .i64 hi] w fun e w' => e = .returned (.bool (inR n lo hi)) ∧ w = w' := by
  by_cases h1 : lo ≤ n
  · by_cases h2 : n ≤ hi
    · have HE := Lib.hid (inR_true.2 ⟨h1, h2⟩)
      go_enter Try.func45, Try.ntmps45
      go_wp2
      go_ret
      exact ⟨by rw [HE.out]; rfl, rfl⟩
    · have HE := Lib.hid (inR_false.2 (fun h : lo ≤ n ∧ n ≤ hi => h2 h.2))
      go_enter Try.func45, Try.ntmps45
      go_wp2
      go_ret
      exact ⟨by rw [HE.out]; rfl, rfl⟩
  · have HE := Lib.hid (inR_false.2 (fun h : lo ≤ n ∧ n ≤ hi => h1 h.1))
    go_enter Try.func45, Try.ntmps45
    go_wp2
    go_ret
    exact ⟨by rw [HE.out]; rfl, rfl⟩

theorem all_at {xs : List Int} {p : Int → Bool} {k : Nat} {x : Int} (hx : xs[k]? = some x) (h : p x = false) : xs.all p = false := by
  rw [List.all_eq_false]
  exact ⟨x, List.mem_of_getElem? hx, by simp [h]⟩
theorem all_step {xs : List Int} {p : Int → Bool} {k : Nat} {x : Int} (hx : xs[k]? = some x) (h : p x = true) (ht : (xs.take k).all p = true) : (xs.take (k + 1)).all p = true := by
  rw [List.take_add_one, hx]; simp at ht ⊢; exact ⟨ht, h⟩
theorem vB_bad {xs : List Int} (h : xs.all (fun x => inR x 0 30) = false) : vB xs = false := by simp only [vB, h, Bool.and_false]
theorem vB_all {xs : List Int} (h : (xs.take xs.length).all (fun x => inR x 0 30) = true) : vB xs = inR xs.length 1 6 := by
  rw [List.take_length] at h; simp only [vB, h, Bool.and_true]
theorem vB_len {xs : List Int} (h : inR xs.length 1 6 = false) : vB xs = false := by simp only [vB, h, Bool.false_and]

end Go.Proofs.Ytnojlapjkdihmab
