/-
  Chapter 3: the contracts of WorthOf, of the program and of the model.
-/
import Derived.Test.YtkkdffmpeadinabUi
namespace Go.Proofs.Ytkkdffmpeadinab
open Go.RowKit

theorem good_map {qs : List (Option Addr × Nat × List Int)} {rows : List (List Int)} {n : Nat} (h : qs.map (·.2.2) = rows) (hn : qs.length = n) (hg : Good (RW rows) n) : Good (RW (qs.map (·.2.2))) qs.length := by
  subst h hn; exact hg

/-- What WorthOf hands back. -/
noncomputable def woF (rows : List (List Int)) (k : Int) : Int := if fuB rows k = true then bst (RW rows) rows.length k.toNat else -1
theorem fuB_iff {rows : List (List Int)} {k : Int} : fuB rows k = true ↔ VD rows ∧ 0 ≤ k ∧ k ≤ 5 := by
  unfold fuB; rw [Bool.and_eq_true, vdB_iff, inR_true]

end Go.Proofs.Ytkkdffmpeadinab
