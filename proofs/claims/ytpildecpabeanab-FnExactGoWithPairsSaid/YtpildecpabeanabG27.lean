/-
  Chapter 4: both sides of BestSplit.
-/
import Derived.Test.YtpildecpabeanabG26
import Derived.Test.YtpildecpabeanabOj
namespace Go.Proofs.Ytpildecpabeanab
open Go.RowKit

/-- What is handed back: numbers in a block of their own, and a number. -/
def PlIs (w : World) (zs : List Int) (m : Int) (e : Ending) (w' : World) : Prop :=
  ∃ A c, e = .returned (.tuple #[.slice A zs.length c, .int .i64 m]) ∧ Own w' w.heap.size A c zs ∧ Below w.heap.size w w'
open Classical in
/-- The sets of the best split, nil for others. -/
noncomputable def bsF (ts : List (List Int)) : List Int := if VTs ts then setsF (wayF ts) ts.length else []
open Classical in
/-- What they are worth, -1 for others. -/
noncomputable def bwF (ts : List (List Int)) : Int := if VTs ts then worthF ts (wayF ts) else -1
theorem BsIs.pl {w : World} {ts : List (List Int)} {e : Ending} {w' : World} (h : BsIs w ts e w') : PlIs w (bsF ts) (bwF ts) e w' := by
  obtain ⟨A, c, xs, m, rfl, ho, hb, h | h⟩ := h
  · obtain ⟨h1, rfl, rfl⟩ := h
    unfold bsF bwF
    rw [if_pos h1, if_pos h1]
    exact ⟨A, c, rfl, ho, hb⟩
  · obtain ⟨h1, rfl, rfl⟩ := h
    unfold bsF bwF
    rw [if_neg h1, if_neg h1]
    exact ⟨A, c, rfl, ho, hb⟩
theorem bsF_len (ts : List (List Int)) : (bsF ts).length ≤ 1000 := by
  unfold bsF
  split
  · rename_i h
    rw [setsF_len']; have := h.1.2; omega
  · simp
end Go.Proofs.Ytpildecpabeanab

/-
  Chapter 8: BestPairs of the model and of the program.
-/
namespace Go.Proofs.Ytpildecpabeanab
open Go.RowKit

open Classical in
/-- Who has what, nil for others, and the sum. -/
noncomputable def bpL (rows : List (List Int)) : List Int := if VR rows then nl (pb rows 0).2 else []
open Classical in
noncomputable def bpS (rows : List (List Int)) : Int := if VR rows then (pb rows 0).1 else -1
theorem bp_yes {rows : List (List Int)} (h : VR rows) : bpL rows = nl (pb rows 0).2 ∧ bpS rows = (pb rows 0).1 := by simp [bpL, bpS, h]
theorem bp_no {rows : List (List Int)} (h : ¬ VR rows) : bpL rows = [] ∧ bpS rows = -1 := by simp [bpL, bpS, h]

theorem row_set {w : World} {B T sz n : Nat} {v : Value} {xs : List Value} (h : w.ownsRow B T sz v n xs) {p : Addr} (u : Value) (hne : v.ownBlock ≠ some p.block) : (w.setCell p u).ownsRow B T sz v n xs := by
  refine ⟨h.1, ?_⟩
  rcases h.2 with h2 | ⟨g, cap, cur, hv, hg, hh, r⟩
  · exact .inl h2
  · refine .inr ⟨g, cap, cur, hv, hg, (Below.heap_setCell _ _ _ _ (fun e => hne ?_)).trans hh, r⟩
    rw [hv, e]; rfl
theorem prs_len : ∀ (rows : List (List Int)) (js : List Nat), js.length = rows.length → (prs rows js).length = rows.length := by
  intro rows
  induction rows with
  | nil => intro js _; rfl
  | cons r rs ih =>
    intro js hj
    cases js with
    | nil => simp at hj
    | cons j js => simp only [prs, List.length_cons]; rw [ih js (by simpa using hj)]
theorem prs_at : ∀ (rows : List (List Int)) (js : List Nat) (i : Nat) (t : Int × Int), (prs rows js)[i]? = some t → (nl js)[i]? = some t.1 ∧ t.2 = (rows.getD i []).getD (js.getD i 0) 0 := by
  intro rows
  induction rows with
  | nil => intro js i t h; simp [prs] at h
  | cons r rs ih =>
    intro js i t h
    cases js with
    | nil => simp [prs] at h
    | cons j js =>
      cases i with
      | zero =>
        simp only [prs, List.getElem?_cons_zero, Option.some.injEq] at h
        subst h
        simp [nl]
      | succ i =>
        simp only [prs, List.getElem?_cons_succ] at h
        have := ih js i t h
        simpa [nl] using this

theorem bpL_len (rows : List (List Int)) : (bpL rows).length ≤ 1000 := by
  by_cases h : VR rows
  · rw [(bp_yes h).1, nl_len, pb_len h.rk.1 0]; have := h.1.2; omega
  · rw [(bp_no h).1]; simp
end Go.Proofs.Ytpildecpabeanab
