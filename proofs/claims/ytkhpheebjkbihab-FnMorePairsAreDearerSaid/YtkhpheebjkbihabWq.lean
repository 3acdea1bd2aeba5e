/-
  Chapter 4, the program: the contract of BestSplit.
-/
import Derived.Test.YtkhpheebjkbihabWo
import Derived.Test.YtkhpheebjkbihabNf
namespace Go.Proofs.Ytkhpheebjkbihab
open Go.RowKit Go.Shelf
attribute [local go_sem] Oper.semAt_some

theorem row_cells {w : World} {B e n r : Nat} {v : Value} {vs : List Value} (h : w.ownsRow B e 1 v n vs) (hv : v.ownBlock = some r) : ∃ o, w.heap[r]? = some o ∧ o.isCells = true := by
  rcases h.2 with ⟨rfl, _⟩ | ⟨g, cap, cur, rfl, _, hh, _⟩
  · simp [Value.ownBlock] at hv
  · obtain rfl : g = r := by simpa [Value.ownBlock] using hv
    exact ⟨_, hh, rfl⟩

/-- What the two boxes hold behind what is done: the best way's sets, and what they are worth. -/
def BoxI (ts : List (List Int)) (n R : Nat) (L : List (List Int)) (v : Value) (m : Int) (W : World) : Prop :=
  (L = [] ∧ v = .slice none 0 0 ∧ m = -1) ∨ ∃ b g c, bestA (worthF ts) L = some b ∧ v = .slice (some ⟨g, 0, none⟩) n c ∧ Own W R (some ⟨g, 0, none⟩) c (setsF b n) ∧ m = worthF ts b
theorem setsF_len' (os : List Int) (n : Nat) : (setsF os n).length = n := by simp [setsF]
theorem BoxI.kept {ts : List (List Int)} {n R : Nat} {L : List (List Int)} {v : Value} {m : Int} {A C : World} {r : Option Nat} (h : BoxI ts n R L v m A) (hg : A.grownBy C r) (hr : ∀ k, r = some k → k < R ∨ ∃ o, A.heap[k]? = some o ∧ o.isCells = false) : BoxI ts n R L v m C := by
  rcases h with h | ⟨b, g, c, h1, h2, h3, h4⟩
  · exact .inl h
  · refine .inr ⟨b, g, c, h1, h2, World.ownsRow.kept h3 hg (.inr fun e => ?_), h4⟩
    have e : some g = r := e
    rcases hr g e.symm with hr | ⟨o, ho, hc⟩
    · have := (World.ownsRow.lt h3 g rfl).1
      omega
    · obtain ⟨o', ho', hc'⟩ := row_cells h3 (r := g) rfl
      rw [ho] at ho'
      cases ho'
      rw [hc] at hc'
      cases hc'

/-- Where the loop over all ways stands. -/
structure BstI (W0 : World) (ts : List (List Int)) (n p R : Nat) (L : List (List Int)) (v : Value) (m : Int) (s : Option (List Int)) (W : World) : Prop where
  best : Boxed W p 27 v
  most : Boxed W (p + 1) 3 (.int .i64 m)
  at_ : BoxI ts n R L v m W
  done : DoneTo n L s
  below : Below p W0 W
theorem BstI.kept {W0 A C : World} {ts : List (List Int)} {n p R : Nat} {L : List (List Int)} {v : Value} {m : Int} {s : Option (List Int)} {r : Nat} (h : BstI W0 ts n p R L v m s A) (hp0 : p ≤ W0.heap.size) (hg : A.grownBy C (some r)) (hp : p + 1 < r)
    (hr : r < R ∨ ∃ o, A.heap[r]? = some o ∧ o.isCells = false) : BstI W0 ts n p R L v m s C :=
  ⟨h.best.kept hg (fun e => by cases e; omega), h.most.kept hg (fun e => by cases e; omega), h.at_.kept hg (fun k e => by cases e; exact hr), h.done, h.below.grown hg (Nat.le_trans hp0 h.below.size) (fun k e => by cases e; omega)⟩
theorem BstI.same {W0 A C : World} {ts : List (List Int)} {n p R : Nat} {L : List (List Int)} {v : Value} {m : Int} {s : Option (List Int)} (h : BstI W0 ts n p R L v m s A) (hb : Below A.heap.size A C) (hp0 : p ≤ W0.heap.size) : BstI W0 ts n p R L v m s C :=
  ⟨(hb.block _ h.best.lt).trans h.best, (hb.block _ h.most.lt).trans h.most, h.at_.kept (grown_of_below hb none) (fun k e => by cases e), h.done, h.below.trans (hb.mono (Nat.le_trans hp0 h.below.size))⟩
theorem BstI.skip {W0 A : World} {ts : List (List Int)} {n p R : Nat} {L : List (List Int)} {v : Value} {m : Int} {ys : List Int} (h : BstI W0 ts n p R L v m (some ys) A) (hv : ∀ t ∈ ts, VT t) (hf : Fit n 3 ys) (hw : ¬ m < worthF ts ys) : BstI W0 ts n p R (L ++ [ys]) v m (nextF ys n) A := by
  refine ⟨h.best, h.most, ?_, h.done.step hf, h.below⟩
  rcases h.at_ with ⟨_, _, h3⟩ | ⟨b, g, c, h1, h2, h3, h4⟩
  · have := (worthF_bd hv ys).1
    omega
  · exact .inr ⟨b, g, c, by rw [bestA_snoc, h1]; simp [pick, show ¬ worthF ts b < worthF ts ys by omega], h2, h3, h4⟩
theorem BoxI.take {W : World} {ts : List (List Int)} {n R : Nat} {L : List (List Int)} {v : Value} {m : Int} {ys : List Int} {g c : Nat} {C : World} (h : BoxI ts n R L v m W) (hw : m < worthF ts ys) (ho : Own C R (some ⟨g, 0, none⟩) c (setsF ys n)) :
    BoxI ts n R (L ++ [ys]) (.slice (some ⟨g, 0, none⟩) n c) (worthF ts ys) C := by
  refine .inr ⟨ys, g, c, ?_, rfl, ho, rfl⟩
  rcases h with ⟨h1, _⟩ | ⟨b, g, c, h1, h2, h3, h4⟩
  · rw [h1]; rfl
  · rw [bestA_snoc, h1]; simp [pick, show worthF ts b < worthF ts ys by omega]

/-- What BestSplit hands back: the sets, in a block of their own, and what they are worth; nil and -1 for others. -/
def BsIs (w : World) (ts : List (List Int)) (e : Ending) (w' : World) : Prop :=
  ∃ A c xs m, e = .returned (.tuple #[.slice A xs.length c, .int .i64 m]) ∧ Own w' w.heap.size A c xs ∧ Below w.heap.size w w' ∧ ((VTs ts ∧ xs = setsF (wayF ts) ts.length ∧ m = worthF ts (wayF ts)) ∨ (¬ VTs ts ∧ xs = [] ∧ m = -1))

end Go.Proofs.Ytkhpheebjkbihab
