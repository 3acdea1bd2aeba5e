/-
  Lists of slices of ints in the call's own blocks.
-/
import Derived.Test.YtcbhjcbbjegmiaaRestD
import Derived.RangeFuncBox
namespace Go.Proofs.Ytcbhjcbbjegmiaa
open Go.RowKit

/-- The slice value of a row: its block, its capacity, its numbers. -/
def slOf (p : Nat × Nat × List Int) : Value := .slice (some ⟨p.1, 0, none⟩) p.2.2.length p.2.1

/-- The slice value v holds the rows ps, it and each of them in a block of the call's own, from block B on, no two in one block. -/
structure RowsIn (w : World) (B : Nat) (v : Value) (ps : List (Nat × Nat × List Int)) : Prop where
  row : w.ownsRow B 23 1 v ps.length (ps.map slOf)
  each : ∀ p ∈ ps, Own w B (some ⟨p.1, 0, none⟩) p.2.1 p.2.2
  nodup : (ps.map (·.1)).Nodup

theorem ints_info : (Try.prog.info? 23).map (fun i => (i.zero, i.size, i.bytes)) = some (some (.slice none 0 0), 1, 24) := by kernel_rfl

theorem row_apart {w : World} {B B' g c n : Nat} {v : Value} {vs : List Value} {zs : List Int} (hr : w.ownsRow B 23 1 v n vs) (ho : Own w B' (some ⟨g, 0, none⟩) c zs) : v.ownBlock ≠ some g := by
  intro e
  rcases hr.2 with ⟨rfl, _⟩ | ⟨g', cap, cur, rfl, _, hh, _⟩
  · simp [Value.ownBlock] at e
  · obtain rfl : g' = g := by simpa [Value.ownBlock] using e
    rcases ho.2 with ⟨hv, _⟩ | ⟨g2, cap2, cur2, hv2, _, hh2, _⟩
    · cases hv
    · injection hv2 with hA _ _
      injection hA with hA
      injection hA with hA
      subst hA
      rw [hh] at hh2
      cases hh2

theorem RowsIn.nil (w : World) (B : Nat) : RowsIn w B (.slice none 0 0) [] := ⟨World.ownsRow_nil _ _ _ _, fun _ h => absurd h (by simp), by simp⟩

theorem RowsIn.below {w w' : World} {B : Nat} {v : Value} {ps : List (Nat × Nat × List Int)} (h : RowsIn w B v ps) (hb : Below w.heap.size w w') : RowsIn w' B v ps :=
  ⟨own_len h.row hb, fun p hp => (h.each p hp).below hb, h.nodup⟩
theorem RowsIn.kept {w w' : World} {B : Nat} {v : Value} {ps : List (Nat × Nat × List Int)} (h : RowsIn w B v ps) {r : Nat} (hg : w.grownBy w' (some r)) (hv : v.ownBlock ≠ some r) (hp : ∀ p ∈ ps, p.1 ≠ r) : RowsIn w' B v ps :=
  ⟨h.row.kept hg (.inr hv), fun p hpp => (h.each p hpp).kept_ (A2 := some ⟨r, 0, none⟩) hg (.inr (fun e => hp p hpp (Option.some.inj e))), h.nodup⟩

/-- A row more. -/
theorem RowsIn.more {w w1 : World} {B : Nat} {v v' : Value} {ps : List (Nat × Nat × List Int)} {p : Nat × Nat × List Int} {tmp : Obj} (h : RowsIn w B v ps) (ho : Own w B (some ⟨p.1, 0, none⟩) p.2.1 p.2.2) (hn : p.1 ∉ ps.map (·.1))
    (hown : w1.ownsRow B 23 1 v' (ps.length + 1) (ps.map slOf ++ [slOf p])) (hg : (w.alloc tmp).grownBy w1 v.ownBlock) : RowsIn w1 B v' (ps ++ [p]) := by
  have hk : ∀ q : Nat × Nat × List Int, Own w B (some ⟨q.1, 0, none⟩) q.2.1 q.2.2 → Own w1 B (some ⟨q.1, 0, none⟩) q.2.1 q.2.2 := by
    intro q hq
    have h1 := World.ownsRow.kept (show (w.alloc tmp).ownsRow B 3 1 _ _ _ from hq.below ((Below.refl _ w).alloc (Nat.le_refl _) tmp)) hg (.inr (by
      have := row_apart h.row hq
      simp only [Value.ownBlock]
      exact fun e => this e.symm))
    exact h1
  refine ⟨by simpa using hown, ?_, ?_⟩
  · intro q hq
    rcases List.mem_append.1 hq with hq | hq
    · exact hk q (h.each q hq)
    · obtain rfl : q = p := by simpa using hq
      exact hk q ho
  · rw [List.map_append, List.nodup_append]
    refine ⟨h.nodup, by simp, ?_⟩
    intro a ha b hb hab
    simp at hb
    subst hb hab
    exact hn ha

/-- What is rested at. -/
def restsF (kd : Nat) (vals : List Int) (n top : Nat) : List (List Int) := (allF top (List.replicate n 0)).filter (fun b => restF kd vals b top)
/-- What of the bids from ys on is rested at, behind what is done. -/
def RestsAt (kd : Nat) (vals : List Int) (n top : Nat) (done : List (List Int)) : Option (List Int) → Prop
  | some ys => restsF kd vals n top = done ++ (allF top ys).filter (fun b => restF kd vals b top)
  | none => restsF kd vals n top = done
theorem RestsAt.yes {kd n top : Nat} {vals ys : List Int} {done : List (List Int)} (h : RestsAt kd vals n top done (some ys)) (hf : Fit top n ys) (hr : restF kd vals ys top = true) : RestsAt kd vals n top (done ++ [ys]) (nextF ys top) := by
  have h : restsF kd vals n top = _ := h
  cases hn : nextF ys top with
  | none => rw [allF_last hn] at h; simp [hr] at h; exact h
  | some zs => rw [allF_next (by omega) hf.2 hn] at h; simp [hr] at h; show restsF kd vals n top = _; rw [h]; simp
theorem RestsAt.no {kd n top : Nat} {vals ys : List Int} {done : List (List Int)} (h : RestsAt kd vals n top done (some ys)) (hf : Fit top n ys) (hr : restF kd vals ys top = false) : RestsAt kd vals n top done (nextF ys top) := by
  have h : restsF kd vals n top = _ := h
  cases hn : nextF ys top with
  | none => rw [allF_last hn] at h; simp [hr] at h; exact h
  | some zs => rw [allF_next (by omega) hf.2 hn] at h; simp [hr] at h; exact h

end Go.Proofs.Ytcbhjcbbjegmiaa
