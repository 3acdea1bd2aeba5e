/-
  Rows of numbers that are drawn: one more, one in place of another.
-/
import Derived.Test.YtccbjgajmjcpjaaGU
import Derived.Test.YtccbjgajmjcpjaaGD
namespace Go.Proofs.Ytccbjgajmjcpjaa
open Go.RowKit

theorem RowsU.more {w w1 : World} {B : Nat} {v v' : Value} {ps : List (Nat × Nat × List Int)} {p : Nat × Nat × List Int} {tmp : Obj} (h : RowsU w B v ps) (ho : Own w B (some ⟨p.1, 0, none⟩) p.2.1 p.2.2) (hn : p.1 ∉ ps.map (·.1))
    (hown : w1.ownsRow B 24 1 v' (ps.length + 1) (ps.map slU ++ [slU p])) (hg : (w.alloc tmp).grownBy w1 v.ownBlock) : RowsU w1 B v' (ps ++ [p]) := by
  have hk : ∀ q : Nat × Nat × List Int, Own w B (some ⟨q.1, 0, none⟩) q.2.1 q.2.2 → Own w1 B (some ⟨q.1, 0, none⟩) q.2.1 q.2.2 := by
    intro q hq
    have h1 := World.ownsRow.kept (show (w.alloc tmp).ownsRow B 3 1 _ _ _ from hq.below ((Below.refl _ w).alloc (Nat.le_refl _) tmp)) hg (.inr (by
      have := rowU_apart h.row hq
      simp only [Value.ownBlock]
      exact fun e => this e.symm))
    exact h1
  refine ⟨by simpa using hown, ?_, ?_⟩
  · intro q hq
    rcases List.mem_append.1 hq with hq | hq
    · exact hk q (h.each q hq)
    · obtain rfl : q = p := by simpa using hq
      exact hk q ho
  · rw [List.map_append, List.nodup_append]
    refine ⟨h.nodup, by simp, ?_⟩
    intro a ha b hb hab
    simp at hb
    subst hb hab
    exact hn ha
/-- The first row another. -/
theorem RowsU.put {w : World} {B g c : Nat} {p q : Nat × Nat × List Int} {rs : List (Nat × Nat × List Int)} (h : RowsU w B (.slice (some ⟨g, 0, none⟩) (p :: rs).length c) (p :: rs)) (ho : Own w B (some ⟨q.1, 0, none⟩) q.2.1 q.2.2) (hn : q.1 ∉ (p :: rs).map (·.1)) :
    RowsU (w.setCell ⟨g, 0, none⟩ (slU q)) B (.slice (some ⟨g, 0, none⟩) (p :: rs).length c) (q :: rs) := by
  have hst := World.ownsRow.stored h.row 0 (slU q)
  have hap : ∀ r : Nat × Nat × List Int, Own w B (some ⟨r.1, 0, none⟩) r.2.1 r.2.2 → Own (w.setCell ⟨g, 0, none⟩ (slU q)) B (some ⟨r.1, 0, none⟩) r.2.1 r.2.2 := fun r hr => by
    have := rowU_apart h.row hr
    exact hr.kept_ (A2 := some ⟨g, 0, none⟩) hst.2 (.inr (fun e => this e.symm))
  refine ⟨by simpa using hst.1, fun r hr => ?_, ?_⟩
  · rcases List.mem_cons.1 hr with rfl | hr
    · exact hap _ ho
    · exact hap _ (h.each r (by simp [hr]))
  · have h1 := h.nodup
    rw [List.map_cons, List.nodup_cons] at h1 ⊢
    exact ⟨fun hm => hn (by rw [List.map_cons]; exact List.mem_cons_of_mem _ hm), h1.2⟩
theorem RowsU.ask {w w' : World} {rb B : Nat} {v : Value} {ps : List (Nat × Nat × List Int)} (h : RowsU w B v ps) (hg : w.grownBy w' (some rb)) (hB : rb < B) : RowsU w' B v ps :=
  h.kept hg (fun e => by have := (World.ownsRow.lt h.row rb e).1; omega) (fun p hp e => by have := (h.each p hp).ge; omega)
theorem RowsU.notIn {w w0 : World} {B B' g c : Nat} {v : Value} {zs : List Int} {ps : List (Nat × Nat × List Int)} (h : RowsU w0 B v ps) (hs : w0.heap.size ≤ B') (ho : Own w B' (some ⟨g, 0, none⟩) c zs) : g ∉ ps.map (·.1) := by
  intro hg
  obtain ⟨p, hp, rfl⟩ := List.mem_map.1 hg
  have h1 := (h.each p hp).lt
  have h2 := ho.ge
  omega
theorem RowsU.one {w : World} {B : Nat} {v : Value} {ps : List (Nat × Nat × List Int)} (h : RowsU w B v ps) (hp : 1 ≤ ps.length) : ∃ g c, v = .slice (some ⟨g, 0, none⟩) ps.length c := by
  rcases h.shape with ⟨rfl, _⟩ | ⟨g, c, hv, _⟩
  · simp at hp
  · exact ⟨g, c, hv⟩

theorem rowr_empty (w : World) : (w.alloc (.cells #[] 24)).ownsRow w.heap.size 24 1 (.slice (some ⟨w.heap.size, 0, none⟩) 0 0) 0 [] := World.ownsRow_lit w #[] 0 (Nat.le_refl _) (Nat.zero_le _) rfl
theorem rowsU_empty (w : World) : RowsU (w.alloc (.cells #[] 24)) w.heap.size (.slice (some ⟨w.heap.size, 0, none⟩) 0 0) [] := ⟨rowr_empty w, fun _ h => absurd h (by simp), by simp⟩

theorem Own.alloc_ {w : World} {B : Nat} {A : Option Addr} {c : Nat} {xs : List Int} (h : Own w B A c xs) (o : Obj) : Own (w.alloc o) B A c xs := World.ownsRow.alloc h o

end Go.Proofs.Ytccbjgajmjcpjaa
