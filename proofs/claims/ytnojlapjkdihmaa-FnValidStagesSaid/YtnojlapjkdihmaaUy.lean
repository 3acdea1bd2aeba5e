/-
  The exact laws' helpers for lists of rows: compared, marked.
-/
import Derived.Test.YtnojlapjkdihmaaUx
import Derived.Deep.RegionWith
namespace Go.Proofs.Ytnojlapjkdihmaa
open Go.RowKit

/-- What a call hands back: a bool; what was there is as it was. -/
def BelowB (w : World) (b : Bool) (e : Ending) (w' : World) : Prop := e = .returned (.bool b) ∧ Below w.heap.size w w'

theorem RowsU.nil (w : World) (B : Nat) : RowsU w B (.slice none 0 0) [] := ⟨World.ownsRow_nil _ _ _ _, fun _ h => absurd h (by simp), by simp⟩
theorem RowsU.shape {w : World} {B : Nat} {v : Value} {ps : List (Nat × Nat × List Int)} (h : RowsU w B v ps) :
    (ps = [] ∧ v = .slice none 0 0) ∨ ∃ g c, v = .slice (some ⟨g, 0, none⟩) ps.length c ∧ ∀ k p, ps[k]? = some p → w.cell? ⟨g, k, none⟩ = some (slU p) := by
  have hr := h.row
  rcases hr.2 with ⟨hv, hn⟩ | ⟨g, cap, cur, hv, _⟩
  · exact .inl ⟨List.eq_nil_of_length_eq_zero hn, hv⟩
  · subst hv
    refine .inr ⟨g, cap, rfl, fun k p hk => ?_⟩
    have := World.ownsRow.cellAt hr k (by have := (List.getElem?_eq_some_iff.1 hk).1; omega)
    rw [this, List.getElem?_map, hk]; rfl

/-- How many numbers the rows hold. -/
def numsU : List (Nat × Nat × List Int) → Nat
  | [] => 0
  | p :: ps => p.2.2.length + numsU ps
theorem numsU_snoc (ps : List (Nat × Nat × List Int)) (p : Nat × Nat × List Int) : numsU (ps ++ [p]) = numsU ps + p.2.2.length := by
  induction ps with
  | nil => simp [numsU]
  | cons q qs ih => simp [numsU, ih]; omega
theorem numsU_le {M : Nat} : ∀ (ps : List (Nat × Nat × List Int)), (∀ p ∈ ps, p.2.2.length ≤ M) → numsU ps ≤ ps.length * M
  | [], _ => by simp [numsU]
  | p :: ps, h => by
    have h1 := h p (by simp)
    have h2 := numsU_le ps (fun q hq => h q (by simp [hq]))
    simp only [numsU, List.length_cons, Nat.add_mul]
    omega
/-- The rows marked from k on. -/
def marksU (k : Int) : List (Nat × Nat × List Int) → List (Nat × Nat × List Int)
  | [] => []
  | p :: ps => (p.1, p.2.1, upF k p.2.2.length) :: marksU (k + p.2.2.length) ps
theorem marksU_len (ps : List (Nat × Nat × List Int)) : ∀ k : Int, (marksU k ps).length = ps.length := by
  induction ps with
  | nil => intro k; rfl
  | cons p ps ih => intro k; simp [marksU, ih]
theorem marksU_snoc (ps : List (Nat × Nat × List Int)) (p : Nat × Nat × List Int) : ∀ k : Int, marksU k (ps ++ [p]) = marksU k ps ++ [(p.1, p.2.1, upF (k + numsU ps) p.2.2.length)] := by
  induction ps with
  | nil => intro k; simp [marksU, numsU]
  | cons q qs ih => intro k; simp [marksU, ih, numsU, Int.add_assoc]

/-- One row turned, in its own block. -/
theorem RowsU.turn {w w' : World} {B : Nat} {v : Value} {qs rs : List (Nat × Nat × List Int)} {p : Nat × Nat × List Int} {zs : List Int} (h : RowsU w B v (qs ++ p :: rs)) (hz : zs.length = p.2.2.length)
    (ho : Own w' B (some ⟨p.1, 0, none⟩) p.2.1 zs) (hg : w.grownBy w' (some p.1)) : RowsU w' B v (qs ++ (p.1, p.2.1, zs) :: rs) := by
  have hn := h.nodup
  rw [List.map_append, List.map_cons, List.nodup_append, List.nodup_cons] at hn
  obtain ⟨h1, ⟨h2, h3⟩, h4⟩ := hn
  have hp := h.each p (by simp)
  refine ⟨?_, ?_, ?_⟩
  · have := h.row.kept hg (.inr (rowU_apart h.row hp))
    have e : (qs ++ (p.1, p.2.1, zs) :: rs).map slU = (qs ++ p :: rs).map slU := by simp [slU, hz]
    rw [e]
    simpa using this
  · intro q hq
    have hk : ∀ q : Nat × Nat × List Int, q ∈ qs ++ p :: rs → q.1 ≠ p.1 → Own w' B (some ⟨q.1, 0, none⟩) q.2.1 q.2.2 := fun q hq hne =>
      (h.each q hq).kept_ (A2 := some ⟨p.1, 0, none⟩) hg (.inr (fun e => hne (Option.some.inj e)))
    rcases List.mem_append.1 hq with hq | hq
    · exact hk q (by simp [hq]) (fun e => h4 q.1 (List.mem_map.2 ⟨q, hq, rfl⟩) p.1 (by simp) e)
    · rcases List.mem_cons.1 hq with rfl | hq
      · exact ho
      · exact hk q (by simp [hq]) (fun e => h2 (by rw [← e]; exact List.mem_map.2 ⟨q, hq, rfl⟩))
  · simpa using h.nodup

theorem RowsU.cell_at {w : World} {B g c n k : Nat} {ps : List (Nat × Nat × List Int)} {p : Nat × Nat × List Int} (h : RowsU w B (.slice (some ⟨g, 0, none⟩) n c) ps) (hk : ps[k]? = some p) : w.cell? ⟨g, k, none⟩ = some (slU p) := by
  have hr := h.row
  have hv := hr.2
  have e : n = ps.length := by
    rcases hv with ⟨hv, _⟩ | ⟨g', cap, cur, hv, _⟩
    · cases hv
    · injection hv
  subst e
  have := World.ownsRow.cellAt hr k (by have := (List.getElem?_eq_some_iff.1 hk).1; omega)
  rw [this, List.getElem?_map, hk]; rfl
theorem marksU_append (b : List (Nat × Nat × List Int)) : ∀ (a : List (Nat × Nat × List Int)) (k : Int), marksU k (a ++ b) = marksU k a ++ marksU (k + numsU a) b
  | [], k => by simp [marksU, numsU]
  | p :: a, k => by
    simp only [List.cons_append, marksU, numsU]
    rw [marksU_append b a]
    congr 2
    push_cast
    rw [Int.add_assoc]
theorem splitU_at {ps : List (Nat × Nat × List Int)} {j : Nat} {p : Nat × Nat × List Int} (hp : ps[j]? = some p) : ps = ps.take j ++ p :: ps.drop (j + 1) := by
  obtain ⟨hj, rfl⟩ := List.getElem?_eq_some_iff.1 hp
  rw [← List.drop_eq_getElem_cons hj, List.take_append_drop]
theorem marksU_at {ps : List (Nat × Nat × List Int)} {j : Nat} {p : Nat × Nat × List Int} (hp : ps[j]? = some p) (k : Int) : (marksU k ps)[j]? = some (p.1, p.2.1, upF (k + numsU (ps.take j)) p.2.2.length) := by
  have hj := (List.getElem?_eq_some_iff.1 hp).1
  conv => lhs; rw [splitU_at hp]
  rw [marksU_append, List.getElem?_append_right (by rw [marksU_len, List.length_take]; omega), marksU_len, List.length_take, Nat.min_eq_left (by omega), Nat.sub_self]
  rfl
theorem takeU_up {ps : List (Nat × Nat × List Int)} {j : Nat} {p : Nat × Nat × List Int} (hp : ps[j]? = some p) : ps.take (j + 1) = ps.take j ++ [p] := by rw [List.take_add_one, hp]; rfl
theorem numsU_append (a b : List (Nat × Nat × List Int)) : numsU (a ++ b) = numsU a + numsU b := by
  induction a with
  | nil => simp [numsU]
  | cons p a ih => simp only [List.cons_append, numsU, ih]; omega
theorem numsU_take (ps : List (Nat × Nat × List Int)) (j : Nat) : numsU (ps.take j) ≤ numsU ps := by
  have e := numsU_append (ps.take j) (ps.drop j)
  rw [List.take_append_drop] at e
  omega
theorem numsU_mem {ps : List (Nat × Nat × List Int)} {p : Nat × Nat × List Int} (h : p ∈ ps) : p.2.2.length ≤ numsU ps := by
  induction ps with
  | nil => cases h
  | cons q ps ih =>
    simp only [numsU]
    rcases List.mem_cons.1 h with rfl | h
    · omega
    · have := ih h; omega
theorem numsU_flat (ps : List (Nat × Nat × List Int)) : numsU ps = ((ps.map (·.2.2)).flatten).length := by
  induction ps with
  | nil => rfl
  | cons p ps ih => simp only [numsU, List.map_cons, List.flatten_cons, List.length_append, ih]

end Go.Proofs.Ytnojlapjkdihmaa
