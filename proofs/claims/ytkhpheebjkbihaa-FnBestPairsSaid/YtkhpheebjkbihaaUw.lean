/-
  The exact laws' helpers for lists of rows: sized, copied, compared, marked.
-/
import Derived.Test.YtkhpheebjkbihaaAp
import Derived.Test.YtkhpheebjkbihaaUc
namespace Go.Proofs.Ytkhpheebjkbihaa
open Go.RowKit

/-- The slice value of a row: its block, its capacity, its numbers. -/
def slU (p : Nat × Nat × List Int) : Value := .slice (some ⟨p.1, 0, none⟩) p.2.2.length p.2.1

/-- The slice value v holds the rows ps, it and each of them in a block of the call's own, from block B on, no two in one block. -/
structure RowsU (w : World) (B : Nat) (v : Value) (ps : List (Nat × Nat × List Int)) : Prop where
  row : w.ownsRow B 24 1 v ps.length (ps.map slU)
  each : ∀ p ∈ ps, Own w B (some ⟨p.1, 0, none⟩) p.2.1 p.2.2
  nodup : (ps.map (·.1)).Nodup

theorem rowU_apart {w : World} {B B' g c n : Nat} {v : Value} {vs : List Value} {zs : List Int} (hr : w.ownsRow B 24 1 v n vs) (ho : Own w B' (some ⟨g, 0, none⟩) c zs) : v.ownBlock ≠ some g := by
  intro e
  rcases hr.2 with ⟨rfl, _⟩ | ⟨g', cap, cur, rfl, _, hh, _⟩
  · simp [Value.ownBlock] at e
  · obtain rfl : g' = g := by simpa [Value.ownBlock] using e
    rcases ho.2 with ⟨hv, _⟩ | ⟨g2, cap2, cur2, hv2, _, hh2, _⟩
    · cases hv
    · injection hv2 with hA _ _
      injection hA with hA
      injection hA with hA
      subst hA
      rw [hh] at hh2
      cases hh2
theorem RowsU.below {w w' : World} {B : Nat} {v : Value} {ps : List (Nat × Nat × List Int)} (h : RowsU w B v ps) (hb : Below w.heap.size w w') : RowsU w' B v ps :=
  ⟨own_len h.row hb, fun p hp => (h.each p hp).below hb, h.nodup⟩
theorem RowsU.base {w : World} {B B' : Nat} {v : Value} {ps : List (Nat × Nat × List Int)} (h : RowsU w B v ps) (hB : B' ≤ B) : RowsU w B' v ps :=
  ⟨own_base h.row hB, fun p hp => (h.each p hp).base hB, h.nodup⟩
theorem RowsU.kept {w w' : World} {B : Nat} {v : Value} {ps : List (Nat × Nat × List Int)} (h : RowsU w B v ps) {r : Nat} (hg : w.grownBy w' (some r)) (hv : v.ownBlock ≠ some r) (hp : ∀ p ∈ ps, p.1 ≠ r) : RowsU w' B v ps :=
  ⟨h.row.kept hg (.inr hv), fun p hpp => (h.each p hpp).kept_ (A2 := some ⟨r, 0, none⟩) hg (.inr (fun e => hp p hpp (Option.some.inj e))), h.nodup⟩
/-- Own rows read as rows. -/
theorem RowsU.rdr {w : World} {B : Nat} {v : Value} {ps : List (Nat × Nat × List Int)} {rows : List (List Int)} (h : RowsU w B v ps) (hr : ps.map (·.2.2) = rows) : ∃ A c, v = .slice A rows.length c ∧ RdR w A c rows := by
  subst hr
  rw [List.length_map]
  rcases h.row.2 with ⟨hv, hn⟩ | ⟨g, cap, cur, hv, _, _, h1, _⟩
  · obtain rfl : ps = [] := List.eq_nil_of_length_eq_zero hn
    exact ⟨none, 0, hv, RdR.nil w⟩
  · refine ⟨some ⟨g, 0, none⟩, cap, hv, by simpa using h1, .inr ⟨g, 0, rfl, fun k r hk => ?_⟩⟩
    rw [List.getElem?_map] at hk
    cases hp : ps[k]? with
    | none => rw [hp] at hk; cases hk
    | some p =>
      rw [hp] at hk
      simp at hk
      subst hk
      subst hv
      have := World.ownsRow.cellAt h.row k (by have := (List.getElem?_eq_some_iff.1 hp).1; omega)
      have ho := h.each p (List.mem_of_getElem? hp)
      exact ⟨slU p, by rw [Nat.zero_add, this, List.getElem?_map, hp]; rfl, some ⟨p.1, 0, none⟩, p.2.1, rfl, ho.cap.1, ho.rd⟩

/-- How many there are, and how many numbers they hold. -/
def szR (rows : List (List Int)) : Nat := rows.length + rows.flatten.length

theorem flat_take {rows : List (List Int)} {k : Nat} {r : List Int} (hr : rows[k]? = some r) : (rows.take (k + 1)).flatten.length = (rows.take k).flatten.length + r.length := by
  rw [List.take_add_one, hr, List.flatten_append, List.length_append, Option.toList_some, List.flatten_cons, List.flatten_nil, List.append_nil]
theorem flat_le {rows : List (List Int)} (k : Nat) : (rows.take k).flatten.length ≤ rows.flatten.length := by
  have e : rows.flatten = (rows.take k).flatten ++ (rows.drop k).flatten := by rw [← List.flatten_append, List.take_append_drop]
  rw [e, List.length_append]; omega

end Go.Proofs.Ytkhpheebjkbihaa
