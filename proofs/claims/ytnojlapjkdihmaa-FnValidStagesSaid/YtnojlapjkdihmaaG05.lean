/-
  Rows of ints in memory, wherever they lie: what reads as rows, and how it stays.
-/
import Derived.Test.YtnojlapjkdihmaaG01
import Derived.Deep.Matrix
import Derived.Test.YtnojlapjkdihmaaUb
namespace Go.Proofs.Ytnojlapjkdihmaa
open Go.RowKit

/-- A value that reads as a row. -/
def Row1 (w : World) (v : Value) (r : List Int) : Prop := ∃ (A : Option Addr) (c : Nat), v = .slice A r.length c ∧ r.length ≤ c ∧ Rd w A c r

/-- The slice (A, as long as rows, c) reads as rows of ints. -/
def RdR (w : World) (A : Option Addr) (c : Nat) (rows : List (List Int)) : Prop :=
  rows.length ≤ c ∧ ((rows = [] ∧ (A = none → c = 0)) ∨ ∃ b off, A = some ⟨b, off, none⟩ ∧ ∀ (k : Nat) (r : List Int), rows[k]? = some r → ∃ v, w.cell? ⟨b, off + k, none⟩ = some v ∧ Row1 w v r)

theorem Row1.below {w w' : World} {v : Value} {r : List Int} (h : Row1 w v r) (hb : Below w.heap.size w w') : Row1 w' v r := by
  obtain ⟨A, c, e, hc, hr⟩ := h
  exact ⟨A, c, e, hc, hr.below hb⟩
theorem RdR.below {w w' : World} {A : Option Addr} {c : Nat} {rows : List (List Int)} (h : RdR w A c rows) (hb : Below w.heap.size w w') : RdR w' A c rows := by
  refine ⟨h.1, ?_⟩
  rcases h.2 with h | ⟨b, off, rfl, hc⟩
  · exact .inl h
  · refine .inr ⟨b, off, rfl, fun k r hk => ?_⟩
    obtain ⟨v, hv, hr⟩ := hc k r hk
    exact ⟨v, (hb.cell (p := ⟨b, off + k, none⟩) (World.block_lt_of_cell? w _ hv)).trans hv, hr.below hb⟩
theorem RdR.drewN {w : World} {A : Option Addr} {c : Nat} {rows : List (List Int)} (h : RdR w A c rows) (n : Nat) : RdR (w.drewN n) A c rows := h
theorem RdR.nil (w : World) : RdR w none 0 [] := ⟨by simp, .inl ⟨rfl, fun _ => rfl⟩⟩

/-- Row k. -/
theorem RdR.at_ {w : World} {A : Option Addr} {c k : Nat} {rows : List (List Int)} (h : RdR w A c rows) (hk : k < rows.length) :
    ∃ b off r A' c', A = some ⟨b, off, none⟩ ∧ Hid (rows[k]? = some r) ∧ w.cell? ⟨b, off + k, none⟩ = some (.slice A' r.length c') ∧ Hid (r.length ≤ c') ∧ Hid (Rd w A' c' r) := by
  rcases h.2 with ⟨rfl, _⟩ | ⟨b, off, rfl, hc⟩
  · simp at hk
  · have e : rows[k]? = some rows[k] := List.getElem?_eq_getElem hk
    obtain ⟨v, hv, A', c', rfl, h1, h2⟩ := hc k _ e
    exact ⟨b, off, _, A', c', rfl, e, hv, h1, h2⟩
/-- Where the rows lie. -/
theorem RdR.open_ {w : World} {A : Option Addr} {c : Nat} {rows : List (List Int)} (h : RdR w A c rows) (h1 : 1 ≤ rows.length) :
    ∃ b off, A = some ⟨b, off, none⟩ ∧ rows.length ≤ c ∧ ∀ (k : Nat) (r : List Int), rows[k]? = some r → ∃ A' c', w.cell? ⟨b, off + k, none⟩ = some (.slice A' r.length c') ∧ r.length ≤ c' ∧ Rd w A' c' r := by
  rcases h.2 with ⟨rfl, _⟩ | ⟨b, off, rfl, hc⟩
  · simp at h1
  · refine ⟨b, off, rfl, h.1, fun k r hk => ?_⟩
    obtain ⟨v, hv, A', c', rfl, h1, h2⟩ := hc k r hk
    exact ⟨A', c', hv, h1, h2⟩
theorem RdR.take_ {w : World} {b off c c2 : Nat} {rows : List (List Int)} (h : RdR w (some ⟨b, off, none⟩) c rows) (m : Nat) (hc : min m rows.length ≤ c2) : RdR w (some ⟨b, off, none⟩) c2 (rows.take m) := by
  refine ⟨by simpa using hc, ?_⟩
  rcases h.2 with ⟨rfl, _⟩ | ⟨b', off', hA, hc⟩
  · exact .inl ⟨by simp, fun h => by cases h⟩
  · refine .inr ⟨b', off', hA, fun k r hk => hc k r ?_⟩
    rw [List.getElem?_take] at hk
    split at hk
    · exact hk
    · cases hk
theorem RdR.drop_ {w : World} {b off c c2 : Nat} {rows : List (List Int)} (h : RdR w (some ⟨b, off, none⟩) c rows) (m : Nat) (hc2 : rows.length - m ≤ c2) : RdR w (some ⟨b, off + m, none⟩) c2 (rows.drop m) := by
  refine ⟨by simpa using hc2, ?_⟩
  rcases h.2 with ⟨rfl, _⟩ | ⟨b', off', hA, hc⟩
  · exact .inl ⟨by simp, fun h => by cases h⟩
  · injection hA with hA; injection hA with h1 h2; subst h1; subst h2
    refine .inr ⟨_, _, rfl, fun k r hk => ?_⟩
    rw [List.getElem?_drop] at hk
    obtain ⟨v, hv, hr⟩ := hc _ r hk
    exact ⟨v, by rw [show off + m + k = off + (m + k) by omega]; exact hv, hr⟩

/-- Rows as a function. -/
def RW (rows : List (List Int)) (i : Nat) : List Int := rows.getD i []
theorem rw_of {rows : List (List Int)} {i : Nat} {r : List Int} (h : rows[i]? = some r) : RW rows i = r := by
  unfold RW; rw [List.getD_eq_getElem?_getD, h]; rfl
theorem rw_mem {rows : List (List Int)} {i : Nat} (h : i < rows.length) : RW rows i ∈ rows := by
  rw [rw_of (List.getElem?_eq_getElem h)]; simp

/-- Demands. -/
def VD (rows : List (List Int)) : Prop := (1 ≤ rows.length ∧ rows.length ≤ 4) ∧ ∀ r ∈ rows, RowOk r
theorem VD.good {rows : List (List Int)} (h : VD rows) : Good (RW rows) rows.length := fun _ hi => h.2 _ (rw_mem hi)

noncomputable def rowB (r : List Int) : Bool := @decide (RowOk r) (Classical.propDecidable _)
theorem rowB_true {r : List Int} (h : RowOk r) : rowB r = true := by unfold rowB; simp [h]
theorem rowB_false {r : List Int} (h : ¬ RowOk r) : rowB r = false := by unfold rowB; simp [h]
theorem rowB_iff {r : List Int} : rowB r = true ↔ RowOk r := by unfold rowB; simp
noncomputable def vdB (rows : List (List Int)) : Bool := @decide (VD rows) (Classical.propDecidable _)
theorem vdB_true {rows : List (List Int)} (h : VD rows) : vdB rows = true := by unfold vdB; simp [h]
theorem vdB_false {rows : List (List Int)} (h : ¬ VD rows) : vdB rows = false := by unfold vdB; simp [h]
theorem vdB_iff {rows : List (List Int)} : vdB rows = true ↔ VD rows := by unfold vdB; simp

/-- Of the first k numbers each is fine. -/
def okTo (r : List Int) (k : Nat) : Prop := ∀ (j : Nat) (x : Int), j < k → r[j]? = some x → 0 ≤ x ∧ x ≤ 30 ∧ ∀ y : Int, 0 < j → r[j - 1]? = some y → x ≤ y
theorem okTo_step {r : List Int} {k : Nat} {x : Int} (h : okTo r k) (hx : r[k]? = some x) (h0 : 0 ≤ x) (h1 : x ≤ 30) (h2 : ∀ y : Int, 0 < k → r[k - 1]? = some y → x ≤ y) : okTo r (k + 1) := by
  intro j z hj hz
  rcases Nat.lt_or_ge j k with hjk | hjk
  · exact h j z hjk hz
  · obtain rfl : j = k := by omega
    rw [hx] at hz; cases hz
    exact ⟨h0, h1, h2⟩
theorem okTo_zero (r : List Int) : okTo r 0 := fun j x hj => absurd hj (by omega)
theorem okTo_all {r : List Int} (h : okTo r r.length) (hl : r.length ≤ 5) : rowB r = true :=
  rowB_true (rowOk_of hl (fun k x hx => h k x (List.getElem?_eq_some_iff.1 hx).1 hx))
theorem okTo_out {r : List Int} {k : Nat} {x : Int} (hx : r[k]? = some x) (h : ¬ (0 ≤ x ∧ x ≤ 30)) : rowB r = false :=
  rowB_false (fun ho => h ⟨(ho.2 k x hx).1, (ho.2 k x hx).2.1⟩)
theorem okTo_more {r : List Int} {k : Nat} {x y : Int} (hx : r[k]? = some x) (hk : 0 < k) (hy : r[k - 1]? = some y) (h : y < x) : rowB r = false :=
  rowB_false (fun ho => by have := (ho.2 k x hx).2.2 (k - 1) y (by omega) hy; omega)
theorem okTo_long {r : List Int} (h : 5 < r.length) : rowB r = false := rowB_false (fun ho => by have := ho.1; omega)

theorem vd_no {rows : List (List Int)} {k : Nat} {r : List Int} (hr : rows[k]? = some r) (h : rowB r = false) : vdB rows = false :=
  vdB_false (fun ho => by
    have := rowB_true (ho.2 r (List.mem_of_getElem? hr))
    rw [h] at this; cases this)
theorem vd_len {rows : List (List Int)} (h : ¬ (1 ≤ rows.length ∧ rows.length ≤ 4)) : vdB rows = false := vdB_false (fun ho => h ho.1)
/-- Of the first k rows each is one. -/
def rowsTo (rows : List (List Int)) (k : Nat) : Prop := ∀ (j : Nat) (r : List Int), j < k → rows[j]? = some r → rowB r = true
theorem rowsTo_step {rows : List (List Int)} {k : Nat} {r : List Int} (h : rowsTo rows k) (hr : rows[k]? = some r) (hb : rowB r = true) : rowsTo rows (k + 1) := by
  intro j z hj hz
  rcases Nat.lt_or_ge j k with hjk | hjk
  · exact h j z hjk hz
  · obtain rfl : j = k := by omega
    rw [hr] at hz; cases hz
    exact hb
theorem rowsTo_zero (rows : List (List Int)) : rowsTo rows 0 := fun j r hj => absurd hj (by omega)
theorem rowsTo_all {rows : List (List Int)} (h : rowsTo rows rows.length) (hl : 1 ≤ rows.length ∧ rows.length ≤ 4) : vdB rows = true :=
  vdB_true ⟨hl, fun r hr => by
    obtain ⟨k, hk, rfl⟩ := List.getElem_of_mem hr
    exact rowB_iff.1 (h k _ hk (List.getElem?_eq_getElem hk))⟩

end Go.Proofs.Ytnojlapjkdihmaa

/-
  The exact laws' helpers for lists of rows: sized, copied, compared, marked.
-/
namespace Go.Proofs.Ytnojlapjkdihmaa
open Go.RowKit

/-- The slice value of a row: its block, its capacity, its numbers. -/
def slU (p : Nat × Nat × List Int) : Value := .slice (some ⟨p.1, 0, none⟩) p.2.2.length p.2.1

/-- The slice value v holds the rows ps, it and each of them in a block of the call's own, from block B on, no two in one block. -/
structure RowsU (w : World) (B : Nat) (v : Value) (ps : List (Nat × Nat × List Int)) : Prop where
  row : w.ownsRow B 24 1 v ps.length (ps.map slU)
  each : ∀ p ∈ ps, Own w B (some ⟨p.1, 0, none⟩) p.2.1 p.2.2
  nodup : (ps.map (·.1)).Nodup

theorem rowU_apart {w : World} {B B' g c n : Nat} {v : Value} {vs : List Value} {zs : List Int} (hr : w.ownsRow B 24 1 v n vs) (ho : Own w B' (some ⟨g, 0, none⟩) c zs) : v.ownBlock ≠ some g := by
  intro e
  rcases hr.2 with ⟨rfl, _⟩ | ⟨g', cap, cur, rfl, _, hh, _⟩
  · simp [Value.ownBlock] at e
  · obtain rfl : g' = g := by simpa [Value.ownBlock] using e
    rcases ho.2 with ⟨hv, _⟩ | ⟨g2, cap2, cur2, hv2, _, hh2, _⟩
    · cases hv
    · injection hv2 with hA _ _
      injection hA with hA
      injection hA with hA
      subst hA
      rw [hh] at hh2
      cases hh2
theorem RowsU.below {w w' : World} {B : Nat} {v : Value} {ps : List (Nat × Nat × List Int)} (h : RowsU w B v ps) (hb : Below w.heap.size w w') : RowsU w' B v ps :=
  ⟨own_len h.row hb, fun p hp => (h.each p hp).below hb, h.nodup⟩
theorem RowsU.base {w : World} {B B' : Nat} {v : Value} {ps : List (Nat × Nat × List Int)} (h : RowsU w B v ps) (hB : B' ≤ B) : RowsU w B' v ps :=
  ⟨own_base h.row hB, fun p hp => (h.each p hp).base hB, h.nodup⟩
theorem RowsU.kept {w w' : World} {B : Nat} {v : Value} {ps : List (Nat × Nat × List Int)} (h : RowsU w B v ps) {r : Nat} (hg : w.grownBy w' (some r)) (hv : v.ownBlock ≠ some r) (hp : ∀ p ∈ ps, p.1 ≠ r) : RowsU w' B v ps :=
  ⟨h.row.kept hg (.inr hv), fun p hpp => (h.each p hpp).kept_ (A2 := some ⟨r, 0, none⟩) hg (.inr (fun e => hp p hpp (Option.some.inj e))), h.nodup⟩
/-- Own rows read as rows. -/
theorem RowsU.rdr {w : World} {B : Nat} {v : Value} {ps : List (Nat × Nat × List Int)} {rows : List (List Int)} (h : RowsU w B v ps) (hr : ps.map (·.2.2) = rows) : ∃ A c, v = .slice A rows.length c ∧ RdR w A c rows := by
  subst hr
  rw [List.length_map]
  rcases h.row.2 with ⟨hv, hn⟩ | ⟨g, cap, cur, hv, _, _, h1, _⟩
  · obtain rfl : ps = [] := List.eq_nil_of_length_eq_zero hn
    exact ⟨none, 0, hv, RdR.nil w⟩
  · refine ⟨some ⟨g, 0, none⟩, cap, hv, by simpa using h1, .inr ⟨g, 0, rfl, fun k r hk => ?_⟩⟩
    rw [List.getElem?_map] at hk
    cases hp : ps[k]? with
    | none => rw [hp] at hk; cases hk
    | some p =>
      rw [hp] at hk
      simp at hk
      subst hk
      subst hv
      have := World.ownsRow.cellAt h.row k (by have := (List.getElem?_eq_some_iff.1 hp).1; omega)
      have ho := h.each p (List.mem_of_getElem? hp)
      exact ⟨slU p, by rw [Nat.zero_add, this, List.getElem?_map, hp]; rfl, some ⟨p.1, 0, none⟩, p.2.1, rfl, ho.cap.1, ho.rd⟩

/-- How many there are, and how many numbers they hold. -/
def szR (rows : List (List Int)) : Nat := rows.length + rows.flatten.length

theorem flat_take {rows : List (List Int)} {k : Nat} {r : List Int} (hr : rows[k]? = some r) : (rows.take (k + 1)).flatten.length = (rows.take k).flatten.length + r.length := by
  rw [List.take_add_one, hr, List.flatten_append, List.length_append, Option.toList_some, List.flatten_cons, List.flatten_nil, List.append_nil]
theorem flat_le {rows : List (List Int)} (k : Nat) : (rows.take k).flatten.length ≤ rows.flatten.length := by
  have e : rows.flatten = (rows.take k).flatten ++ (rows.drop k).flatten := by rw [← List.flatten_append, List.take_append_drop]
  rw [e, List.length_append]; omega

end Go.Proofs.Ytnojlapjkdihmaa
