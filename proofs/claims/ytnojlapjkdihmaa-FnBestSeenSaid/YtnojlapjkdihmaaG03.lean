/-
  The exact laws' helpers for lists of rows: copied.
-/
import Derived.Test.YtnojlapjkdihmaaG02
import Derived.Deep.RegionWith
namespace Go.Proofs.Ytnojlapjkdihmaa
open Go.RowKit

/-- 'make([][]int, n)': n nil rows in a block of the call's own. -/
theorem wpList_make_rows {ops : Array Oper} {rest : List Oper} {o : Oper} {a : Act} {w : World} {Q : Exit → Act → World → Prop} (hg : o.guard = none) (l c : Operand)
    (hop : o.op = Op.makeSlice 23 l c) (base n : Nat) (hl : a.eval l = .int .i64 (n : Int)) (hc : a.eval c = .int .i64 (n : Int)) (hn : n ≤ 1099511627776) (hb : base ≤ w.heap.size)
    (hK : ∀ w', w'.ownsRow base 24 1 (.slice (some ⟨w.heap.size, 0, none⟩) n n) n (List.replicate n (.slice none 0 0)) → Below base w w' → wpList Try.prog ops Q rest (a.put o.dst (.slice (some ⟨w.heap.size, 0, none⟩) n n)) w') :
    wpList Try.prog ops Q (o :: rest) a w := by
  obtain ⟨i0, hi, hz0, hz1, hz2⟩ := info_parts intsU_info
  refine wpList_make_full w hg l c 23 hop base 24 i0 (.slice none 0 0) 1 Try.underlying23 hi hz0 hz1 .i64 .i64 n n n hl hc rfl rfl (by rw [hz2]; omega) (by unfold maxLen; omega) hb ?_
  intro w' h1 h2
  refine hK w' ?_ ((Below.refl base w).grown h2 hb (fun k h => by cases h))
  simpa [toList_madeCells_one, Value.cells] using h1

/-- What toIntSS hands back: own rows. -/
def RowsIs (w : World) (rows : List (List Int)) (e : Ending) (w' : World) : Prop :=
  ∃ v ps, e = .returned v ∧ RowsU w' w.heap.size v ps ∧ ps.map (·.2.2) = rows ∧ Below w.heap.size w w'

theorem part_set {ps : List (Nat × Nat × List Int)} {p : Nat × Nat × List Int} {n k : Nat} (hk : ps.length = k) (hkn : k < n) :
    (ps.map slU ++ List.replicate (n - k) (Value.slice none 0 0)).set k (slU p) = (ps ++ [p]).map slU ++ List.replicate (n - (k + 1)) (Value.slice none 0 0) := by
  subst hk
  obtain ⟨m, hm⟩ : ∃ m, n - ps.length = m + 1 := ⟨n - ps.length - 1, by omega⟩
  rw [hm, show n - (ps.length + 1) = m by omega, List.set_append, if_neg (by rw [List.length_map]; omega), List.length_map, Nat.sub_self, List.replicate_succ, List.set_cons_zero, List.map_append]
  simp

end Go.Proofs.Ytnojlapjkdihmaa

/-
  The exact laws' helpers for lists of rows: compared, marked.
-/
namespace Go.Proofs.Ytnojlapjkdihmaa
open Go.RowKit

/-- What a call hands back: a bool; what was there is as it was. -/
def BelowB (w : World) (b : Bool) (e : Ending) (w' : World) : Prop := e = .returned (.bool b) ∧ Below w.heap.size w w'

theorem RowsU.nil (w : World) (B : Nat) : RowsU w B (.slice none 0 0) [] := ⟨World.ownsRow_nil _ _ _ _, fun _ h => absurd h (by simp), by simp⟩
theorem RowsU.shape {w : World} {B : Nat} {v : Value} {ps : List (Nat × Nat × List Int)} (h : RowsU w B v ps) :
    (ps = [] ∧ v = .slice none 0 0) ∨ ∃ g c, v = .slice (some ⟨g, 0, none⟩) ps.length c ∧ ∀ k p, ps[k]? = some p → w.cell? ⟨g, k, none⟩ = some (slU p) := by
  have hr := h.row
  rcases hr.2 with ⟨hv, hn⟩ | ⟨g, cap, cur, hv, _⟩
  · exact .inl ⟨List.eq_nil_of_length_eq_zero hn, hv⟩
  · subst hv
    refine .inr ⟨g, cap, rfl, fun k p hk => ?_⟩
    have := World.ownsRow.cellAt hr k (by have := (List.getElem?_eq_some_iff.1 hk).1; omega)
    rw [this, List.getElem?_map, hk]; rfl

/-- How many numbers the rows hold. -/
def numsU : List (Nat × Nat × List Int) → Nat
  | [] => 0
  | p :: ps => p.2.2.length + numsU ps
theorem numsU_snoc (ps : List (Nat × Nat × List Int)) (p : Nat × Nat × List Int) : numsU (ps ++ [p]) = numsU ps + p.2.2.length := by
  induction ps with
  | nil => simp [numsU]
  | cons q qs ih => simp [numsU, ih]; omega
theorem numsU_le {M : Nat} : ∀ (ps : List (Nat × Nat × List Int)), (∀ p ∈ ps, p.2.2.length ≤ M) → numsU ps ≤ ps.length * M
  | [], _ => by simp [numsU]
  | p :: ps, h => by
    have h1 := h p (by simp)
    have h2 := numsU_le ps (fun q hq => h q (by simp [hq]))
    simp only [numsU, List.length_cons, Nat.add_mul]
    omega
/-- The rows marked from k on. -/
def marksU (k : Int) : List (Nat × Nat × List Int) → List (Nat × Nat × List Int)
  | [] => []
  | p :: ps => (p.1, p.2.1, upF k p.2.2.length) :: marksU (k + p.2.2.length) ps
theorem marksU_len (ps : List (Nat × Nat × List Int)) : ∀ k : Int, (marksU k ps).length = ps.length := by
  induction ps with
  | nil => intro k; rfl
  | cons p ps ih => intro k; simp [marksU, ih]
theorem marksU_snoc (ps : List (Nat × Nat × List Int)) (p : Nat × Nat × List Int) : ∀ k : Int, marksU k (ps ++ [p]) = marksU k ps ++ [(p.1, p.2.1, upF (k + numsU ps) p.2.2.length)] := by
  induction ps with
  | nil => intro k; simp [marksU, numsU]
  | cons q qs ih => intro k; simp [marksU, ih, numsU, Int.add_assoc]

/-- One row turned, in its own block. -/
theorem RowsU.turn {w w' : World} {B : Nat} {v : Value} {qs rs : List (Nat × Nat × List Int)} {p : Nat × Nat × List Int} {zs : List Int} (h : RowsU w B v (qs ++ p :: rs)) (hz : zs.length = p.2.2.length)
    (ho : Own w' B (some ⟨p.1, 0, none⟩) p.2.1 zs) (hg : w.grownBy w' (some p.1)) : RowsU w' B v (qs ++ (p.1, p.2.1, zs) :: rs) := by
  have hn := h.nodup
  rw [List.map_append, List.map_cons, List.nodup_append, List.nodup_cons] at hn
  obtain ⟨h1, ⟨h2, h3⟩, h4⟩ := hn
  have hp := h.each p (by simp)
  refine ⟨?_, ?_, ?_⟩
  · have := h.row.kept hg (.inr (rowU_apart h.row hp))
    have e : (qs ++ (p.1, p.2.1, zs) :: rs).map slU = (qs ++ p :: rs).map slU := by simp [slU, hz]
    rw [e]
    simpa using this
  · intro q hq
    have hk : ∀ q : Nat × Nat × List Int, q ∈ qs ++ p :: rs → q.1 ≠ p.1 → Own w' B (some ⟨q.1, 0, none⟩) q.2.1 q.2.2 := fun q hq hne =>
      (h.each q hq).kept_ (A2 := some ⟨p.1, 0, none⟩) hg (.inr (fun e => hne (Option.some.inj e)))
    rcases List.mem_append.1 hq with hq | hq
    · exact hk q (by simp [hq]) (fun e => h4 q.1 (List.mem_map.2 ⟨q, hq, rfl⟩) p.1 (by simp) e)
    · rcases List.mem_cons.1 hq with rfl | hq
      · exact ho
      · exact hk q (by simp [hq]) (fun e => h2 (by rw [← e]; exact List.mem_map.2 ⟨q, hq, rfl⟩))
  · simpa using h.nodup

theorem RowsU.cell_at {w : World} {B g c n k : Nat} {ps : List (Nat × Nat × List Int)} {p : Nat × Nat × List Int} (h : RowsU w B (.slice (some ⟨g, 0, none⟩) n c) ps) (hk : ps[k]? = some p) : w.cell? ⟨g, k, none⟩ = some (slU p) := by
  have hr := h.row
  have hv := hr.2
  have e : n = ps.length := by
    rcases hv with ⟨hv, _⟩ | ⟨g', cap, cur, hv, _⟩
    · cases hv
    · injection hv
  subst e
  have := World.ownsRow.cellAt hr k (by have := (List.getElem?_eq_some_iff.1 hk).1; omega)
  rw [this, List.getElem?_map, hk]; rfl
theorem marksU_append (b : List (Nat × Nat × List Int)) : ∀ (a : List (Nat × Nat × List Int)) (k : Int), marksU k (a ++ b) = marksU k a ++ marksU (k + numsU a) b
  | [], k => by simp [marksU, numsU]
  | p :: a, k => by
    simp only [List.cons_append, marksU, numsU]
    rw [marksU_append b a]
    congr 2
    push_cast
    rw [Int.add_assoc]
theorem splitU_at {ps : List (Nat × Nat × List Int)} {j : Nat} {p : Nat × Nat × List Int} (hp : ps[j]? = some p) : ps = ps.take j ++ p :: ps.drop (j + 1) := by
  obtain ⟨hj, rfl⟩ := List.getElem?_eq_some_iff.1 hp
  rw [← List.drop_eq_getElem_cons hj, List.take_append_drop]
theorem marksU_at {ps : List (Nat × Nat × List Int)} {j : Nat} {p : Nat × Nat × List Int} (hp : ps[j]? = some p) (k : Int) : (marksU k ps)[j]? = some (p.1, p.2.1, upF (k + numsU (ps.take j)) p.2.2.length) := by
  have hj := (List.getElem?_eq_some_iff.1 hp).1
  conv => lhs; rw [splitU_at hp]
  rw [marksU_append, List.getElem?_append_right (by rw [marksU_len, List.length_take]; omega), marksU_len, List.length_take, Nat.min_eq_left (by omega), Nat.sub_self]
  rfl
theorem takeU_up {ps : List (Nat × Nat × List Int)} {j : Nat} {p : Nat × Nat × List Int} (hp : ps[j]? = some p) : ps.take (j + 1) = ps.take j ++ [p] := by rw [List.take_add_one, hp]; rfl
theorem numsU_append (a b : List (Nat × Nat × List Int)) : numsU (a ++ b) = numsU a + numsU b := by
  induction a with
  | nil => simp [numsU]
  | cons p a ih => simp only [List.cons_append, numsU, ih]; omega
theorem numsU_take (ps : List (Nat × Nat × List Int)) (j : Nat) : numsU (ps.take j) ≤ numsU ps := by
  have e := numsU_append (ps.take j) (ps.drop j)
  rw [List.take_append_drop] at e
  omega
theorem numsU_mem {ps : List (Nat × Nat × List Int)} {p : Nat × Nat × List Int} (h : p ∈ ps) : p.2.2.length ≤ numsU ps := by
  induction ps with
  | nil => cases h
  | cons q ps ih =>
    simp only [numsU]
    rcases List.mem_cons.1 h with rfl | h
    · omega
    · have := ih h; omega
theorem numsU_flat (ps : List (Nat × Nat × List Int)) : numsU ps = ((ps.map (·.2.2)).flatten).length := by
  induction ps with
  | nil => rfl
  | cons p ps ih => simp only [numsU, List.map_cons, List.flatten_cons, List.length_append, ih]

end Go.Proofs.Ytnojlapjkdihmaa

/-
  Rows that came in as an argument; what the exact laws' walks of chapter 3 have in common.
-/
namespace Go.Proofs.Ytnojlapjkdihmaa
open Go.RowKit

/-- The slice (A, as long as rows) came in with capacity c and reads as rows of ints. -/
def CameR (w : World) (A : Option Addr) (c : Nat) (rows : List (List Int)) : Prop := RdR w A c rows ∧ rows.length ≤ maxLen ∧ ∀ r ∈ rows, r.length ≤ maxLen

theorem CameR.nil (w : World) : CameR w none 0 [] := ⟨RdR.nil w, by simp, fun _ h => absurd h (by simp)⟩
theorem addr_addR (b off j : Nat) : (⟨b, off, none⟩ : Addr).add j = ⟨b, off + j, none⟩ := by unfold Addr.add; split <;> simp_all
theorem CameR.of {w : World} {x : Addr} {len cap base : Nat} {Af : Nat → Option Addr} {L C : Nat → Nat} {Z : Nat → List Int} (hl : len ≤ cap) (hm : cap ≤ maxLen)
    (h : ∀ r, r < cap → w.cell? (x.add r) = some (.slice (Af r) (L r) (C r)) ∧ L r ≤ C r ∧ C r ≤ maxLen ∧ (Z r).length = C r ∧ (∀ n ∈ Z r, (Lit.int .i64 n).wf = true) ∧ (Af r = none → C r = 0) ∧
      ∀ a', Af r = some a' → base ≤ a'.block ∧ ∀ c, c < C r → w.cell? (a'.add c) = some (.int .i64 ((Z r).getD c 0))) :
    ∃ rows, len = rows.length ∧ CameR w (some x) cap rows := by
  refine ⟨(List.range len).map (fun r => (Z r).take (L r)), by simp, ⟨by simpa using hl, ?_⟩, by simp; omega, ?_⟩
  · rcases Nat.eq_zero_or_pos len with h0 | h0
    · subst h0
      exact .inl ⟨by simp, fun h => by cases h⟩
    · obtain ⟨b, off, spot⟩ := x
      have hs : spot = none := by have := (h 0 (by omega)).1; simpa [Addr.add] using World.cell?_spot this
      subst hs
      refine .inr ⟨b, off, rfl, fun k r hk => ?_⟩
      have hkl : k < len := by have := (List.getElem?_eq_some_iff.1 hk).1; simpa using this
      have hr : r = (Z k).take (L k) := by simp [hkl] at hk; exact hk.symm
      obtain ⟨h1, h2, h3, h4, _, h6, h7⟩ := h k (by omega)
      rw [addr_addR] at h1
      have hrl : r.length = L k := by rw [hr, List.length_take]; omega
      refine ⟨_, h1, Af k, C k, by rw [hrl], by omega, ?_⟩
      cases hA : Af k with
      | none =>
        have := h6 hA
        exact .inl ⟨List.eq_nil_of_length_eq_zero (by omega), fun _ => this⟩
      | some a' =>
        obtain ⟨_, h8⟩ := h7 a' hA
        rcases Nat.eq_zero_or_pos (L k) with hz | hz
        · exact .inl ⟨List.eq_nil_of_length_eq_zero (by omega), fun h => by cases h⟩
        · obtain ⟨b', off', spot'⟩ := a'
          have hs' : spot' = none := by simpa [Addr.add] using World.cell?_spot (h8 0 (by omega))
          subst hs'
          refine .inr ⟨b', off', rfl, fun j hj => ?_⟩
          have := h8 j (by omega)
          rw [addr_addR] at this
          rw [this, hr]
          simp [show j < L k by omega]
  · intro r hr
    obtain ⟨k, hk, rfl⟩ := List.mem_map.1 hr
    have hk := List.mem_range.1 hk
    have := h k (by omega)
    rw [List.length_take]
    omega

theorem szR_len {rows : List (List Int)} (h : szR rows ≤ 1048576) : rows.length ≤ 1048576 := by unfold szR at h; omega
theorem szR_each {rows : List (List Int)} (h : szR rows ≤ 1048576) : ∀ r ∈ rows, r.length ≤ 1099511627776 := by
  intro r hr
  obtain ⟨k, hk, rfl⟩ := List.getElem_of_mem hr
  have h1 := flat_take (List.getElem?_eq_getElem hk)
  have h2 := flat_le (rows := rows) (k + 1)
  unfold szR at h
  omega
theorem nums_sz {ps : List (Nat × Nat × List Int)} {rows : List (List Int)} (hm : ps.map (·.2.2) = rows) (h : szR rows ≤ 1048576) : ps.length ≤ 1048576 ∧ numsU ps ≤ 1048576 ∧ ∀ p ∈ ps, p.2.2.length ≤ 1099511627776 := by
  have h1 := numsU_flat ps
  have h2 := congrArg List.length hm
  rw [List.length_map] at h2
  unfold szR at h
  rw [hm] at h1
  refine ⟨by omega, by omega, fun p hp => ?_⟩
  have := numsU_mem hp
  omega
theorem own_bk {w : World} {B k : Nat} {A : Option Addr} {c : Nat} {xs : List Int} (h : Own w B A c xs) (hk : ofA A = some k) : B ≤ k ∧ k < w.heap.size :=
  World.ownsRow.lt h k (by rw [own_block]; exact hk)

end Go.Proofs.Ytnojlapjkdihmaa
