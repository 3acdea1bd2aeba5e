/-
  The exact laws' helpers for lists of rows: copied.
-/
import Derived.Test.YtnojlapjkdihmaaG05
namespace Go.Proofs.Ytnojlapjkdihmaa
open Go.RowKit

/-- 'make([][]int, n)': n nil rows in a block of the call's own. -/
theorem wpList_make_rows {ops : Array Oper} {rest : List Oper} {o : Oper} {a : Act} {w : World} {Q : Exit → Act → World → Prop} (hg : o.guard = none) (l c : Operand)
    (hop : o.op = Op.makeSlice 23 l c) (base n : Nat) (hl : a.eval l = .int .i64 (n : Int)) (hc : a.eval c = .int .i64 (n : Int)) (hn : n ≤ 1099511627776) (hb : base ≤ w.heap.size)
    (hK : ∀ w', w'.ownsRow base 24 1 (.slice (some ⟨w.heap.size, 0, none⟩) n n) n (List.replicate n (.slice none 0 0)) → Below base w w' → wpList Try.prog ops Q rest (a.put o.dst (.slice (some ⟨w.heap.size, 0, none⟩) n n)) w') :
    wpList Try.prog ops Q (o :: rest) a w := by
  obtain ⟨i0, hi, hz0, hz1, hz2⟩ := info_parts intsU_info
  refine wpList_make_full w hg l c 23 hop base 24 i0 (.slice none 0 0) 1 Try.underlying23 hi hz0 hz1 .i64 .i64 n n n hl hc rfl rfl (by rw [hz2]; omega) (by unfold maxLen; omega) hb ?_
  intro w' h1 h2
  refine hK w' ?_ ((Below.refl base w).grown h2 hb (fun k h => by cases h))
  simpa [toList_madeCells_one, Value.cells] using h1

/-- What toIntSS hands back: own rows. -/
def RowsIs (w : World) (rows : List (List Int)) (e : Ending) (w' : World) : Prop :=
  ∃ v ps, e = .returned v ∧ RowsU w' w.heap.size v ps ∧ ps.map (·.2.2) = rows ∧ Below w.heap.size w w'

theorem part_set {ps : List (Nat × Nat × List Int)} {p : Nat × Nat × List Int} {n k : Nat} (hk : ps.length = k) (hkn : k < n) :
    (ps.map slU ++ List.replicate (n - k) (Value.slice none 0 0)).set k (slU p) = (ps ++ [p]).map slU ++ List.replicate (n - (k + 1)) (Value.slice none 0 0) := by
  subst hk
  obtain ⟨m, hm⟩ : ∃ m, n - ps.length = m + 1 := ⟨n - ps.length - 1, by omega⟩
  rw [hm, show n - (ps.length + 1) = m by omega, List.set_append, if_neg (by rw [List.length_map]; omega), List.length_map, Nat.sub_self, List.replicate_succ, List.set_cons_zero, List.map_append]
  simp

end Go.Proofs.Ytnojlapjkdihmaa
