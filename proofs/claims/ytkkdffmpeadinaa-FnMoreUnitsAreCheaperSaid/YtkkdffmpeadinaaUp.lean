/-
  Chapter 3: copies of rows in a block of the call's own: 'without' of the model, slices.Clone of the program.
-/
import Derived.Test.YtkkdffmpeadinaaUo
import Derived.Maps.AppendAt
namespace Go.Proofs.Ytkkdffmpeadinaa
open Go.RowKit

/-- The values vs read as rows. -/
def RowsV (w : World) (vs : List Value) (rows : List (List Int)) : Prop := vs.length = rows.length ∧ ∀ (k : Nat) (r : List Int), rows[k]? = some r → ∃ v, vs[k]? = some v ∧ Row1 w v r
theorem RowsV.below {w w' : World} {vs : List Value} {rows : List (List Int)} (h : RowsV w vs rows) (hb : Below w.heap.size w w') : RowsV w' vs rows :=
  ⟨h.1, fun k r hk => by obtain ⟨v, hv, hr⟩ := h.2 k r hk; exact ⟨v, hv, hr.below hb⟩⟩
theorem RowsV.set_ {w : World} {vs : List Value} {rows : List (List Int)} (h : RowsV w vs rows) (i : Nat) {v : Value} {r : List Int} (hv : Row1 w v r) : RowsV w (vs.set i v) (rows.set i r) := by
  refine ⟨by simp [h.1], fun k q hk => ?_⟩
  by_cases hki : i = k
  · subst hki
    have hl : i < rows.length := by have := (List.getElem?_eq_some_iff.1 hk).1; simpa using this
    rw [List.getElem?_set_self hl] at hk
    cases hk
    exact ⟨v, List.getElem?_set_self (by rw [h.1]; exact hl), hv⟩
  · rw [List.getElem?_set_ne hki] at hk
    rw [List.getElem?_set_ne hki]
    exact h.2 k q hk
theorem RdR.vals {w : World} {b off c : Nat} {rows : List (List Int)} (h : RdR w (some ⟨b, off, none⟩) c rows) :
    ∃ vs, RowsV w vs rows ∧ ∀ (k : Nat) (v : Value), vs[k]? = some v → w.cell? ⟨b, off + k, none⟩ = some v := by
  refine ⟨(List.range rows.length).map (fun k => (w.cell? ⟨b, off + k, none⟩).getD .nilIface), ⟨by simp, fun k r hk => ?_⟩, fun k v hv => ?_⟩
  · have hl := (List.getElem?_eq_some_iff.1 hk).1
    rcases h.2 with ⟨rfl, _⟩ | ⟨b', off', hA, hc⟩
    · simp at hl
    · injection hA with hA; injection hA with h1 h2; subst h1; subst h2
      obtain ⟨v, hv, hr⟩ := hc k r hk
      exact ⟨v, by simp [hl, hv], hr⟩
  · have hl : k < rows.length := by have := (List.getElem?_eq_some_iff.1 hv).1; simpa using this
    rcases h.2 with ⟨rfl, _⟩ | ⟨b', off', hA, hc⟩
    · simp at hl
    · injection hA with hA; injection hA with h1 h2; subst h1; subst h2
      obtain ⟨v', hv', hr⟩ := hc k _ (List.getElem?_eq_getElem hl)
      simp [hl, hv'] at hv
      rw [hv', hv]
theorem RowsV.oneCell {w : World} {vs : List Value} {rows : List (List Int)} (h : RowsV w vs rows) : ∀ u ∈ vs, u.oneCell' = true := by
  intro u hu
  obtain ⟨k, hk, rfl⟩ := List.getElem_of_mem hu
  have hl : k < rows.length := by rw [← h.1]; exact hk
  obtain ⟨v, hv, A, c, e, _⟩ := h.2 k _ (List.getElem?_eq_getElem hl)
  rw [List.getElem?_eq_getElem hk] at hv
  cases hv
  rw [e]; rfl
/-- What lies in a block of the call's own reads as the rows. -/
theorem rdr_of_own {w0 w : World} {B g c : Nat} {vs : List Value} {rows : List (List Int)} (ho : w.ownsRow B 29 1 (.slice (some ⟨g, 0, none⟩) rows.length c) rows.length vs) (hv : RowsV w0 vs rows) (hb : Below w0.heap.size w0 w) : RdR w (some ⟨g, 0, none⟩) c rows := by
  rcases ho.2 with ⟨h, _⟩ | ⟨g', cap, cur, hvv, _, _, h1, h2, _⟩
  · cases h
  · injection hvv with hA _ hc
    injection hA with hA
    injection hA with hA
    subst hA hc
    refine ⟨h1, .inr ⟨g, 0, rfl, fun k r hk => ?_⟩⟩
    obtain ⟨v, hvk, hr⟩ := hv.2 k r hk
    have hl := (List.getElem?_eq_some_iff.1 hk).1
    have := World.ownsRow.cellAt ho k (by omega)
    exact ⟨v, by rw [Nat.zero_add, this]; exact hvk, hr.below hb⟩

theorem row_empty (w : World) : (w.alloc (.cells #[] 29)).ownsRow w.heap.size 29 1 (.slice (some ⟨w.heap.size, 0, none⟩) 0 0) 0 [] :=
  ⟨by simp, .inr ⟨w.heap.size, 0, #[], rfl, Nat.le_refl _, heap_alloc_new w _, by simp, by simp [maxLen], by simp, by simp⟩⟩
theorem intsU_info : (Try.prog.info? 29).map (fun i => (i.zero, i.size, i.bytes)) = some (some (.slice none 0 0), 1, 24) := by kernel_rfl

/-- 'append([][]int{}, rows...)': a copy in a block of the call's own. -/
theorem wpList_copy_rows {ops : Array Oper} {rest : List Oper} {o : Oper} {a : Act} {w : World} {Q : Exit → Act → World → Prop} (hgd : o.guard = none) (s x : Operand)
    (ho : o.op = .call { callee := .builtin .append, args := #[s, x], argTypes := #[23, 23] })
    (base g0 : Nat) (hs : a.eval s = .slice (some ⟨g0, 0, none⟩) 0 0) (hown : w.ownsRow base 29 1 (.slice (some ⟨g0, 0, none⟩) 0 0) 0 [])
    (w0 : World) (b off c n : Nat) (rows : List (List Int)) (hn : rows.length = n) (hx : a.eval x = .slice (some ⟨b, off, none⟩) n c) (hr : RdR w0 (some ⟨b, off, none⟩) c rows) (hb0 : Below w0.heap.size w0 w)
    (hl : n ≤ 1000000) (h1 : 1 ≤ n) (hbase : base ≤ w.heap.size)
    (h : ∀ g c' vs w', w'.ownsRow base 29 1 (.slice (some ⟨g, 0, none⟩) n c') n vs → RowsV w0 vs rows → w.grownBy w' (some g0) → wpList Try.prog ops Q rest (a.put o.dst (.slice (some ⟨g, 0, none⟩) n c')) w') :
    wpList Try.prog ops Q (o :: rest) a w :=
  wpList_plain hgd fun _ hK => by
    subst hn
    obtain ⟨i0, hi, hz0, hz1, hz2⟩ := info_parts intsU_info
    obtain ⟨vs, hvs, hcell⟩ := hr.vals
    have hadd : ∀ j, (⟨b, off, none⟩ : Addr).add j = ⟨b, off + j, none⟩ := fun j => by unfold Addr.add; split <;> simp_all
    obtain ⟨v', w', hrun, e2, e3, _⟩ := run_append_own_at (P := Try.prog) w base 23 o.type 29 i0 (.slice none 0 0) 1 24 Try.underlying23 hi hz0 hz1 hz2 rfl (by decide) (.slice (some ⟨g0, 0, none⟩) 0 0) 0 [] hown ⟨b, off, none⟩ rows.length c vs (by rw [hvs.1]; omega)
      (fun j u hu => by rw [hadd]; exact (hb0.cell (p := ⟨b, off + j, none⟩) (World.block_lt_of_cell? w0 _ (hcell j u hu))).trans (hcell j u hu)) hvs.oneCell (by unfold maxLen; omega) (by omega) hbase
    rw [List.nil_append, Nat.zero_add] at e2
    rcases e2.2 with ⟨hv, hn0⟩ | ⟨g, cap, cur, hv, _⟩
    · omega
    · subst hv
      unfold Oper.wp execOp
      simp only [ho, resolve, invoke, builtin, Sem.run_bind, Sem.run_pure, Result.andThen_ok, List.map_toArray, List.map_cons, List.map_nil, hs, hx, hrun]
      exact hK _ _ (h g cap vs w' e2 hvs e3)

/-- What a call hands back: rows copied into a block of its own, one of them another. -/
def CopyIs (w : World) (rows : List (List Int)) (n : Nat) (e : Ending) (w' : World) : Prop :=
  ∃ g c vs, e = .returned (.slice (some ⟨g, 0, none⟩) n c) ∧ w'.ownsRow w.heap.size 29 1 (.slice (some ⟨g, 0, none⟩) n c) n vs ∧ RowsV w vs rows ∧ Below w.heap.size w w'

theorem CopyIs.shape_ {w w' : World} {rows : List (List Int)} {g c n : Nat} {vs : List Value} (ho : w'.ownsRow w.heap.size 29 1 (.slice (some ⟨g, 0, none⟩) n c) n vs) (hv : RowsV w vs rows) (hn : rows.length = n) (hb : Below w.heap.size w w') : RdR w' (some ⟨g, 0, none⟩) c rows := by
  subst hn; exact rdr_of_own ho hv hb

set_option maxHeartbeats 400000 in
theorem without_any (b off c i : Nat) (rows : List (List Int)) (w : World) (hR : RdR w (some ⟨b, off, none⟩) c rows) (hi : i < rows.length) (hl : rows.length ≤ 1000) :
    Calls Try.prog 86 #[.slice (some ⟨b, off, none⟩) rows.length c, .int .i64 i] w (CopyIs w (rows.set i []) rows.length) := by
  have hb0 := (Below.refl w.heap.size w).alloc (Nat.le_refl _) (.cells #[] 29)
  have HR := Lib.hid hR
  have ho := row_empty w
  have h1l : 1 ≤ rows.length := by omega
  clear hR
  go_enter Try.func86, Try.ntmps86
  go_wp2_with (at_builtin; refine wpList_copy_rows rfl _ _ rfl w.heap.size w.heap.size rfl ho w b off c rows.length rows rfl rfl HR.out hb0 (by omega) h1l hb0.size ?_; intro g2 c2 vs w2 o2 v2 g2'; have B2 : Below w.heap.size w w2 := hb0.grown g2' hb0.size (fun k e => by cases e; exact Nat.le_refl _); have B3 := B2.alloc B2.size (.cells #[] 3); have o3 := own_len o2 ((Below.refl _ w2).alloc (Nat.le_refl _) (.cells #[] 3)); have hcell := World.ownsRow.cellAt o3 i (by omega); have hfr := World.ownsRow.frozenAt o3 i; have hst := Lib.hid (World.ownsRow.stored o3 i (.slice (some ⟨w2.heap.size, 0, none⟩) 0 0)).1; obtain ⟨vi, hvi⟩ : ∃ vi, vs[i]? = some vi := ⟨_, List.getElem?_eq_getElem (by rw [v2.1]; exact hi)⟩; rw [hvi] at hcell; have HV := Lib.hid v2; have hge := (World.ownsRow.lt o2 g2 rfl).1; have HBS := Lib.hid (B3.setCell (p := ⟨g2, i, none⟩) hge (.slice (some ⟨w2.heap.size, 0, none⟩) 0 0)); clear o2 v2 g2' B2 B3 o3 hvi)
  go_ret
  exact ⟨g2, c2, _, rfl, hst.out, HV.out.set_ i ⟨some ⟨w2.heap.size, 0, none⟩, 0, rfl, by simp, .inl ⟨rfl, fun h => by cases h⟩⟩, HBS.out⟩

end Go.Proofs.Ytkkdffmpeadinaa
