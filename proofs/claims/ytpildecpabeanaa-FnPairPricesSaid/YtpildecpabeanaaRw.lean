/-
  Rows in memory: lists of values a function gives, copies of rows in a block of the call's own, rows appended and copied.
-/
import Derived.Test.YtpildecpabeanaaG03
import Derived.Test.YtpildecpabeanaaG04
import Derived.Maps.AppendAt
import Derived.Laws.CopyOwn
namespace Go.Proofs.Ytpildecpabeanaa
open Go.RowKit

/-- A value for each of n. -/
def vls (f : Nat → Int) (n : Nat) : List Int := (List.range n).map f
theorem vls_len (f : Nat → Int) (n : Nat) : (vls f n).length = n := by simp [vls]
theorem vls_at {f : Nat → Int} {n i : Nat} (hi : i < n) : (vls f n)[i]? = some (f i) := by simp [vls, hi]

/-- What a call hands back: n values, in a block of its own. -/
def ValsIs (w : World) (f : Nat → Int) (n : Nat) (e : Ending) (w' : World) : Prop :=
  ∃ g c, e = .returned (.slice (some ⟨g, 0, none⟩) n c) ∧ Own w' w.heap.size (some ⟨g, 0, none⟩) c (vls f n) ∧ Below w.heap.size w w'

theorem box1 (w : World) (v : Value) (T : TypeId) : (w.alloc (.cells #[v] T)).cell? ⟨w.heap.size, 0, none⟩ = some v := by simp
/-- The values vs read as rows. -/
def RowsV (w : World) (vs : List Value) (rows : List (List Int)) : Prop := vs.length = rows.length ∧ ∀ (k : Nat) (r : List Int), rows[k]? = some r → ∃ v, vs[k]? = some v ∧ Row1 w v r
theorem RowsV.below {w w' : World} {vs : List Value} {rows : List (List Int)} (h : RowsV w vs rows) (hb : Below w.heap.size w w') : RowsV w' vs rows :=
  ⟨h.1, fun k r hk => by obtain ⟨v, hv, hr⟩ := h.2 k r hk; exact ⟨v, hv, hr.below hb⟩⟩
theorem RowsV.set_ {w : World} {vs : List Value} {rows : List (List Int)} (h : RowsV w vs rows) (i : Nat) {v : Value} {r : List Int} (hv : Row1 w v r) : RowsV w (vs.set i v) (rows.set i r) := by
  refine ⟨by simp [h.1], fun k q hk => ?_⟩
  by_cases hki : i = k
  · subst hki
    have hl : i < rows.length := by have := (List.getElem?_eq_some_iff.1 hk).1; simpa using this
    rw [List.getElem?_set_self hl] at hk
    cases hk
    exact ⟨v, List.getElem?_set_self (by rw [h.1]; exact hl), hv⟩
  · rw [List.getElem?_set_ne hki] at hk
    rw [List.getElem?_set_ne hki]
    exact h.2 k q hk
theorem RdR.vals {w : World} {b off c : Nat} {rows : List (List Int)} (h : RdR w (some ⟨b, off, none⟩) c rows) :
    ∃ vs, RowsV w vs rows ∧ ∀ (k : Nat) (v : Value), vs[k]? = some v → w.cell? ⟨b, off + k, none⟩ = some v := by
  refine ⟨(List.range rows.length).map (fun k => (w.cell? ⟨b, off + k, none⟩).getD .nilIface), ⟨by simp, fun k r hk => ?_⟩, fun k v hv => ?_⟩
  · have hl := (List.getElem?_eq_some_iff.1 hk).1
    rcases h.2 with ⟨rfl, _⟩ | ⟨b', off', hA, hc⟩
    · simp at hl
    · injection hA with hA; injection hA with h1 h2; subst h1; subst h2
      obtain ⟨v, hv, hr⟩ := hc k r hk
      exact ⟨v, by simp [hl, hv], hr⟩
  · have hl : k < rows.length := by have := (List.getElem?_eq_some_iff.1 hv).1; simpa using this
    rcases h.2 with ⟨rfl, _⟩ | ⟨b', off', hA, hc⟩
    · simp at hl
    · injection hA with hA; injection hA with h1 h2; subst h1; subst h2
      obtain ⟨v', hv', hr⟩ := hc k _ (List.getElem?_eq_getElem hl)
      simp [hl, hv'] at hv
      rw [hv', hv]
theorem RowsV.oneCell {w : World} {vs : List Value} {rows : List (List Int)} (h : RowsV w vs rows) : ∀ u ∈ vs, u.oneCell' = true := by
  intro u hu
  obtain ⟨k, hk, rfl⟩ := List.getElem_of_mem hu
  have hl : k < rows.length := by rw [← h.1]; exact hk
  obtain ⟨v, hv, A, c, e, _⟩ := h.2 k _ (List.getElem?_eq_getElem hl)
  rw [List.getElem?_eq_getElem hk] at hv
  cases hv
  rw [e]; rfl
/-- What lies in a block of the call's own reads as the rows. -/
theorem rdr_of_own {w0 w : World} {B g c : Nat} {vs : List Value} {rows : List (List Int)} (ho : w.ownsRow B 23 1 (.slice (some ⟨g, 0, none⟩) rows.length c) rows.length vs) (hv : RowsV w0 vs rows) (hb : Below w0.heap.size w0 w) : RdR w (some ⟨g, 0, none⟩) c rows := by
  rcases ho.2 with ⟨h, _⟩ | ⟨g', cap, cur, hvv, _, _, h1, h2, _⟩
  · cases h
  · injection hvv with hA _ hc
    injection hA with hA
    injection hA with hA
    subst hA hc
    refine ⟨h1, .inr ⟨g, 0, rfl, fun k r hk => ?_⟩⟩
    obtain ⟨v, hvk, hr⟩ := hv.2 k r hk
    have hl := (List.getElem?_eq_some_iff.1 hk).1
    have := World.ownsRow.cellAt ho k (by omega)
    exact ⟨v, by rw [Nat.zero_add, this]; exact hvk, hr.below hb⟩

theorem row_empty (w : World) : (w.alloc (.cells #[] 23)).ownsRow w.heap.size 23 1 (.slice (some ⟨w.heap.size, 0, none⟩) 0 0) 0 [] :=
  ⟨by simp, .inr ⟨w.heap.size, 0, #[], rfl, Nat.le_refl _, heap_alloc_new w _, by simp, by simp [maxLen], by simp, by simp⟩⟩

/-- 'append([][]int{}, rows...)': a copy in a block of the call's own. -/
theorem wpList_copy_rows {ops : Array Oper} {rest : List Oper} {o : Oper} {a : Act} {w : World} {Q : Exit → Act → World → Prop} (hgd : o.guard = none) (s x : Operand)
    (ho : o.op = .call { callee := .builtin .append, args := #[s, x], argTypes := #[35, 35] })
    (base g0 : Nat) (hs : a.eval s = .slice (some ⟨g0, 0, none⟩) 0 0) (hown : w.ownsRow base 23 1 (.slice (some ⟨g0, 0, none⟩) 0 0) 0 [])
    (w0 : World) (b off c n : Nat) (rows : List (List Int)) (hn : rows.length = n) (hx : a.eval x = .slice (some ⟨b, off, none⟩) n c) (hr : RdR w0 (some ⟨b, off, none⟩) c rows) (hb0 : Below w0.heap.size w0 w)
    (hl : n ≤ 1000000) (h1 : 1 ≤ n) (hbase : base ≤ w.heap.size)
    (h : ∀ g c' vs w', w'.ownsRow base 23 1 (.slice (some ⟨g, 0, none⟩) n c') n vs → RowsV w0 vs rows → w.grownBy w' (some g0) → wpList Try.prog ops Q rest (a.put o.dst (.slice (some ⟨g, 0, none⟩) n c')) w') :
    wpList Try.prog ops Q (o :: rest) a w :=
  wpList_plain hgd fun _ hK => by
    subst hn
    obtain ⟨i0, hi, hz0, hz1, hz2⟩ := info_parts intsU_info
    obtain ⟨vs, hvs, hcell⟩ := hr.vals
    have hadd : ∀ j, (⟨b, off, none⟩ : Addr).add j = ⟨b, off + j, none⟩ := fun j => by unfold Addr.add; split <;> simp_all
    obtain ⟨v', w', hrun, e2, e3, _⟩ := run_append_own_at (P := Try.prog) w base 35 o.type 23 i0 (.slice none 0 0) 1 24 Try.underlying35 hi hz0 hz1 hz2 rfl (by decide) (.slice (some ⟨g0, 0, none⟩) 0 0) 0 [] hown ⟨b, off, none⟩ rows.length c vs (by rw [hvs.1]; omega)
      (fun j u hu => by rw [hadd]; exact (hb0.cell (p := ⟨b, off + j, none⟩) (World.block_lt_of_cell? w0 _ (hcell j u hu))).trans (hcell j u hu)) hvs.oneCell (by unfold maxLen; omega) (by omega) hbase
    rw [List.nil_append, Nat.zero_add] at e2
    rcases e2.2 with ⟨hv, hn0⟩ | ⟨g, cap, cur, hv, _⟩
    · omega
    · subst hv
      unfold Oper.wp execOp
      simp only [ho, resolve, invoke, builtin, Sem.run_bind, Sem.run_pure, Result.andThen_ok, List.map_toArray, List.map_cons, List.map_nil, hs, hx, hrun]
      exact hK _ _ (h g cap vs w' e2 hvs e3)

/-- What a call hands back: rows copied into a block of its own, one of them another. -/
def CopyIs (w : World) (rows : List (List Int)) (n : Nat) (e : Ending) (w' : World) : Prop :=
  ∃ g c vs, e = .returned (.slice (some ⟨g, 0, none⟩) n c) ∧ w'.ownsRow w.heap.size 23 1 (.slice (some ⟨g, 0, none⟩) n c) n vs ∧ RowsV w vs rows ∧ Below w.heap.size w w'

theorem CopyIs.shape_ {w w' : World} {rows : List (List Int)} {g c n : Nat} {vs : List Value} (ho : w'.ownsRow w.heap.size 23 1 (.slice (some ⟨g, 0, none⟩) n c) n vs) (hv : RowsV w vs rows) (hn : rows.length = n) (hb : Below w.heap.size w w') : RdR w' (some ⟨g, 0, none⟩) c rows := by
  subst hn; exact rdr_of_own ho hv hb

theorem ints_one (w : World) (x : Int) : Rd (w.alloc (.cells #[.int .i64 x] 3)) (some ⟨w.heap.size, 0, none⟩) 1 [x] := by
  refine .inr ⟨w.heap.size, 0, rfl, fun k hk => ?_⟩
  obtain rfl : k = 0 := by simpa using hk
  simp
theorem own_some {w : World} {B : Nat} {A : Option Addr} {c : Nat} {zs : List Int} (h : Own w B A c zs) (hz : 1 ≤ zs.length) : ∃ g, A = some ⟨g, 0, none⟩ := by
  rcases own_shape h with ⟨_, ⟨_, rfl⟩ | ⟨g, c', hv⟩⟩
  · simp at hz
  · injection hv with hA; exact ⟨g, hA⟩
theorem own_new_ints (w : World) : Own (w.alloc (.cells #[] 3)) w.heap.size (some ⟨w.heap.size, 0, none⟩) 0 (vls (fun _ => 0) 0) := own_empty w
theorem vls_zero (f g : Nat → Int) : vls f 0 = vls g 0 := rfl
theorem vls_more (f : Nat → Int) (j : Nat) : vls f (j + 1) = vls f j ++ [f j] := by simp [vls, List.range_succ]

/-- What the three of both sides hand back, by a function of the bidder. -/
theorem vls_congr {f g : Nat → Int} {n : Nat} (h : ∀ i, i < n → f i = g i) : vls f n = vls g n := by
  unfold vls
  exact List.map_congr_left (fun i hi => h i (List.mem_range.1 hi))
theorem ValsIs.congr {w : World} {f g : Nat → Int} {n : Nat} {e : Ending} {w' : World} (h : ValsIs w f n e w') (hfg : ∀ i, i < n → f i = g i) : ValsIs w g n e w' := by
  unfold ValsIs at h ⊢
  rw [vls_congr hfg] at h
  exact h
/-- A row more. -/
theorem RowsV.more1 {w : World} {vs : List Value} {rows : List (List Int)} {v : Value} {r : List Int} (h : RowsV w vs rows) (hv : Row1 w v r) : RowsV w (vs ++ [v]) (rows ++ [r]) := by
  refine ⟨by simp [h.1], fun k q hk => ?_⟩
  by_cases hl : k < rows.length
  · rw [List.getElem?_append_left hl] at hk
    rw [List.getElem?_append_left (by rw [h.1]; exact hl)]
    exact h.2 k q hk
  · rw [List.getElem?_append_right (by omega)] at hk
    rw [List.getElem?_append_right (by rw [h.1]; omega), h.1]
    have h0 : k - rows.length = 0 := by have := (List.getElem?_eq_some_iff.1 hk).1; simpa using this
    rw [h0] at hk ⊢
    simp at hk
    subst hk
    exact ⟨v, rfl, hv⟩
/-- All rows but one. -/
theorem RowsV.erase {w : World} {vs : List Value} {rows : List (List Int)} (h : RowsV w vs rows) (i : Nat) : RowsV w (vs.eraseIdx i) (rows.eraseIdx i) := by
  refine ⟨by rw [List.length_eraseIdx, List.length_eraseIdx, h.1], fun k q hk => ?_⟩
  rw [List.getElem?_eraseIdx] at hk ⊢
  split at hk
  · rename_i hki; rw [if_pos hki]; exact h.2 k q hk
  · rename_i hki; rw [if_neg hki]; exact h.2 (k + 1) q hk
theorem erase_cut (vs : List Value) (i : Nat) : vs.take i ++ vs.drop (i + 1) = vs.eraseIdx i := (List.eraseIdx_eq_take_drop_succ vs i).symm

/-- 'append(rows, others...)': to rows in a block of the call's own. -/
theorem wpList_append_rows {ops : Array Oper} {rest : List Oper} {o : Oper} {a : Act} {w : World} {Q : Exit → Act → World → Prop} (hgd : o.guard = none) (s x : Operand)
    (ho : o.op = .call { callee := .builtin .append, args := #[s, x], argTypes := #[35, 35] })
    (base g0 c0 m : Nat) (vs0 : List Value) (hs : a.eval s = .slice (some ⟨g0, 0, none⟩) m c0) (hown : w.ownsRow base 23 1 (.slice (some ⟨g0, 0, none⟩) m c0) m vs0)
    (ad : Addr) (c n : Nat) (news : List Value) (hx : a.eval x = .slice (some ad) n c) (hl : news.length = n) (hnews : ∀ j u, news[j]? = some u → w.cell? (ad.add j) = some u) (h1 : ∀ u ∈ news, u.oneCell' = true) (r : Nat) (hr : m + n = r) (hmn : r ≤ 1000000) (hbase : base ≤ w.heap.size)
    (h : ∀ g c' w', w'.ownsRow base 23 1 (.slice (some ⟨g, 0, none⟩) r c') r (vs0 ++ news) → w.grownBy w' (some g0) → wpList Try.prog ops Q rest (a.put o.dst (.slice (some ⟨g, 0, none⟩) r c')) w') :
    wpList Try.prog ops Q (o :: rest) a w :=
  wpList_plain hgd fun _ hK => by
    subst hr
    obtain ⟨i0, hi, hz0, hz1, hz2⟩ := info_parts intsU_info
    obtain ⟨v', w', hrun, e2, e3, e4, _⟩ := run_append_own_at (P := Try.prog) w base 35 o.type 23 i0 (.slice none 0 0) 1 24 Try.underlying35 hi hz0 hz1 hz2 rfl (by decide) (.slice (some ⟨g0, 0, none⟩) m c0) m vs0 hown ad n c news (by omega)
      hnews h1 (by unfold maxLen; omega) (by omega) hbase
    rcases e2.2 with ⟨hv, _⟩ | ⟨g, cap, cur, hv, _⟩
    · have := (e4.1 hv).1; cases this
    · subst hv
      unfold Oper.wp execOp
      simp only [ho, resolve, invoke, builtin, Sem.run_bind, Sem.run_pure, Result.andThen_ok, List.map_toArray, List.map_cons, List.map_nil, hs, hx, hrun]
      exact hK _ _ (h g cap w' e2 e3)

/-- The same as one step of a region that draws its order. -/
theorem step_append_rows {ops : Array Oper} {o : Oper} {a : Act} {w : World} {K : Act → World → Prop} {Q : Exit → Act → World → Prop} {E : Prop} (hgd : o.guard = none) (s x : Operand)
    (ho : o.op = .call { callee := .builtin .append, args := #[s, x], argTypes := #[35, 35] })
    (base g0 c0 m : Nat) (vs0 : List Value) (hs : a.eval s = .slice (some ⟨g0, 0, none⟩) m c0) (hown : w.ownsRow base 23 1 (.slice (some ⟨g0, 0, none⟩) m c0) m vs0)
    (ad : Addr) (c n : Nat) (news : List Value) (hx : a.eval x = .slice (some ad) n c) (hl : news.length = n) (hnews : ∀ j u, news[j]? = some u → w.cell? (ad.add j) = some u) (h1 : ∀ u ∈ news, u.oneCell' = true) (r : Nat) (hr : m + n = r) (hmn : r ≤ 1000000) (hbase : base ≤ w.heap.size)
    (h : ∀ g c' w', w'.ownsRow base 23 1 (.slice (some ⟨g, 0, none⟩) r c') r (vs0 ++ news) → w.grownBy w' (some g0) → K (a.put o.dst (.slice (some ⟨g, 0, none⟩) r c')) w') :
    if Region.wanted o (yielded ops a.tmps) = true then Oper.wp Try.prog o a w K Q else E := by
  have hw : Region.wanted o (yielded ops a.tmps) = true := by simp [Region.wanted, hgd]
  rw [if_pos hw]
  subst hr
  obtain ⟨i0, hi, hz0, hz1, hz2⟩ := info_parts intsU_info
  obtain ⟨v', w', hrun, e2, e3, e4, _⟩ := run_append_own_at (P := Try.prog) w base 35 o.type 23 i0 (.slice none 0 0) 1 24 Try.underlying35 hi hz0 hz1 hz2 rfl (by decide) (.slice (some ⟨g0, 0, none⟩) m c0) m vs0 hown ad n c news (by omega)
    hnews h1 (by unfold maxLen; omega) (by omega) hbase
  rcases e2.2 with ⟨hv, _⟩ | ⟨g, cap, cur, hv, _⟩
  · have := (e4.1 hv).1; cases this
  · subst hv
    unfold Oper.wp execOp
    simp only [ho, resolve, invoke, builtin, Sem.run_bind, Sem.run_pure, Result.andThen_ok, List.map_toArray, List.map_cons, List.map_nil, hs, hx, hrun]
    exact h g cap w' e2 e3

/-- 'append(numbers, x)' as one step of a region that draws its order. -/
theorem step_append_one {ops : Array Oper} {o : Oper} {a : Act} {w : World} {K : Act → World → Prop} {Q : Exit → Act → World → Prop} {E : Prop} (hgd : o.guard = none) (s x : Operand) (T : TypeId) (hT : Try.prog.underlying T = some (.slice 3))
    (ho : o.op = .call { callee := .builtin .append, args := #[s, x], argTypes := #[T, T] })
    (base : Nat) (A0 : Option Addr) (c0 : Nat) (xs : List Int) (n : Nat) (hxn : xs.length = n) (hs : a.eval s = .slice A0 n c0) (hown : Own w base A0 c0 xs)
    (A : Option Addr) (c : Nat) (v : Int) (hx : a.eval x = .slice A 1 c) (hr : Rd w A c [v])
    (hn : n + 1 ≤ 1099511627776) (hbase : base ≤ w.heap.size)
    (h : ∀ g c' w', Own w' base (some ⟨g, 0, none⟩) c' (xs ++ [v]) → w.grownBy w' (ofA A0) → K (a.put o.dst (.slice (some ⟨g, 0, none⟩) (n + 1) c')) w') :
    if Region.wanted o (yielded ops a.tmps) = true then Oper.wp Try.prog o a w K Q else E := by
  have hw : Region.wanted o (yielded ops a.tmps) = true := by simp [Region.wanted, hgd]
  rw [if_pos hw]
  subst hxn
  obtain ⟨A', c', w', hrun, h1, h2⟩ := run_append_intsT T o.type hT w base A0 c0 xs hown A c [v] hr hn hbase
  obtain ⟨g, rfl⟩ := own_some h1 (by simp)
  unfold Oper.wp execOp
  simp only [List.length_cons, List.length_nil, Nat.zero_add] at hrun
  simp only [ho, resolve, invoke, builtin, Sem.run_bind, Sem.run_pure, Result.andThen_ok, List.map_toArray, List.map_cons, List.map_nil, hs, hx, hrun]
  exact h g c' w' h1 h2

/-- 'copy(rows[i:], others)': into rows in a block of the call's own. -/
theorem wpList_copy_grown {ops : Array Oper} {rest : List Oper} {o : Oper} {a : Act} {w : World} {Q : Exit → Act → World → Prop} (hgd : o.guard = none) (d s : Operand)
    (ho : o.op = .call { callee := .builtin .copy, args := #[d, s], argTypes := #[35, 35] })
    (dp sp : Option Addr) (dLen dCap sLen sCap : Nat) (hd : a.eval d = .slice dp dLen dCap) (hs : a.eval s = .slice sp sLen sCap)
    (g off : Nat) (cur : List Value) (t : TypeId) (hg : w.heap[g]? = some (.cells cur.toArray t (0, 0))) (cs : List Value) (hn : cs.length = Nat.min sLen dLen)
    (hpos : 0 < cs.length → dp = some ⟨g, off, none⟩ ∧ ∃ ad, sp = some ad ∧ ∀ j v, cs[j]? = some v → w.cell? (ad.add j) = some v)
    (hfit : off + cs.length ≤ cur.length) (h1 : ∀ v ∈ cs, v.oneCell' = true)
    (h : ∀ w', Hid (w'.heap[g]? = some (.cells (splice cur off cs).toArray t (0, 0))) → w.grownBy w' (some g) → wpList Try.prog ops Q rest (a.put o.dst (goInt cs.length)) w') :
    wpList Try.prog ops Q (o :: rest) a w := by
  have hsz : (Try.prog.info? 23).map (·.size) = some 1 := by kernel_rfl
  by_cases h0 : cs.length = 0
  · obtain rfl : cs = [] := List.eq_nil_of_length_eq_zero h0
    refine wpList_copy_nothing hgd d s _ _ ho 23 Try.underlying35 hsz dp sp dLen dCap sLen sCap hd hs (by simpa using hn.symm) ?_
    exact h w (show _ = _ by simpa [splice] using hg) ⟨rfl, rfl, rfl, Nat.le_refl _, fun _ _ _ => rfl⟩
  · obtain ⟨rfl, ad, rfl, hsrc⟩ := hpos (by omega)
    refine wpList_copy_own hgd d s _ _ ho 23 Try.underlying35 hsz g off dLen dCap ad sLen sCap hd hs cur.toArray t hg cs hn hsrc (by simpa using hfit) h1 ?_
    exact h _ (show _ = _ by simpa [splice] using setRow_heap w g _ _ t _ hg) ⟨rfl, rfl, rfl, by simp [World.setRow], fun k hk hne => setRow_other w g k _ (fun e => hne (by rw [e]))⟩

/-- The same as one step of a region that draws its order. -/
theorem step_copy_grown {ops : Array Oper} {o : Oper} {a : Act} {w : World} {K : Act → World → Prop} {Q : Exit → Act → World → Prop} {E : Prop} (hgd : o.guard = none) (d s : Operand)
    (ho : o.op = .call { callee := .builtin .copy, args := #[d, s], argTypes := #[35, 35] })
    (dp sp : Option Addr) (dLen dCap sLen sCap : Nat) (hd : a.eval d = .slice dp dLen dCap) (hs : a.eval s = .slice sp sLen sCap)
    (g off : Nat) (cur : List Value) (t : TypeId) (hg : w.heap[g]? = some (.cells cur.toArray t (0, 0))) (cs : List Value) (hn : cs.length = Nat.min sLen dLen)
    (hpos : 0 < cs.length → dp = some ⟨g, off, none⟩ ∧ ∃ ad, sp = some ad ∧ ∀ j v, cs[j]? = some v → w.cell? (ad.add j) = some v)
    (hfit : off + cs.length ≤ cur.length) (h1 : ∀ v ∈ cs, v.oneCell' = true)
    (h : ∀ w', Hid (w'.heap[g]? = some (.cells (splice cur off cs).toArray t (0, 0))) → w.grownBy w' (some g) → K (a.put o.dst (goInt cs.length)) w') :
    if Region.wanted o (yielded ops a.tmps) = true then Oper.wp Try.prog o a w K Q else E := by
  have hw : Region.wanted o (yielded ops a.tmps) = true := by simp [Region.wanted, hgd]
  rw [if_pos hw]
  have hsz : (Try.prog.info? 23).map (·.size) = some 1 := by kernel_rfl
  by_cases h0 : cs.length = 0
  · obtain rfl : cs = [] := List.eq_nil_of_length_eq_zero h0
    have hrun := run_copy_none (P := Try.prog) w 35 35 o.type 23 dp sp dLen dCap sLen sCap Try.underlying35 hsz (by simpa using hn.symm)
    unfold Oper.wp
    simp [execOp, ho, resolve, invoke, builtin, hd, hs, hrun, Result.andThen]
    exact h w (show _ = _ by simpa [splice] using hg) ⟨rfl, rfl, rfl, Nat.le_refl _, fun _ _ _ => rfl⟩
  · obtain ⟨rfl, ad, rfl, hsrc⟩ := hpos (by omega)
    have hrun := run_copy_row (P := Try.prog) w 35 35 o.type 23 g off dLen dCap ad sLen sCap cur.toArray t cs Try.underlying35 hsz hg hn hsrc (by simpa using hfit) h1
    unfold Oper.wp
    simp [execOp, ho, resolve, invoke, builtin, hd, hs, hrun, Result.andThen]
    refine h _ (show _ = _ by simpa [splice] using setRow_heap w g _ _ t _ hg) ⟨rfl, rfl, rfl, by simp [World.setRow], fun k hk hne => setRow_other w g k _ (fun e => hne (by rw [e]))⟩

/-- What lies in a block reads as the rows. -/
theorem rdr_of_cells {w0 w : World} {g c : Nat} {vs : List Value} {t : TypeId} {rows : List (List Int)} (hg : w.heap[g]? = some (.cells vs.toArray t (0, 0))) (hv : RowsV w0 vs rows) (hb : Below w0.heap.size w0 w) (hc : rows.length ≤ c) : RdR w (some ⟨g, 0, none⟩) c rows := by
  refine ⟨hc, .inr ⟨g, 0, rfl, fun k r hk => ?_⟩⟩
  obtain ⟨v, hvk, hr⟩ := hv.2 k r hk
  refine ⟨v, ?_, hr.below hb⟩
  rw [Nat.zero_add]
  simp [World.cell?, hg, hvk]

end Go.Proofs.Ytpildecpabeanaa
