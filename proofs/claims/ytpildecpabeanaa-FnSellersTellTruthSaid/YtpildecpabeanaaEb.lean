/-
  Chapter 10: words for slices of deals in memory.
-/
import Derived.Test.YtpildecpabeanaaMark
import Derived.Test.YtpildecpabeanaaEa
namespace Go.Proofs.Ytpildecpabeanaa
open Go.RowKit

/-- The cells of pairs, one behind the other. -/
def cellsD (ps : List (Int × Int)) : List Value := ps.flatMap fun p => [.int .i64 p.1, .int .i64 p.2]
theorem cellsD_nil : cellsD [] = [] := rfl
theorem cellsD_cons (p : Int × Int) (ps : List (Int × Int)) : cellsD (p :: ps) = .int .i64 p.1 :: .int .i64 p.2 :: cellsD ps := rfl
theorem cellsD_len (ps : List (Int × Int)) : (cellsD ps).length = ps.length * 2 := by
  induction ps with
  | nil => rfl
  | cons p ps ih => rw [cellsD_cons]; simp [ih]; omega
theorem cellsD_app (ps qs : List (Int × Int)) : cellsD (ps ++ qs) = cellsD ps ++ cellsD qs := by unfold cellsD; rw [List.flatMap_append]
theorem cellsD_at : ∀ (ps : List (Int × Int)) (k : Nat), (cellsD ps)[k * 2]? = ps[k]?.map (fun p => Value.int .i64 p.1) ∧ (cellsD ps)[k * 2 + 1]? = ps[k]?.map (fun p => Value.int .i64 p.2)
  | [], k => by simp [cellsD_nil]
  | p :: ps, 0 => by simp [cellsD_cons]
  | p :: ps, k + 1 => by
    obtain ⟨h1, h2⟩ := cellsD_at ps k
    rw [cellsD_cons, show (k + 1) * 2 = k * 2 + 1 + 1 by omega]
    simp only [List.getElem?_cons_succ]
    exact ⟨h1, h2⟩
theorem cellsD_set : ∀ (ps : List (Int × Int)) (k : Nat) (p : Int × Int), ((cellsD ps).set (k * 2) (.int .i64 p.1)).set (k * 2 + 1) (.int .i64 p.2) = cellsD (ps.set k p)
  | [], k, p => by simp [cellsD_nil]
  | q :: ps, 0, p => by simp [cellsD_cons]
  | q :: ps, k + 1, p => by
    have h := cellsD_set ps k p
    rw [List.set_cons_succ, cellsD_cons, cellsD_cons, show (k + 1) * 2 = k * 2 + 1 + 1 by omega, ← h]
    simp only [List.set_cons_succ]
theorem cellsD_mem (ps : List (Int × Int)) : ∀ u ∈ cellsD ps, u.oneCell' = true := by
  intro u hu
  simp only [cellsD, List.mem_flatMap] at hu
  obtain ⟨p, _, hu⟩ := hu
  simp at hu
  rcases hu with rfl | rfl <;> rfl

theorem deal_info : (Try.prog.info? 54).map (fun i => (i.zero, i.size, i.bytes)) = some (some (.agg #[.int .i64 0, .int .i64 0]), 2, 16) := by kernel_rfl

/-- The slice (A, as long as ps, c) lies in a block of the call's own, from block B on, and holds the pairs ps. -/
def OwnD (w : World) (B : Nat) (A : Option Addr) (c : Nat) (ps : List (Int × Int)) : Prop :=
  w.ownsRow B 54 2 (.slice A ps.length c) ps.length (cellsD ps)
theorem OwnD.below {w w' : World} {B : Nat} {A : Option Addr} {c : Nat} {ps : List (Int × Int)} (h : OwnD w B A c ps) (hb : Below w.heap.size w w') : OwnD w' B A c ps := own_len h hb
theorem OwnD.base {w : World} {B B' : Nat} {A : Option Addr} {c : Nat} {ps : List (Int × Int)} (h : OwnD w B A c ps) (hB : B' ≤ B) : OwnD w B' A c ps := own_base h hB
theorem OwnD.drewN {w : World} {B : Nat} {A : Option Addr} {c : Nat} {ps : List (Int × Int)} (h : OwnD w B A c ps) (n : Nat) : OwnD (w.drewN n) B A c ps := h
theorem OwnD.drew {w : World} {B : Nat} {A : Option Addr} {c : Nat} {ps : List (Int × Int)} (h : OwnD w B A c ps) : OwnD w.drew B A c ps := h

section
variable {w : World} {B g c : Nat} {ps : List (Int × Int)}
theorem OwnD.cell (h : OwnD w B (some ⟨g, 0, none⟩) c ps) {i : Nat} {x y : Int} (hx : ps[i]? = some (x, y)) : w.cell? ⟨g, i * 2, none⟩ = some (.int .i64 x) ∧ w.cell? ⟨g, i * 2 + 1, none⟩ = some (.int .i64 y) := by
  have hi := (List.getElem?_eq_some_iff.1 hx).1
  have e1 := World.ownsRow.cellAt h (i * 2) (by omega)
  have e2 := World.ownsRow.cellAt h (i * 2 + 1) (by omega)
  obtain ⟨h1, h2⟩ := cellsD_at ps i
  rw [e1, e2, h1, h2, hx]
  exact ⟨rfl, rfl⟩
theorem OwnD.free (h : OwnD w B (some ⟨g, 0, none⟩) c ps) (i : Nat) : w.frozen? ⟨g, i, none⟩ = false := World.ownsRow.frozenAt h i
theorem OwnD.set_ (h : OwnD w B (some ⟨g, 0, none⟩) c ps) (i : Nat) (x y : Int) : OwnD ((w.setCell ⟨g, i * 2, none⟩ (.int .i64 x)).setCell ⟨g, i * 2 + 1, none⟩ (.int .i64 y)) B (some ⟨g, 0, none⟩) c (ps.set i (x, y)) := by
  have h1 := (World.ownsRow.stored h (i * 2) (.int .i64 x)).1
  have h2 := (World.ownsRow.stored h1 (i * 2 + 1) (.int .i64 y)).1
  unfold OwnD
  rw [List.length_set, ← cellsD_set]
  exact h2
theorem OwnD.ge (h : OwnD w B (some ⟨g, 0, none⟩) c ps) : B ≤ g := (World.ownsRow.lt h g rfl).1
theorem OwnD.lt (h : OwnD w B (some ⟨g, 0, none⟩) c ps) : g < w.heap.size := (World.ownsRow.lt h g rfl).2
theorem OwnD.other (h : OwnD w B (some ⟨g, 0, none⟩) c ps) {C i : Nat} (hne : C ≠ g) (u : Value) : OwnD (w.setCell ⟨C, i, none⟩ u) B (some ⟨g, 0, none⟩) c ps := by
  refine World.ownsRow.kept (row := some C) h ⟨rfl, rfl, rfl, by simp, fun k _ hk => ?_⟩ (.inr (by simp [Value.ownBlock]; omega))
  exact Below.heap_setCell _ _ _ _ (fun e => hk (by simp [e]))
theorem OwnD.other2 (h : OwnD w B (some ⟨g, 0, none⟩) c ps) {C : Nat} (hne : C ≠ g) (u v : Value) : OwnD ((w.setCell ⟨C, 0, none⟩ u).setCell ⟨C, 1, none⟩ v) B (some ⟨g, 0, none⟩) c ps := (h.other hne u).other hne v
end

theorem OwnD.empty (w : World) : OwnD (w.alloc (.cells #[] 54)) w.heap.size (some ⟨w.heap.size, 0, none⟩) 0 [] :=
  World.ownsRow_lit w #[] 0 (Nat.le_refl _) (Nat.zero_le _) rfl

/-- The slice (A, as long as ps, c) reads as the pairs ps. -/
def RdD (w : World) (A : Option Addr) (c : Nat) (ps : List (Int × Int)) : Prop :=
  (ps = [] ∧ (A = none → c = 0)) ∨ ∃ b, A = some ⟨b, 0, none⟩ ∧ ∀ k x y, ps[k]? = some (x, y) → w.cell? ⟨b, k * 2, none⟩ = some (.int .i64 x) ∧ w.cell? ⟨b, k * 2 + 1, none⟩ = some (.int .i64 y)
theorem RdD.nil (w : World) : RdD w none 0 [] := .inl ⟨rfl, fun _ => rfl⟩
theorem OwnD.rd {w : World} {B : Nat} {A : Option Addr} {c : Nat} {ps : List (Int × Int)} (h : OwnD w B A c ps) : RdD w A c ps := by
  have h' := h
  unfold OwnD at h
  rcases h.2 with ⟨hv, hn⟩ | ⟨g, cap, cur, hv, _⟩
  · injection hv with _ _ hc
    exact .inl ⟨List.eq_nil_of_length_eq_zero hn, fun _ => hc⟩
  · injection hv with hA _ hc
    subst hA
    exact .inr ⟨g, rfl, fun k x y hk => h'.cell hk⟩
theorem RdD.below {w w' : World} {A : Option Addr} {c : Nat} {ps : List (Int × Int)} (h : RdD w A c ps) (hb : Below w.heap.size w w') : RdD w' A c ps := by
  rcases h with h | ⟨b, rfl, hc⟩
  · exact .inl h
  · refine .inr ⟨b, rfl, fun k x y hk => ?_⟩
    obtain ⟨h1, h2⟩ := hc k x y hk
    exact ⟨(hb.cell (p := ⟨b, k * 2, none⟩) (World.block_lt_of_cell? w _ h1)).trans h1, (hb.cell (p := ⟨b, k * 2 + 1, none⟩) (World.block_lt_of_cell? w _ h2)).trans h2⟩
theorem RdD.drewN {w : World} {A : Option Addr} {c : Nat} {ps : List (Int × Int)} (h : RdD w A c ps) (n : Nat) : RdD (w.drewN n) A c ps := h
theorem RdD.at_ {w : World} {A : Option Addr} {c : Nat} {ps : List (Int × Int)} (h : RdD w A c ps) {k : Nat} (hk : k < ps.length) :
    ∃ b x y, A = some ⟨b, 0, none⟩ ∧ b < w.heap.size ∧ Hid (ps[k]? = some (x, y)) ∧ w.cell? ⟨b, k * 2, none⟩ = some (.int .i64 x) ∧ w.cell? ⟨b, k * 2 + 1, none⟩ = some (.int .i64 y) := by
  rcases h with ⟨rfl, _⟩ | ⟨b, rfl, hc⟩
  · simp at hk
  · obtain ⟨h1, h2⟩ := hc k (ps[k]).1 (ps[k]).2 (by simp [hk])
    exact ⟨b, (ps[k]).1, (ps[k]).2, rfl, World.block_lt_of_cell? w _ h1, Lib.hid (by simp [hk]), h1, h2⟩

theorem ownD_shape {w : World} {B n : Nat} {v : Value} {ps : List (Int × Int)} (h : w.ownsRow B 54 2 v n (cellsD ps)) :
    n = ps.length ∧ ((v = .slice none 0 0 ∧ ps = []) ∨ ∃ g c, v = .slice (some ⟨g, 0, none⟩) ps.length c) := by
  have hl := h.1
  rw [cellsD_len] at hl
  rcases h.2 with ⟨hv, hn⟩ | ⟨g, cap, cur, hv, hg, _⟩
  · exact ⟨by omega, .inl ⟨hv, List.eq_nil_of_length_eq_zero (by omega)⟩⟩
  · exact ⟨by omega, .inr ⟨g, cap, by rw [hv]; congr 1; omega⟩⟩

theorem run_append_deal (ty : TypeId) (w : World) (base : Nat) (A0 : Option Addr) (c0 : Nat) (ps : List (Int × Int)) (hown : OwnD w base A0 c0 ps) (b c : Nat) (x y : Int)
    (h0 : w.cell? ⟨b, 0, none⟩ = some (.int .i64 x)) (h1 : w.cell? ⟨b, 1, none⟩ = some (.int .i64 y)) (hn : ps.length + 1 ≤ 1099511627776) (hbase : base ≤ w.heap.size) :
    ∃ g' c' w', (Builtin.append_ #[51, 51] ty #[.slice A0 ps.length c0, .slice (some ⟨b, 0, none⟩) 1 c]).run Try.prog w = .ok (.slice (some ⟨g', 0, none⟩) (ps.length + 1) c') w' ∧
      OwnD w' base (some ⟨g', 0, none⟩) c' (ps ++ [(x, y)]) ∧ w.grownBy w' (ofA A0) := by
  obtain ⟨i0, hi, hz0, hz1, hz2⟩ := info_parts deal_info
  have hblk : (Value.slice A0 ps.length c0).ownBlock = ofA A0 := by cases A0 <;> rfl
  obtain ⟨v', w', hrun, h2, h3, h4, _⟩ := run_append_own_at (P := Try.prog) w base 51 ty 54 i0 (.agg #[.int .i64 0, .int .i64 0]) 2 16 Try.underlying51 hi hz0 hz1 hz2 rfl (by decide) (.slice A0 ps.length c0) ps.length (cellsD ps) hown ⟨b, 0, none⟩ 1 c (cellsD [(x, y)]) rfl
    (fun j u hu => by
      match j, hu with
      | 0, hu => simp [cellsD_cons, cellsD_nil] at hu; subst hu; simpa [Addr.add] using h0
      | 1, hu => simp [cellsD_cons, cellsD_nil] at hu; subst hu; simpa [Addr.add] using h1
      | j + 2, hu => simp [cellsD_cons, cellsD_nil] at hu)
    (cellsD_mem _) (by unfold maxLen; omega) (by omega) hbase
  rw [← cellsD_app] at h2
  obtain ⟨_, ⟨hv, hz⟩ | ⟨g, c', hv⟩⟩ := ownD_shape h2
  · simp at hz
  · subst hv
    rw [List.length_append] at hrun h2
    exact ⟨g, c', w', hrun, by unfold OwnD; rw [List.length_append]; exact h2, hblk ▸ h3⟩

theorem wpList_append_deal {ops : Array Oper} {rest : List Oper} {o : Oper} {a : Act} {w : World} {Q : Exit → Act → World → Prop} (hgd : o.guard = none) (s x : Operand)
    (ho : o.op = .call { callee := .builtin .append, args := #[s, x], argTypes := #[51, 51] })
    (base : Nat) (A0 : Option Addr) (c0 : Nat) (ps : List (Int × Int)) (n : Nat) (hpn : ps.length = n) (hs : a.eval s = .slice A0 n c0) (hown : OwnD w base A0 c0 ps)
    (b c : Nat) (u v : Int) (hx : a.eval x = .slice (some ⟨b, 0, none⟩) 1 c) (h0 : w.cell? ⟨b, 0, none⟩ = some (.int .i64 u)) (h1 : w.cell? ⟨b, 1, none⟩ = some (.int .i64 v))
    (hn : n + 1 ≤ 1099511627776) (hbase : base ≤ w.heap.size)
    (h : ∀ g c' w', OwnD w' base (some ⟨g, 0, none⟩) c' (ps ++ [(u, v)]) → w.grownBy w' (ofA A0) → wpList Try.prog ops Q rest (a.put o.dst (.slice (some ⟨g, 0, none⟩) (n + 1) c')) w') :
    wpList Try.prog ops Q (o :: rest) a w := by
  subst hpn
  refine wpList_plain hgd fun K hK => ?_
  obtain ⟨g, c', w', hrun, h2, h3⟩ := run_append_deal o.type w base A0 c0 ps hown b c u v h0 h1 hn hbase
  unfold Oper.wp execOp
  simp only [ho, resolve, invoke, builtin, Sem.run_bind, Sem.run_pure, Result.andThen_ok, List.map_toArray, List.map_cons, List.map_nil, hs, hx, hrun]
  exact hK _ _ (h g c' w' h2 h3)

/-! ### The deals of two lists -/

def dlF (D U : List Int) : List (Int × Int) := (D.zip U).take (trN D U)
theorem dl_take {D U : List Int} {k : Nat} {x y : Int} (hx : D[k]? = some x) (hy : U[k]? = some y) : (D.zip U).take (k + 1) = (D.zip U).take k ++ [(x, y)] := by
  have e : (D.zip U)[k]? = some (x, y) := by
    rw [List.getElem?_zip_eq_some]; exact ⟨hx, hy⟩
  rw [List.take_add_one, e]; rfl
theorem dlF_len (D U : List Int) : (dlF D U).length = trN D U := by
  have := trN_le D U
  unfold dlF
  rw [List.length_take, List.length_zip]; omega
theorem dlF_at {D U : List Int} {k : Nat} {x y : Int} (hx : D[k]? = some x) (hy : U[k]? = some y) (hk : k < trN D U) : (dlF D U)[k]? = some (x, y) := by
  unfold dlF
  rw [List.getElem?_take_of_lt hk, List.getElem?_zip_eq_some]; exact ⟨hx, hy⟩
theorem trN_end (D U : List Int) : trG (D.drop (trN D U)) (U.drop (trN D U)) = 0 := by
  rcases Nat.lt_or_ge (trN D U) D.length with h1 | h1
  · rcases Nat.lt_or_ge (trN D U) U.length with h2 | h2
    · have e1 := List.getElem?_eq_getElem h1
      have e2 := List.getElem?_eq_getElem h2
      have := tr_out D U _ _ e1 e2
      exact (tr_no e1 e2 (by omega)).2
    · exact (tr_end (.inr h2)).2
  · exact (tr_end (.inl h1)).2

end Go.Proofs.Ytpildecpabeanaa
