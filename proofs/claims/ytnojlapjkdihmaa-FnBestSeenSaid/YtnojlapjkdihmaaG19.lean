/-
  Chapter 11, the program: a fraction divided, the ways below a value, BestSeen.
-/
import Derived.Test.YtnojlapjkdihmaaG17
import Derived.Test.YtnojlapjkdihmaaG18
namespace Go.Proofs.Ytnojlapjkdihmaa
open Go.RowKit

set_option maxHeartbeats 600000 in
theorem over_any (a b k n m : Int) (w : World) (hq : FrIs (fq a (b * k)) n m) (h1 : -4611686018427387904 < a) (h2 : a ≤ 4611686018427387903) (h5 : 1 ≤ b * k) (h6 : b * k ≤ 4611686018427387903) :
    Calls Try.prog 115 #[frV a b, .int .i64 k] w fun e w' => e = .returned (frV n m) ∧ Below w.heap.size w w' := by
  have HC := Lib.hid (fun w => fracOf_any _ _ _ _ w hq h5 (by omega) (by omega) h6)
  clear hq
  unfold frV
  go_enter Try.func115, Try.ntmps115
  go_wp2_with fail
  refine (HC.out _).mono ?_
  rintro e w' ⟨rfl, hb⟩
  have hk := pair_in (B := w.heap.size + 1) hb (by simp)
  obtain ⟨c0, c1, f0, f1⟩ := pair_facts hk
  unfold frV
  go_wp2
  obtain ⟨e0, e1, _, _⟩ := pair_facts (pair_set (.int .i64 n) (.int .i64 m) hk)
  have hB := pair_below (.int .i64 n) (.int .i64 m) (B := w.heap.size + 1) hb (by simp)
  refine bodyPost_ret (v := frV n m) (by simp [results, Try.results115, go_sem, frV, e0, e1]) rfl ⟨rfl, ?_⟩
  exact below_up (below_al _ _) hB

theorem belowL_snoc (t : Nat) (xs : List (List Int)) (x : List Int) : belowL t (xs ++ [x]) = belowL t xs * (tailW x 0 - tailW x t) := by
  rw [belowL_app]; simp [belowL]
theorem belowL_step {t : Nat} {rows : List (List Int)} {k : Nat} {r : List Int} (hr : rows[k]? = some r) : belowL t (rows.take (k + 1)) = belowL t (rows.take k) * (tailW r 0 - tailW r t) := by
  rw [List.take_add_one, hr]; exact belowL_snoc t _ r
theorem VS.take {rows : List (List Int)} (h : VS rows) (k : Nat) : VS (rows.take k) := fun x hx => h x (List.mem_of_mem_take hx)
theorem ways_36 {rows : List (List Int)} (hv : VS rows) (hl : rows.length ≤ 4) : 1 ≤ waysL rows ∧ waysL rows ≤ 1679616 := by
  refine ⟨waysL_pos rows hv, Int.le_trans (waysL_le rows hv) ?_⟩
  have : rows.length = 0 ∨ rows.length = 1 ∨ rows.length = 2 ∨ rows.length = 3 ∨ rows.length = 4 := by omega
  rcases this with h | h | h | h | h <;> rw [h] <;> decide
theorem below_36 {rows : List (List Int)} (hv : VS rows) (hl : rows.length ≤ 4) (t : Nat) : 0 ≤ belowL t rows ∧ belowL t rows ≤ 1679616 := by
  have h1 := belowL_bd t rows hv
  have h2 := ways_36 hv hl
  omega

theorem calls_qs {P : Program} {f : FuncId} {args : Array Value} {w : World} {n : Nat} {v : Value} (h : Calls P f args (w.drewN n) fun e w' => e = .returned v ∧ w.drewN n = w') :
    Calls P f args (w.drewN n) fun e w'' => e = .returned v ∧ ∃ k, w'' = w.drewN k := h.mono fun _ _ ⟨he, hw⟩ => ⟨he, n, hw.symm⟩

set_option maxHeartbeats 1000000 in
theorem waysBelow_any (A : Option Addr) (c v : Nat) (rows : List (List Int)) (w : World) (h : RdR w A c rows) (hv : vsB rows = true) (hv6 : v ≤ 6) :
    Calls Try.prog 104 #[.slice A rows.length c, .int .i64 v] w fun e w' => e = .returned (.int .i64 (belowL v rows)) ∧ ∃ n, w' = w.drewN n := by
  have hl := (vs_is hv).1
  have HV := Lib.hid (vs_VS hv)
  have HM := Lib.hid (vs_is hv).2
  clear hv
  go_enter Try.func104, Try.ntmps104
  go_wp2
  go_loopw [5, 10] (fun s i wr => ∃ k n : Nat, k ≤ rows.length ∧ i = .int .i64 k ∧ (∃ t, s = .int .i64 t ∧ Hid (t = belowL v (rows.take k))) ∧ wr = w.drewN n) (fun _ i _ => rows.length - (intOf i).toNat)
  case atStart => exact ⟨0, 0, Nat.zero_le _, rfl, ⟨_, rfl, Lib.hid rfl⟩, rfl⟩
  case round =>
    obtain ⟨k, n, hk, rfl, ⟨t, rfl, HT⟩, rfl⟩ := hrel
    by_cases hlt : k < rows.length
    · obtain ⟨b, off, r, A', c', rfl, hr, hc, hcap, hrd⟩ := h.at_ hlt
      have hrv := HM.out r (List.mem_of_getElem? hr.out)
      obtain ⟨b', off', rfl⟩ := hrd.out.open1 (vW_le hrv).1
      have hrl := (vW_le hrv).2
      have H0 := Lib.hid (fun n => manyFrom_any b' off' c' r 0 (w.drewN n) (hrd.out.drewN n) hcap.out (by omega) (by omega) (vW_small hrv))
      have H1 := Lib.hid (fun n => manyFrom_any b' off' c' r v (w.drewN n) (hrd.out.drewN n) hcap.out (by omega) (by omega) (vW_small hrv))
      have hb := below_36 (HV.out.take k) (by rw [List.length_take]; omega) v
      rw [← HT.out] at hb
      have t0 := rev_b hrv 0
      have t1 := rev_b hrv v
      have HN : Hid (t * (tailW r 0 - tailW r v) = belowL v (rows.take (k + 1))) := Lib.hid (by rw [belowL_step hr.out, ← HT.out])
      have hb2 := below_36 (HV.out.take (k + 1)) (by rw [List.length_take]; omega) v
      rw [← HN.out] at hb2
      generalize tailW r 0 = y at *
      generalize tailW r v = z at *
      clear hr hrd hcap
      go_wp2_with fail
      refine (H0.out _).mono ?_
      rintro e w1 ⟨rfl, rfl⟩
      go_wp2_with fail
      refine (H1.out _).mono ?_
      rintro e w1 ⟨rfl, rfl⟩
      go_wp2
      go_roundw
      case rel => exact ⟨k + 1, _, by omega, by go_num, ⟨_, rfl, HN⟩, rfl⟩
      case measure => simp [intOf]; omega
    · obtain rfl : k = rows.length := by omega
      have HE : Hid (t = belowL v rows) := Lib.hid (by have := HT.out; rwa [List.take_length] at this)
      go_wp2
      go_ret
      exact ⟨by rw [HE.out]; rfl, _, rfl⟩

theorem PairAt.drew {w : World} {B : Nat} {x y : Int} (h : PairAt w B x y) : PairAt w.drew B x y := h
theorem PairAt.drewN {w : World} {B : Nat} {x y : Int} (h : PairAt w B x y) (n : Nat) : PairAt (w.drewN n) B x y := h

/-- A fraction and true, or the zero value and false. -/
def yesV (q : Rat) : Value := .tuple #[frV q.num (q.den : Int), .bool true]
def nayV : Value := .tuple #[frV 0 0, .bool false]
def stV (b : Bool) (q : Rat) : Value := if b = true then yesV q else nayV
theorem stV_yes {b : Bool} {q : Rat} (h : b = true) : stV b q = yesV q := by unfold stV; rw [if_pos h]
theorem stV_no {b : Bool} {q : Rat} (h : b = false) : stV b q = nayV := by unfold stV; rw [if_neg (by simp [h])]
end Go.Proofs.Ytnojlapjkdihmaa

/-
  Words for slices of fractions in memory.
-/
namespace Go.Proofs.Ytnojlapjkdihmaa
open Go.RowKit

/-- The cells of pairs, one behind the other. -/
def cellsF (ps : List (Int × Int)) : List Value := ps.flatMap fun p => [.int .i64 p.1, .int .i64 p.2]
theorem cellsF_nil : cellsF [] = [] := rfl
theorem cellsF_cons (p : Int × Int) (ps : List (Int × Int)) : cellsF (p :: ps) = .int .i64 p.1 :: .int .i64 p.2 :: cellsF ps := rfl
theorem cellsF_len (ps : List (Int × Int)) : (cellsF ps).length = ps.length * 2 := by
  induction ps with
  | nil => rfl
  | cons p ps ih => rw [cellsF_cons]; simp [ih]; omega
theorem cellsF_app (ps qs : List (Int × Int)) : cellsF (ps ++ qs) = cellsF ps ++ cellsF qs := by unfold cellsF; rw [List.flatMap_append]
theorem cellsF_at : ∀ (ps : List (Int × Int)) (k : Nat), (cellsF ps)[k * 2]? = ps[k]?.map (fun p => Value.int .i64 p.1) ∧ (cellsF ps)[k * 2 + 1]? = ps[k]?.map (fun p => Value.int .i64 p.2)
  | [], k => by simp [cellsF_nil]
  | p :: ps, 0 => by simp [cellsF_cons]
  | p :: ps, k + 1 => by
    obtain ⟨h1, h2⟩ := cellsF_at ps k
    rw [cellsF_cons, show (k + 1) * 2 = k * 2 + 1 + 1 by omega]
    simp only [List.getElem?_cons_succ]
    exact ⟨h1, h2⟩
theorem cellsF_set : ∀ (ps : List (Int × Int)) (k : Nat) (p : Int × Int), ((cellsF ps).set (k * 2) (.int .i64 p.1)).set (k * 2 + 1) (.int .i64 p.2) = cellsF (ps.set k p)
  | [], k, p => by simp [cellsF_nil]
  | q :: ps, 0, p => by simp [cellsF_cons]
  | q :: ps, k + 1, p => by
    have h := cellsF_set ps k p
    rw [List.set_cons_succ, cellsF_cons, cellsF_cons, show (k + 1) * 2 = k * 2 + 1 + 1 by omega, ← h]
    simp only [List.set_cons_succ]
theorem cellsF_mem (ps : List (Int × Int)) : ∀ u ∈ cellsF ps, u.oneCell' = true := by
  intro u hu
  simp only [cellsF, List.mem_flatMap] at hu
  obtain ⟨p, _, hu⟩ := hu
  simp at hu
  rcases hu with rfl | rfl <;> rfl

theorem frac_info : (Try.prog.info? 36).map (fun i => (i.zero, i.size, i.bytes)) = some (some (.agg #[.int .i64 0, .int .i64 0]), 2, 16) := by kernel_rfl

/-- The slice (A, as long as ps, c) lies in a block of the call's own, from block B on, and holds the pairs ps. -/
def OwnF (w : World) (B : Nat) (A : Option Addr) (c : Nat) (ps : List (Int × Int)) : Prop :=
  w.ownsRow B 36 2 (.slice A ps.length c) ps.length (cellsF ps)
theorem OwnF.below {w w' : World} {B : Nat} {A : Option Addr} {c : Nat} {ps : List (Int × Int)} (h : OwnF w B A c ps) (hb : Below w.heap.size w w') : OwnF w' B A c ps := own_len h hb
theorem OwnF.base {w : World} {B B' : Nat} {A : Option Addr} {c : Nat} {ps : List (Int × Int)} (h : OwnF w B A c ps) (hB : B' ≤ B) : OwnF w B' A c ps := own_base h hB
theorem OwnF.drewN {w : World} {B : Nat} {A : Option Addr} {c : Nat} {ps : List (Int × Int)} (h : OwnF w B A c ps) (n : Nat) : OwnF (w.drewN n) B A c ps := h
theorem OwnF.drew {w : World} {B : Nat} {A : Option Addr} {c : Nat} {ps : List (Int × Int)} (h : OwnF w B A c ps) : OwnF w.drew B A c ps := h

section
variable {w : World} {B g c : Nat} {ps : List (Int × Int)}
theorem OwnF.cell (h : OwnF w B (some ⟨g, 0, none⟩) c ps) {i : Nat} {x y : Int} (hx : ps[i]? = some (x, y)) : w.cell? ⟨g, i * 2, none⟩ = some (.int .i64 x) ∧ w.cell? ⟨g, i * 2 + 1, none⟩ = some (.int .i64 y) := by
  have hi := (List.getElem?_eq_some_iff.1 hx).1
  have e1 := World.ownsRow.cellAt h (i * 2) (by omega)
  have e2 := World.ownsRow.cellAt h (i * 2 + 1) (by omega)
  obtain ⟨h1, h2⟩ := cellsF_at ps i
  rw [e1, e2, h1, h2, hx]
  exact ⟨rfl, rfl⟩
theorem OwnF.free (h : OwnF w B (some ⟨g, 0, none⟩) c ps) (i : Nat) : w.frozen? ⟨g, i, none⟩ = false := World.ownsRow.frozenAt h i
theorem OwnF.set_ (h : OwnF w B (some ⟨g, 0, none⟩) c ps) (i : Nat) (x y : Int) : OwnF ((w.setCell ⟨g, i * 2, none⟩ (.int .i64 x)).setCell ⟨g, i * 2 + 1, none⟩ (.int .i64 y)) B (some ⟨g, 0, none⟩) c (ps.set i (x, y)) := by
  have h1 := (World.ownsRow.stored h (i * 2) (.int .i64 x)).1
  have h2 := (World.ownsRow.stored h1 (i * 2 + 1) (.int .i64 y)).1
  unfold OwnF
  rw [List.length_set, ← cellsF_set]
  exact h2
theorem OwnF.ge (h : OwnF w B (some ⟨g, 0, none⟩) c ps) : B ≤ g := (World.ownsRow.lt h g rfl).1
theorem OwnF.lt (h : OwnF w B (some ⟨g, 0, none⟩) c ps) : g < w.heap.size := (World.ownsRow.lt h g rfl).2
theorem OwnF.other (h : OwnF w B (some ⟨g, 0, none⟩) c ps) {C i : Nat} (hne : C ≠ g) (u : Value) : OwnF (w.setCell ⟨C, i, none⟩ u) B (some ⟨g, 0, none⟩) c ps := by
  refine World.ownsRow.kept (row := some C) h ⟨rfl, rfl, rfl, by simp, fun k _ hk => ?_⟩ (.inr (by simp [Value.ownBlock]; omega))
  exact Below.heap_setCell _ _ _ _ (fun e => hk (by simp [e]))
theorem OwnF.other2 (h : OwnF w B (some ⟨g, 0, none⟩) c ps) {C : Nat} (hne : C ≠ g) (u v : Value) : OwnF ((w.setCell ⟨C, 0, none⟩ u).setCell ⟨C, 1, none⟩ v) B (some ⟨g, 0, none⟩) c ps := (h.other hne u).other hne v
end

theorem OwnF.empty (w : World) : OwnF (w.alloc (.cells #[] 36)) w.heap.size (some ⟨w.heap.size, 0, none⟩) 0 [] :=
  World.ownsRow_lit w #[] 0 (Nat.le_refl _) (Nat.zero_le _) rfl

/-- The slice (A, as long as ps, c) reads as the pairs ps. -/
def RdF (w : World) (A : Option Addr) (c : Nat) (ps : List (Int × Int)) : Prop :=
  (ps = [] ∧ (A = none → c = 0)) ∨ ∃ b, A = some ⟨b, 0, none⟩ ∧ ∀ k x y, ps[k]? = some (x, y) → w.cell? ⟨b, k * 2, none⟩ = some (.int .i64 x) ∧ w.cell? ⟨b, k * 2 + 1, none⟩ = some (.int .i64 y)
theorem RdF.nil (w : World) : RdF w none 0 [] := .inl ⟨rfl, fun _ => rfl⟩
theorem OwnF.rd {w : World} {B : Nat} {A : Option Addr} {c : Nat} {ps : List (Int × Int)} (h : OwnF w B A c ps) : RdF w A c ps := by
  have h' := h
  unfold OwnF at h
  rcases h.2 with ⟨hv, hn⟩ | ⟨g, cap, cur, hv, _⟩
  · injection hv with _ _ hc
    exact .inl ⟨List.eq_nil_of_length_eq_zero hn, fun _ => hc⟩
  · injection hv with hA _ hc
    subst hA
    exact .inr ⟨g, rfl, fun k x y hk => h'.cell hk⟩
theorem RdF.below {w w' : World} {A : Option Addr} {c : Nat} {ps : List (Int × Int)} (h : RdF w A c ps) (hb : Below w.heap.size w w') : RdF w' A c ps := by
  rcases h with h | ⟨b, rfl, hc⟩
  · exact .inl h
  · refine .inr ⟨b, rfl, fun k x y hk => ?_⟩
    obtain ⟨h1, h2⟩ := hc k x y hk
    exact ⟨(hb.cell (p := ⟨b, k * 2, none⟩) (World.block_lt_of_cell? w _ h1)).trans h1, (hb.cell (p := ⟨b, k * 2 + 1, none⟩) (World.block_lt_of_cell? w _ h2)).trans h2⟩
theorem RdF.drewN {w : World} {A : Option Addr} {c : Nat} {ps : List (Int × Int)} (h : RdF w A c ps) (n : Nat) : RdF (w.drewN n) A c ps := h
theorem RdF.at_ {w : World} {A : Option Addr} {c : Nat} {ps : List (Int × Int)} (h : RdF w A c ps) {k : Nat} (hk : k < ps.length) :
    ∃ b x y, A = some ⟨b, 0, none⟩ ∧ b < w.heap.size ∧ Hid (ps[k]? = some (x, y)) ∧ w.cell? ⟨b, k * 2, none⟩ = some (.int .i64 x) ∧ w.cell? ⟨b, k * 2 + 1, none⟩ = some (.int .i64 y) := by
  rcases h with ⟨rfl, _⟩ | ⟨b, rfl, hc⟩
  · simp at hk
  · obtain ⟨h1, h2⟩ := hc k (ps[k]).1 (ps[k]).2 (by simp [hk])
    exact ⟨b, (ps[k]).1, (ps[k]).2, rfl, World.block_lt_of_cell? w _ h1, Lib.hid (by simp [hk]), h1, h2⟩

theorem toList_madeCells_two (n : Nat) : (madeCells #[.int .i64 0, .int .i64 0] (n * 2)).toList = cellsF (List.replicate n (0, 0)) := by
  have e : cellsF (List.replicate n (0, 0)) = List.replicate (n * 2) (.int .i64 0) := by
    induction n with
    | zero => rfl
    | succ n ih => rw [List.replicate_succ, cellsF_cons, ih, show (n + 1) * 2 = n * 2 + 1 + 1 by omega, List.replicate_succ, List.replicate_succ]
  rw [e]
  apply List.ext_getElem?
  intro j
  by_cases hj : j < n * 2
  · have h2 : j % 2 < 2 := Nat.mod_lt _ (by decide)
    rcases Nat.mod_two_eq_zero_or_one j with h | h <;> simp [madeCells, hj, h]
  · simp [madeCells, hj]

/-- 'make([]Frac, n)'. -/
theorem wpList_make_fracs {ops : Array Oper} {rest : List Oper} {o : Oper} {a : Act} {w : World} {Q : Exit → Act → World → Prop} (hg : o.guard = none) (l c : Operand)
    (hop : o.op = Op.makeSlice 127 l c) (base n : Nat) (hl : a.eval l = .int .i64 (n : Int)) (hc : a.eval c = .int .i64 (n : Int)) (hn : n ≤ 1099511627776) (hb : base ≤ w.heap.size)
    (hK : ∀ w', OwnF w' base (some ⟨w.heap.size, 0, none⟩) n (List.replicate n (0, 0)) → Below base w w' → wpList Try.prog ops Q rest (a.put o.dst (.slice (some ⟨w.heap.size, 0, none⟩) n n)) w') :
    wpList Try.prog ops Q (o :: rest) a w := by
  obtain ⟨i0, hi, hz0, hz1, hz2⟩ := info_parts frac_info
  refine wpList_make_full w hg l c 127 hop base 36 i0 (.agg #[.int .i64 0, .int .i64 0]) 2 Try.underlying127 hi hz0 hz1 .i64 .i64 n n n hl hc rfl rfl (by rw [hz2]; omega) (by unfold maxLen; omega) hb ?_
  intro w' h1 h2
  refine hK w' ?_ ((Below.refl base w).grown h2 hb (fun k h => by cases h))
  unfold OwnF
  rw [List.length_replicate, ← toList_madeCells_two]
  exact h1

theorem ownF_shape {w : World} {B n : Nat} {v : Value} {ps : List (Int × Int)} (h : w.ownsRow B 36 2 v n (cellsF ps)) :
    n = ps.length ∧ ((v = .slice none 0 0 ∧ ps = []) ∨ ∃ g c, v = .slice (some ⟨g, 0, none⟩) ps.length c) := by
  have hl := h.1
  rw [cellsF_len] at hl
  rcases h.2 with ⟨hv, hn⟩ | ⟨g, cap, cur, hv, hg, _⟩
  · exact ⟨by omega, .inl ⟨hv, List.eq_nil_of_length_eq_zero (by omega)⟩⟩
  · exact ⟨by omega, .inr ⟨g, cap, by rw [hv]; congr 1; omega⟩⟩

theorem run_append_frac (ty : TypeId) (w : World) (base : Nat) (A0 : Option Addr) (c0 : Nat) (ps : List (Int × Int)) (hown : OwnF w base A0 c0 ps) (b c : Nat) (x y : Int)
    (h0 : w.cell? ⟨b, 0, none⟩ = some (.int .i64 x)) (h1 : w.cell? ⟨b, 1, none⟩ = some (.int .i64 y)) (hn : ps.length + 1 ≤ 1099511627776) (hbase : base ≤ w.heap.size) :
    ∃ g' c' w', (Builtin.append_ #[127, 127] ty #[.slice A0 ps.length c0, .slice (some ⟨b, 0, none⟩) 1 c]).run Try.prog w = .ok (.slice (some ⟨g', 0, none⟩) (ps.length + 1) c') w' ∧
      OwnF w' base (some ⟨g', 0, none⟩) c' (ps ++ [(x, y)]) ∧ w.grownBy w' (ofA A0) := by
  obtain ⟨i0, hi, hz0, hz1, hz2⟩ := info_parts frac_info
  have hblk : (Value.slice A0 ps.length c0).ownBlock = ofA A0 := by cases A0 <;> rfl
  obtain ⟨v', w', hrun, h2, h3, h4, _⟩ := run_append_own_at (P := Try.prog) w base 127 ty 36 i0 (.agg #[.int .i64 0, .int .i64 0]) 2 16 Try.underlying127 hi hz0 hz1 hz2 rfl (by decide) (.slice A0 ps.length c0) ps.length (cellsF ps) hown ⟨b, 0, none⟩ 1 c (cellsF [(x, y)]) rfl
    (fun j u hu => by
      match j, hu with
      | 0, hu => simp [cellsF_cons, cellsF_nil] at hu; subst hu; simpa [Addr.add] using h0
      | 1, hu => simp [cellsF_cons, cellsF_nil] at hu; subst hu; simpa [Addr.add] using h1
      | j + 2, hu => simp [cellsF_cons, cellsF_nil] at hu)
    (cellsF_mem _) (by unfold maxLen; omega) (by omega) hbase
  rw [← cellsF_app] at h2
  obtain ⟨_, ⟨hv, hz⟩ | ⟨g, c', hv⟩⟩ := ownF_shape h2
  · simp at hz
  · subst hv
    rw [List.length_append] at hrun h2
    exact ⟨g, c', w', hrun, by unfold OwnF; rw [List.length_append]; exact h2, hblk ▸ h3⟩

theorem wpList_append_frac {ops : Array Oper} {rest : List Oper} {o : Oper} {a : Act} {w : World} {Q : Exit → Act → World → Prop} (hgd : o.guard = none) (s x : Operand)
    (ho : o.op = .call { callee := .builtin .append, args := #[s, x], argTypes := #[127, 127] })
    (base : Nat) (A0 : Option Addr) (c0 : Nat) (ps : List (Int × Int)) (n : Nat) (hpn : ps.length = n) (hs : a.eval s = .slice A0 n c0) (hown : OwnF w base A0 c0 ps)
    (b c : Nat) (u v : Int) (hx : a.eval x = .slice (some ⟨b, 0, none⟩) 1 c) (h0 : w.cell? ⟨b, 0, none⟩ = some (.int .i64 u)) (h1 : w.cell? ⟨b, 1, none⟩ = some (.int .i64 v))
    (hn : n + 1 ≤ 1099511627776) (hbase : base ≤ w.heap.size)
    (h : ∀ g c' w', OwnF w' base (some ⟨g, 0, none⟩) c' (ps ++ [(u, v)]) → w.grownBy w' (ofA A0) → wpList Try.prog ops Q rest (a.put o.dst (.slice (some ⟨g, 0, none⟩) (n + 1) c')) w') :
    wpList Try.prog ops Q (o :: rest) a w := by
  subst hpn
  refine wpList_plain hgd fun K hK => ?_
  obtain ⟨g, c', w', hrun, h2, h3⟩ := run_append_frac o.type w base A0 c0 ps hown b c u v h0 h1 hn hbase
  unfold Oper.wp execOp
  simp only [ho, resolve, invoke, builtin, Sem.run_bind, Sem.run_pure, Result.andThen_ok, List.map_toArray, List.map_cons, List.map_nil, hs, hx, hrun]
  exact hK _ _ (h g c' w' h2 h3)
end Go.Proofs.Ytnojlapjkdihmaa

/-
  Chapter 2: the contracts of VirtualOf, of the program and of the model.
-/
namespace Go.Proofs.Ytnojlapjkdihmaa
open Go.RowKit

/-- Fractions as pairs. -/
def frL (qs : List Rat) : List (Int × Int) := qs.map fun q => (q.num, (q.den : Int))
theorem frL_len (qs : List Rat) : (frL qs).length = qs.length := by simp [frL]
theorem frL_at {qs : List Rat} {k : Nat} {x y : Int} (h : (frL qs)[k]? = some (x, y)) : ∃ q, qs[k]? = some q ∧ FrIs q x y := by
  unfold frL at h
  rw [List.getElem?_map] at h
  cases hq : qs[k]? with
  | none => rw [hq] at h; cases h
  | some q => rw [hq] at h; simp at h; exact ⟨q, rfl, h.1.symm, h.2.symm⟩
theorem frL_get {qs : List Rat} {k : Nat} {q : Rat} {x y : Int} (hq : qs[k]? = some q) (h : FrIs q x y) : (frL qs)[k]? = some (x, y) := by
  unfold frL
  rw [List.getElem?_map, hq, h.1, h.2]; rfl

/-- ps up to k, noughts behind. -/
def fillF (ps : List (Int × Int)) (k : Nat) : List (Int × Int) := ps.take k ++ List.replicate (ps.length - k) (0, 0)
theorem fillF_len (ps : List (Int × Int)) (k : Nat) (hk : k ≤ ps.length) : (fillF ps k).length = ps.length := by simp [fillF]; omega
theorem fillF_zero (ps : List (Int × Int)) : fillF ps 0 = List.replicate ps.length (0, 0) := by simp [fillF]
theorem fillF_all (ps : List (Int × Int)) : fillF ps ps.length = ps := by simp [fillF]
theorem fillF_set (ps : List (Int × Int)) (k : Nat) (x : Int × Int) (hx : ps[k]? = some x) : (fillF ps k).set k x = fillF ps (k + 1) := by
  obtain ⟨hk, rfl⟩ := List.getElem?_eq_some_iff.1 hx
  apply List.ext_getElem?
  intro j
  simp only [fillF, List.getElem?_set, List.getElem?_append, List.length_append, List.length_take, List.length_replicate, List.getElem?_take, List.getElem?_replicate]
  rcases Nat.lt_trichotomy j k with h | h | h
  · simp [show ¬ k = j by omega, show j < min k ps.length by omega, show j < min (k + 1) ps.length by omega, h, show j < k + 1 by omega]
  · subst h
    simp [show j < min (j + 1) ps.length by omega, show j < min j ps.length + (ps.length - j) by omega, hk]
  · simp [show ¬ k = j by omega, show ¬ j < min k ps.length by omega, show ¬ j < min (k + 1) ps.length by omega]
    have e1 : j - min k ps.length < ps.length - k ↔ j - min (k + 1) ps.length < ps.length - (k + 1) := by omega
    by_cases hh : j - min k ps.length < ps.length - k
    · rw [if_pos hh, if_pos (e1.1 hh)]
    · rw [if_neg hh, if_neg (fun x => hh (e1.2 x))]

/-- The virtual values of all values. -/
def virtL (xs : List Int) : List Rat := (List.range xs.length).map (virtQ xs)
theorem virtL_len (xs : List Int) : (virtL xs).length = xs.length := by simp [virtL]
theorem virtL_at {xs : List Int} {k : Nat} (h : k < xs.length) : (virtL xs)[k]? = some (virtQ xs k) := by simp [virtL, h]
theorem virtL_take {xs : List Int} {k : Nat} (h : k < xs.length) : (virtL xs).take (k + 1) = (virtL xs).take k ++ [virtQ xs k] := by rw [List.take_add_one, virtL_at h]; rfl

/-- What a call hands back: nil, or fractions in a block of its own; what was there is as it was. -/
def OutF (w : World) (o : Option (List Rat)) (e : Ending) (w' : World) : Prop :=
  Below w.heap.size w w' ∧ ((o = none ∧ e = .returned (.slice none 0 0)) ∨ ∃ qs g c, o = some qs ∧ e = .returned (.slice (some ⟨g, 0, none⟩) (frL qs).length c) ∧ OwnF w' w.heap.size (some ⟨g, 0, none⟩) c (frL qs))

def virtO (xs : List Int) : Option (List Rat) := if vW xs = true then some (virtL xs) else none

end Go.Proofs.Ytnojlapjkdihmaa
