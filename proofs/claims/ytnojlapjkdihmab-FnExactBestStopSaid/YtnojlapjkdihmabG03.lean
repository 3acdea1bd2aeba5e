/-
  The exact laws' helpers for lists of rows: copied.
-/
import Derived.Test.YtnojlapjkdihmabG02
import Derived.Deep.RegionWith
namespace Go.Proofs.Ytnojlapjkdihmab
open Go.RowKit

/-- 'make([][]int, n)': n nil rows in a block of the call's own. -/
theorem wpList_make_rows {ops : Array Oper} {rest : List Oper} {o : Oper} {a : Act} {w : World} {Q : Exit → Act → World → Prop} (hg : o.guard = none) (l c : Operand)
    (hop : o.op = Op.makeSlice 22 l c) (base n : Nat) (hl : a.eval l = .int .i64 (n : Int)) (hc : a.eval c = .int .i64 (n : Int)) (hn : n ≤ 1099511627776) (hb : base ≤ w.heap.size)
    (hK : ∀ w', w'.ownsRow base 39 1 (.slice (some ⟨w.heap.size, 0, none⟩) n n) n (List.replicate n (.slice none 0 0)) → Below base w w' → wpList Try.prog ops Q rest (a.put o.dst (.slice (some ⟨w.heap.size, 0, none⟩) n n)) w') :
    wpList Try.prog ops Q (o :: rest) a w := by
  obtain ⟨i0, hi, hz0, hz1, hz2⟩ := info_parts intsU_info
  refine wpList_make_full w hg l c 22 hop base 39 i0 (.slice none 0 0) 1 Try.underlying22 hi hz0 hz1 .i64 .i64 n n n hl hc rfl rfl (by rw [hz2]; omega) (by unfold maxLen; omega) hb ?_
  intro w' h1 h2
  refine hK w' ?_ ((Below.refl base w).grown h2 hb (fun k h => by cases h))
  simpa [toList_madeCells_one, Value.cells] using h1

/-- What toIntSS hands back: own rows. -/
def RowsIs (w : World) (rows : List (List Int)) (e : Ending) (w' : World) : Prop :=
  ∃ v ps, e = .returned v ∧ RowsU w' w.heap.size v ps ∧ ps.map (·.2.2) = rows ∧ Below w.heap.size w w'

theorem part_set {ps : List (Nat × Nat × List Int)} {p : Nat × Nat × List Int} {n k : Nat} (hk : ps.length = k) (hkn : k < n) :
    (ps.map slU ++ List.replicate (n - k) (Value.slice none 0 0)).set k (slU p) = (ps ++ [p]).map slU ++ List.replicate (n - (k + 1)) (Value.slice none 0 0) := by
  subst hk
  obtain ⟨m, hm⟩ : ∃ m, n - ps.length = m + 1 := ⟨n - ps.length - 1, by omega⟩
  rw [hm, show n - (ps.length + 1) = m by omega, List.set_append, if_neg (by rw [List.length_map]; omega), List.length_map, Nat.sub_self, List.replicate_succ, List.set_cons_zero, List.map_append]
  simp

set_option maxHeartbeats 1000000 in
theorem toIntSS_any (A : Option Addr) (c : Nat) (rows : List (List Int)) (w : World) (hR : RdR w A c rows) (hs : szR rows ≤ 1048576) :
    Calls Try.prog 13 #[.slice A rows.length c] w (RowsIs w rows) := by
  have hl : rows.length ≤ 1048576 := by unfold szR at hs; omega
  have HS := Lib.hid hs
  have HR := Lib.hid hR
  clear hs hR
  go_enter Try.func13, Try.ntmps13
  go_wp2_with (at_make; refine wpList_make_rows rfl _ _ rfl w.heap.size rows.length rfl rfl (by omega) (by simp) ?_; intro w2 ho hb)
  obtain ⟨S, hS⟩ : ∃ S, S = w.heap.size := ⟨_, rfl⟩
  have HO : Hid (w2.ownsRow w.heap.size 39 1 (.slice (some ⟨S, 0, none⟩) rows.length rows.length) rows.length (([] : List (Nat × Nat × List Int)).map slU ++ List.replicate (rows.length - 0) (.slice none 0 0))) := Lib.hid (by rw [hS]; simpa using ho)
  rw [← hS]
  have HSS := Lib.hid hS
  clear ho hS
  go_loopw [4] (fun i wr => ∃ (k : Nat) (ps : List (Nat × Nat × List Int)), k ≤ rows.length ∧ i = .int .i64 k ∧ Hid (ps.length = k) ∧ Hid (wr.ownsRow w.heap.size 39 1 (.slice (some ⟨S, 0, none⟩) rows.length rows.length) rows.length (ps.map slU ++ List.replicate (rows.length - k) (.slice none 0 0))) ∧
      Hid (∀ p ∈ ps, Own wr w.heap.size (some ⟨p.1, 0, none⟩) p.2.1 p.2.2) ∧ Hid ((ps.map (·.1)).Nodup) ∧ Hid (ps.map (·.2.2) = rows.take k) ∧ Hid (∀ p ∈ ps, S < p.1) ∧ Below w.heap.size w wr) (fun i _ => rows.length - (intOf i).toNat)
  case atStart => exact ⟨0, [], Nat.zero_le _, rfl, Lib.hid rfl, HO, Lib.hid (fun _ h => absurd h (by simp)), Lib.hid (by simp), Lib.hid (by simp), Lib.hid (fun _ h => absurd h (by simp)), hb⟩
  case round =>
    obtain ⟨k, ps, hk, rfl, HPL, HO, HE, HND, HM, HLT, hb⟩ := hrel
    by_cases hlt : k < rows.length
    · obtain ⟨b, off, r, A', c', rfl, hr, hc0, hcap, hrd⟩ := HR.out.at_ hlt
      have hc := (hb.cell (p := ⟨b, off + k, none⟩) (World.block_lt_of_cell? w _ hc0)).trans hc0
      have hrl : r.length ≤ 1048576 := by
        have h1 := flat_take hr.out
        have h2 := flat_le (rows := rows) (k + 1)
        have h3 := HS.out
        unfold szR at h3
        omega
      have HT := Lib.hid (toIntS_any A' c' r wr (hrd.out.below hb) (by omega))
      clear hc0
      go_wp2_with fail
      refine HT.out.mono ?_
      rintro e w5 ⟨g5, c5, rfl, o5, b5⟩
      have B5 := hb.trans (b5.mono hb.size)
      have o5row := own_len HO.out b5
      have hSl : S < wr.heap.size := (World.ownsRow.lt HO.out S rfl).2
      have hg5 := o5.ge
      have hcell : ∃ x, w5.cell? ⟨S, k, none⟩ = some x := by
        have := World.ownsRow.cellAt o5row k (by omega)
        rw [List.getElem?_append_right (by rw [List.length_map, HPL.out]; exact Nat.le_refl _), List.length_map, HPL.out, Nat.sub_self] at this
        exact ⟨_, this.trans (by rw [List.getElem?_replicate, if_pos (by omega)])⟩
      obtain ⟨x, hcx⟩ := hcell
      have hfr := World.ownsRow.frozenAt o5row k
      have hst := World.ownsRow.stored o5row k (slU (g5, c5, r))
      rw [part_set HPL.out hlt] at hst
      have HST := Lib.hid hst.1
      have HES : Hid (∀ p ∈ ps ++ [(g5, c5, r)], Own (w5.setCell ⟨S, k, none⟩ (slU (g5, c5, r))) w.heap.size (some ⟨p.1, 0, none⟩) p.2.1 p.2.2) := Lib.hid (by
        intro p hp
        rcases List.mem_append.1 hp with hp | hp
        · exact ((HE.out p hp).below b5).kept_ (A2 := some ⟨S, 0, none⟩) hst.2 (.inr (fun e => by have h1 := Option.some.inj e; have h2 := HLT.out p hp; simp at h1; omega))
        · obtain rfl : p = (g5, c5, r) := by simpa using hp
          exact (o5.base hb.size).kept_ (A2 := some ⟨S, 0, none⟩) hst.2 (.inr (fun e => by have h1 := Option.some.inj e; simp at h1; omega)))
      have HNS : Hid (((ps ++ [(g5, c5, r)]).map (·.1)).Nodup) := Lib.hid (by
        rw [List.map_append, List.nodup_append]
        refine ⟨HND.out, by simp, ?_⟩
        intro a ha b' hb' hab
        simp at hb'
        subst hb' hab
        obtain ⟨p, hp, rfl⟩ := List.mem_map.1 ha
        have := (HE.out p hp).lt
        omega)
      have HMS : Hid ((ps ++ [(g5, c5, r)]).map (·.2.2) = rows.take (k + 1)) := Lib.hid (by rw [List.take_add_one, hr.out, List.map_append, HM.out]; rfl)
      have HLS : Hid (∀ p ∈ ps ++ [(g5, c5, r)], S < p.1) := Lib.hid (by
        intro p hp
        rcases List.mem_append.1 hp with hp | hp
        · exact HLT.out p hp
        · obtain rfl : p = (g5, c5, r) := by simpa using hp
          show S < g5
          omega)
      have HPS : Hid ((ps ++ [(g5, c5, r)]).length = k + 1) := Lib.hid (by rw [List.length_append, HPL.out]; rfl)
      have HBS : Hid (Below w.heap.size w (w5.setCell ⟨S, k, none⟩ (slU (g5, c5, r)))) := Lib.hid (B5.setCell (p := ⟨S, k, none⟩) (by rw [HSS.out]; exact Nat.le_refl _) _)
      clear o5 b5 B5 o5row hst
      go_wp2
      go_roundw
      case rel => exact ⟨k + 1, _, by omega, by go_num, HPS, HST, HES, HNS, HMS, HLS, HBS.out⟩
      case measure => simp [intOf]; omega
    · obtain rfl : k = rows.length := by omega
      have HOF : Hid (wr.ownsRow w.heap.size 39 1 (.slice (some ⟨S, 0, none⟩) ps.length rows.length) ps.length (ps.map slU)) := Lib.hid (by
        have h1 := HO.out
        rw [Nat.sub_self, List.replicate_zero, List.append_nil] at h1
        rw [HPL.out]
        exact h1)
      have HMF : Hid (ps.map (·.2.2) = rows) := Lib.hid (by rw [HM.out, List.take_length])
      have HVE : Hid (Value.slice (some ⟨S, 0, none⟩) ps.length rows.length = .slice (some ⟨S, 0, none⟩) rows.length rows.length) := Lib.hid (by rw [HPL.out])
      go_wp2
      go_ret
      exact ⟨_, ps, by rw [← HVE.out]; rfl, ⟨HOF.out, HE.out, HND.out⟩, HMF.out, hb⟩

end Go.Proofs.Ytnojlapjkdihmab

/-
  The exact laws' helpers for lists of rows: compared, marked.
-/
namespace Go.Proofs.Ytnojlapjkdihmab
open Go.RowKit

/-- What a call hands back: a bool; what was there is as it was. -/
def BelowB (w : World) (b : Bool) (e : Ending) (w' : World) : Prop := e = .returned (.bool b) ∧ Below w.heap.size w w'

theorem RowsU.nil (w : World) (B : Nat) : RowsU w B (.slice none 0 0) [] := ⟨World.ownsRow_nil _ _ _ _, fun _ h => absurd h (by simp), by simp⟩
theorem RowsU.shape {w : World} {B : Nat} {v : Value} {ps : List (Nat × Nat × List Int)} (h : RowsU w B v ps) :
    (ps = [] ∧ v = .slice none 0 0) ∨ ∃ g c, v = .slice (some ⟨g, 0, none⟩) ps.length c ∧ ∀ k p, ps[k]? = some p → w.cell? ⟨g, k, none⟩ = some (slU p) := by
  have hr := h.row
  rcases hr.2 with ⟨hv, hn⟩ | ⟨g, cap, cur, hv, _⟩
  · exact .inl ⟨List.eq_nil_of_length_eq_zero hn, hv⟩
  · subst hv
    refine .inr ⟨g, cap, rfl, fun k p hk => ?_⟩
    have := World.ownsRow.cellAt hr k (by have := (List.getElem?_eq_some_iff.1 hk).1; omega)
    rw [this, List.getElem?_map, hk]; rfl

set_option maxHeartbeats 2000000 in
theorem eqIntSSU {B B' : Nat} {v u : Value} {ps qs : List (Nat × Nat × List Int)} (w : World) (h1 : RowsU w B v ps) (h2 : RowsU w B' u qs) (he : ps.map (·.2.2) = qs.map (·.2.2)) (hl : ps.length ≤ 1048576) (hp : ∀ p ∈ ps, p.2.2.length ≤ 1099511627776) :
    Calls Try.prog 15 #[v, u] w (BelowB w true) := by
  have hlen : ps.length = qs.length := by have := congrArg List.length he; simpa using this
  rcases h1.shape with ⟨rfl, rfl⟩ | ⟨g, c, rfl, hc1⟩
  · obtain rfl : qs = [] := List.eq_nil_of_length_eq_zero (by rw [← hlen]; rfl)
    rcases h2.shape with ⟨_, rfl⟩ | ⟨g2, c2, rfl, _⟩
    all_goals
      go_enter Try.func15, Try.ntmps15
      go_wp2
      go_loopw [5] (fun i wr => i = .int .i64 0 ∧ wr = w) (fun _ _ => 0)
      case atStart => exact ⟨rfl, rfl⟩
      case round =>
        obtain ⟨rfl, rfl⟩ := hrel
        go_wp2
        go_ret
        exact ⟨rfl, Below.refl _ _⟩
  · rcases h2.shape with ⟨rfl, rfl⟩ | ⟨g2, c2, rfl, hc2⟩
    · simp at hlen
      subst hlen
      go_enter Try.func15, Try.ntmps15
      go_wp2
      go_loopw [5] (fun i wr => i = .int .i64 0 ∧ wr = w) (fun _ _ => 0)
      case atStart => exact ⟨rfl, rfl⟩
      case round =>
        obtain ⟨rfl, rfl⟩ := hrel
        go_wp2
        go_ret
        exact ⟨rfl, Below.refl _ _⟩
    · have hne : ((ps.length : Int) != (qs.length : Int)) = false := by simp [hlen]
      have HL := Lib.hid hlen
      have HC1 := Lib.hid hc1
      have HC2 := Lib.hid hc2
      have HE := Lib.hid he
      have HP := Lib.hid hp
      have hs1 : g < w.heap.size := (World.ownsRow.lt h1.row g rfl).2
      have hs2 : g2 < w.heap.size := (World.ownsRow.lt h2.row g2 rfl).2
      clear hlen hc1 hc2 he hp
      go_enter Try.func15, Try.ntmps15
      go_wp2
      go_loopw [5] (fun i wr => ∃ k : Nat, k ≤ ps.length ∧ i = .int .i64 k ∧ Below w.heap.size w wr) (fun i _ => ps.length - (intOf i).toNat)
      case atStart => exact ⟨0, Nat.zero_le _, rfl, Below.refl _ _⟩
      case round =>
        obtain ⟨k, hk, rfl, hb⟩ := hrel
        by_cases hlt : k < ps.length
        · have hlt2 : k < qs.length := by have := HL.out; omega
          obtain ⟨p, hp⟩ : ∃ p, ps[k]? = some p := ⟨_, List.getElem?_eq_getElem hlt⟩
          obtain ⟨q, hq⟩ : ∃ q, qs[k]? = some q := ⟨_, List.getElem?_eq_getElem hlt2⟩
          have hpq : p.2.2 = q.2.2 := by
            have := congrArg (fun l => l[k]?) HE.out
            simpa [hp, hq] using this
          have hcp := (hb.cell (p := ⟨g, k, none⟩) hs1).trans (HC1.out k p hp)
          have hcq := (hb.cell (p := ⟨g2, k, none⟩) hs2).trans (HC2.out k q hq)
          have hr1 := Lib.hid ((h1.below hb).each p (List.mem_of_getElem? hp)).rd
          have hr2 := Lib.hid ((h2.below hb).each q (List.mem_of_getElem? hq)).rd
          have hll := Lib.hid (HP.out p (List.mem_of_getElem? hp))
          have HEQ : Hid (eqB p.2.2 q.2.2 = true) := Lib.hid (by rw [hpq]; exact eqB_self _)
          obtain ⟨pg, pc, pl⟩ := p
          obtain ⟨qg, qc, ql⟩ := q
          simp only [slU] at hcp hcq
          clear hp hq hpq
          go_wp2_with fail
          go_region_with (go_at_call 36; refine (eqIntS_any _ _ _ _ pl ql _ ?_ ?_ ?_).mono ?_; exact hr1.out; exact hr2.out; exact hll.out; rw [HEQ.out]; rintro e w2 ⟨rfl, n2, rfl⟩)
          all_goals
            clear hcp hcq
            go_wp2
            go_roundw
            case rel => exact ⟨k + 1, by omega, by go_num, below_drewN' hb _⟩
            case measure => simp [intOf]; omega
        · obtain rfl : k = ps.length := by omega
          go_wp2
          go_ret
          exact ⟨rfl, hb⟩


/-- How many numbers the rows hold. -/
def numsU : List (Nat × Nat × List Int) → Nat
  | [] => 0
  | p :: ps => p.2.2.length + numsU ps
theorem numsU_snoc (ps : List (Nat × Nat × List Int)) (p : Nat × Nat × List Int) : numsU (ps ++ [p]) = numsU ps + p.2.2.length := by
  induction ps with
  | nil => simp [numsU]
  | cons q qs ih => simp [numsU, ih]; omega
theorem numsU_le {M : Nat} : ∀ (ps : List (Nat × Nat × List Int)), (∀ p ∈ ps, p.2.2.length ≤ M) → numsU ps ≤ ps.length * M
  | [], _ => by simp [numsU]
  | p :: ps, h => by
    have h1 := h p (by simp)
    have h2 := numsU_le ps (fun q hq => h q (by simp [hq]))
    simp only [numsU, List.length_cons, Nat.add_mul]
    omega
/-- The rows marked from k on. -/
def marksU (k : Int) : List (Nat × Nat × List Int) → List (Nat × Nat × List Int)
  | [] => []
  | p :: ps => (p.1, p.2.1, upF k p.2.2.length) :: marksU (k + p.2.2.length) ps
theorem marksU_len (ps : List (Nat × Nat × List Int)) : ∀ k : Int, (marksU k ps).length = ps.length := by
  induction ps with
  | nil => intro k; rfl
  | cons p ps ih => intro k; simp [marksU, ih]
theorem marksU_snoc (ps : List (Nat × Nat × List Int)) (p : Nat × Nat × List Int) : ∀ k : Int, marksU k (ps ++ [p]) = marksU k ps ++ [(p.1, p.2.1, upF (k + numsU ps) p.2.2.length)] := by
  induction ps with
  | nil => intro k; simp [marksU, numsU]
  | cons q qs ih => intro k; simp [marksU, ih, numsU, Int.add_assoc]

/-- One row turned, in its own block. -/
theorem RowsU.turn {w w' : World} {B : Nat} {v : Value} {qs rs : List (Nat × Nat × List Int)} {p : Nat × Nat × List Int} {zs : List Int} (h : RowsU w B v (qs ++ p :: rs)) (hz : zs.length = p.2.2.length)
    (ho : Own w' B (some ⟨p.1, 0, none⟩) p.2.1 zs) (hg : w.grownBy w' (some p.1)) : RowsU w' B v (qs ++ (p.1, p.2.1, zs) :: rs) := by
  have hn := h.nodup
  rw [List.map_append, List.map_cons, List.nodup_append, List.nodup_cons] at hn
  obtain ⟨h1, ⟨h2, h3⟩, h4⟩ := hn
  have hp := h.each p (by simp)
  refine ⟨?_, ?_, ?_⟩
  · have := h.row.kept hg (.inr (rowU_apart h.row hp))
    have e : (qs ++ (p.1, p.2.1, zs) :: rs).map slU = (qs ++ p :: rs).map slU := by simp [slU, hz]
    rw [e]
    simpa using this
  · intro q hq
    have hk : ∀ q : Nat × Nat × List Int, q ∈ qs ++ p :: rs → q.1 ≠ p.1 → Own w' B (some ⟨q.1, 0, none⟩) q.2.1 q.2.2 := fun q hq hne =>
      (h.each q hq).kept_ (A2 := some ⟨p.1, 0, none⟩) hg (.inr (fun e => hne (Option.some.inj e)))
    rcases List.mem_append.1 hq with hq | hq
    · exact hk q (by simp [hq]) (fun e => h4 q.1 (List.mem_map.2 ⟨q, hq, rfl⟩) p.1 (by simp) e)
    · rcases List.mem_cons.1 hq with rfl | hq
      · exact ho
      · exact hk q (by simp [hq]) (fun e => h2 (by rw [← e]; exact List.mem_map.2 ⟨q, hq, rfl⟩))
  · simpa using h.nodup

theorem RowsU.cell_at {w : World} {B g c n k : Nat} {ps : List (Nat × Nat × List Int)} {p : Nat × Nat × List Int} (h : RowsU w B (.slice (some ⟨g, 0, none⟩) n c) ps) (hk : ps[k]? = some p) : w.cell? ⟨g, k, none⟩ = some (slU p) := by
  have hr := h.row
  have hv := hr.2
  have e : n = ps.length := by
    rcases hv with ⟨hv, _⟩ | ⟨g', cap, cur, hv, _⟩
    · cases hv
    · injection hv
  subst e
  have := World.ownsRow.cellAt hr k (by have := (List.getElem?_eq_some_iff.1 hk).1; omega)
  rw [this, List.getElem?_map, hk]; rfl
theorem marksU_append (b : List (Nat × Nat × List Int)) : ∀ (a : List (Nat × Nat × List Int)) (k : Int), marksU k (a ++ b) = marksU k a ++ marksU (k + numsU a) b
  | [], k => by simp [marksU, numsU]
  | p :: a, k => by
    simp only [List.cons_append, marksU, numsU]
    rw [marksU_append b a]
    congr 2
    push_cast
    rw [Int.add_assoc]
theorem splitU_at {ps : List (Nat × Nat × List Int)} {j : Nat} {p : Nat × Nat × List Int} (hp : ps[j]? = some p) : ps = ps.take j ++ p :: ps.drop (j + 1) := by
  obtain ⟨hj, rfl⟩ := List.getElem?_eq_some_iff.1 hp
  rw [← List.drop_eq_getElem_cons hj, List.take_append_drop]
theorem marksU_at {ps : List (Nat × Nat × List Int)} {j : Nat} {p : Nat × Nat × List Int} (hp : ps[j]? = some p) (k : Int) : (marksU k ps)[j]? = some (p.1, p.2.1, upF (k + numsU (ps.take j)) p.2.2.length) := by
  have hj := (List.getElem?_eq_some_iff.1 hp).1
  conv => lhs; rw [splitU_at hp]
  rw [marksU_append, List.getElem?_append_right (by rw [marksU_len, List.length_take]; omega), marksU_len, List.length_take, Nat.min_eq_left (by omega), Nat.sub_self]
  rfl
theorem takeU_up {ps : List (Nat × Nat × List Int)} {j : Nat} {p : Nat × Nat × List Int} (hp : ps[j]? = some p) : ps.take (j + 1) = ps.take j ++ [p] := by rw [List.take_add_one, hp]; rfl
theorem numsU_append (a b : List (Nat × Nat × List Int)) : numsU (a ++ b) = numsU a + numsU b := by
  induction a with
  | nil => simp [numsU]
  | cons p a ih => simp only [List.cons_append, numsU, ih]; omega
theorem numsU_take (ps : List (Nat × Nat × List Int)) (j : Nat) : numsU (ps.take j) ≤ numsU ps := by
  have e := numsU_append (ps.take j) (ps.drop j)
  rw [List.take_append_drop] at e
  omega
theorem numsU_mem {ps : List (Nat × Nat × List Int)} {p : Nat × Nat × List Int} (h : p ∈ ps) : p.2.2.length ≤ numsU ps := by
  induction ps with
  | nil => cases h
  | cons q ps ih =>
    simp only [numsU]
    rcases List.mem_cons.1 h with rfl | h
    · omega
    · have := ih h; omega
theorem numsU_flat (ps : List (Nat × Nat × List Int)) : numsU ps = ((ps.map (·.2.2)).flatten).length := by
  induction ps with
  | nil => rfl
  | cons p ps ih => simp only [numsU, List.map_cons, List.flatten_cons, List.length_append, ih]

end Go.Proofs.Ytnojlapjkdihmab
