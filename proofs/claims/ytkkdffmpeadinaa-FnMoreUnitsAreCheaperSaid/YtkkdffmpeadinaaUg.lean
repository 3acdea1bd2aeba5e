/-
  Chapter 3, the program: worthTo; a crowd in memory; the contracts of crowdOf and othersOf.
-/
import Derived.Test.YtkkdffmpeadinaaUf
import Derived.Deep.RegionWith
import Derived.Deep.RegionLaw
namespace Go.Proofs.Ytkkdffmpeadinaa
open Go.RowKit

set_option maxHeartbeats 400000 in
theorem worthTo_any (A B : Option Addr) (c d : Nat) (rows : List (List Int)) (h : Nat → Nat) (i : Nat) (w : World) (hR : RdR w A c rows) (hB : Rd w B d (lst h rows.length)) (hi : i < rows.length) (hr : RowOk (RW rows i)) (hh : h i ≤ 1048576) :
    Calls Try.prog 65 #[.slice A rows.length c, .slice B rows.length d, .int .i64 i] w fun e w' => e = .returned (.int .i64 (pre (RW rows i) (h i))) ∧ ∃ n, w' = w.drewN n := by
  obtain ⟨b, off, r, A', c', rfl, hrr, hc, hcap, hrd⟩ := hR.at_ hi
  obtain ⟨b2, o2, rfl, hch⟩ := hB.has hi
  have e := rw_of hrr.out
  rw [e] at hr ⊢
  have HC : Hid (∀ n, Calls Try.prog 85 #[.slice A' r.length c', .int .i64 (h i)] (w.drewN n) fun e w' => e = .returned (.int .i64 (pre r (h i))) ∧ w.drewN n = w') :=
    Lib.hid (fun n => rowWorth_any A' c' r (h i) (w.drewN n) (hrd.out.drewN n) hcap.out hr hh)
  clear e hr hh
  go_enter Try.func65, Try.ntmps65
  go_wp2_with fail
  go_quiet ((refine (HC.out _).mono ?_; rintro e w1 ⟨rfl, rfl⟩; exact ⟨rfl, _, rfl⟩))
  go_wp2
  go_ret
  exact ⟨rfl, _, rfl⟩

/-- The value of a bidder's demand: a row. -/
def dOf (q : Option Addr × Nat × List Int) : Value := .iface 62 (.slice q.1 q.2.2.length q.2.1)
/-- What is behind it. -/
def DemIn (w : World) (q : Option Addr × Nat × List Int) : Prop := q.2.2.length ≤ q.2.1 ∧ Rd w q.1 q.2.1 q.2.2
/-- The slice value v holds the demands qs, in a block of the call's own, from block B on. -/
structure CrowdIn (w : World) (B : Nat) (v : Value) (qs : List (Option Addr × Nat × List Int)) : Prop where
  row : w.ownsRow B 64 1 v qs.length (qs.map dOf)
  each : ∀ q ∈ qs, DemIn w q

theorem CrowdIn.below {w w' : World} {B : Nat} {v : Value} {qs : List (Option Addr × Nat × List Int)} (h : CrowdIn w B v qs) (hb : Below w.heap.size w w') : CrowdIn w' B v qs :=
  ⟨own_len h.row hb, fun q hq => ⟨(h.each q hq).1, (h.each q hq).2.below hb⟩⟩
theorem CrowdIn.base {w : World} {B B' : Nat} {v : Value} {qs : List (Option Addr × Nat × List Int)} (h : CrowdIn w B v qs) (hB : B' ≤ B) : CrowdIn w B' v qs := ⟨own_base h.row hB, h.each⟩
theorem CrowdIn.nil (w : World) (B : Nat) : CrowdIn w B (.slice none 0 0) [] := ⟨World.ownsRow_nil _ _ _ _, fun _ h => absurd h (by simp)⟩

theorem dem_info : (Try.prog.info? 64).map (fun i => (i.zero, i.size, i.bytes)) = some (some .nilIface, 1, 16) := by kernel_rfl

/-- What a call hands back: a crowd in a block of its own, of rows that the world w0 held. -/
def CrowdIs (w0 w : World) (rows : List (List Int)) (e : Ending) (w' : World) : Prop :=
  ∃ (v : Value) (qs : List (Option Addr × Nat × List Int)), e = .returned v ∧ w'.ownsRow w.heap.size 64 1 v qs.length (qs.map dOf) ∧ (∀ q ∈ qs, DemIn w0 q) ∧ qs.map (·.2.2) = rows ∧ Below w.heap.size w w'

theorem takes_step {rows : List (List Int)} {k : Nat} {r : List Int} {qs : List (Option Addr × Nat × List Int)} {q : Option Addr × Nat × List Int} (h : qs.map (·.2.2) = rows.take k) (hr : rows[k]? = some r) (hq : q.2.2 = r) : (qs ++ [q]).map (·.2.2) = rows.take (k + 1) := by
  rw [List.take_add_one, hr, List.map_append, h]
  simp [hq]

set_option maxHeartbeats 1000000 in
theorem crowdOf_any (A : Option Addr) (c n : Nat) (rows : List (List Int)) (w0 w : World) (hn : rows.length = n) (hR : RdR w0 A c rows) (h0 : Below w0.heap.size w0 w) (hl : n ≤ 1000) :
    Calls Try.prog 55 #[.slice A n c] w (CrowdIs w0 w rows) := by
  subst hn
  obtain ⟨i0, hi, hz0, hz1, hz2⟩ := info_parts dem_info
  go_enter Try.func55, Try.ntmps55
  go_wp2
  go_loopw [3, 8] (fun o i wr => ∃ (k : Nat) (qs : List (Option Addr × Nat × List Int)), k ≤ rows.length ∧ i = .int .i64 k ∧ wr.ownsRow w.heap.size 64 1 o qs.length (qs.map dOf) ∧ Hid (∀ q ∈ qs, DemIn w0 q) ∧ Hid (qs.map (·.2.2) = rows.take k) ∧ Below w.heap.size w wr) (fun _ i _ => rows.length - (intOf i).toNat)
  case atStart => exact ⟨0, [], Nat.zero_le _, rfl, World.ownsRow_nil _ _ _ _, Lib.hid (fun _ h => absurd h (by simp)), Lib.hid (by simp), Below.refl _ _⟩
  case round =>
    obtain ⟨k, qs, hk, rfl, hC, HD, HE, hb⟩ := hrel
    by_cases hlt : k < rows.length
    · obtain ⟨b, off, r, A', c', rfl, hr, hc0, hcap, hrd⟩ := hR.at_ hlt
      have hb1 := h0.trans (hb.mono h0.size)
      have hc := (hb1.cell (p := ⟨b, off + k, none⟩) (World.block_lt_of_cell? w0 _ hc0)).trans hc0
      have hql : qs.length ≤ 1000 := by have := congrArg List.length HE.out; simp at this; omega
      have HT := Lib.hid (own_len hC ((Below.refl _ wr).alloc (Nat.le_refl _) (.cells #[dOf (A', c', r)] 64)))
      have hb63 : qs.length + 1 ≤ maxLen := by unfold maxLen; omega
      have HT2 := Lib.hid (takes_step (q := (A', c', r)) HE.out hr.out rfl)
      have HD2 : Hid (∀ q ∈ qs ++ [(A', c', r)], DemIn w0 q) := Lib.hid (by
        intro q hq
        rcases List.mem_append.1 hq with hq | hq
        · exact HD.out q hq
        · obtain rfl : q = (A', c', r) := by simpa using hq
          exact ⟨hcap.out, hrd.out⟩)
      clear hc0 hb1
      go_wp2_with (at_builtin; (refine wpList_append_own _ rfl _ _ 48 rfl w.heap.size 64 i0 .nilIface 1 16 Try.underlying48 hi hz0 hz1 hz2 rfl (by decide) u3 qs.length (qs.map dOf) rfl HT.out ⟨wr.heap.size, 0, none⟩ 1 1 [dOf (A', c', r)] rfl rfl (cell_one_new _ _ _) (by simp [dOf, Value.oneCell']) hb63 (by omega) (by have := hb.size; simp; omega) ?_; intro v5 w5 hown5 hg5 _))
      have B5 : Below w.heap.size w w5 := (hb.alloc hb.size (.cells #[dOf (A', c', r)] 64)).grown hg5 (by have := hb.size; simp; omega) (fun k e => (World.ownsRow.lt hC k e).1)
      have hown6 : w5.ownsRow w.heap.size 64 1 v5 (qs ++ [(A', c', r)]).length ((qs ++ [(A', c', r)]).map dOf) := by simpa using hown5
      clear hown5
      go_roundw
      case rel => exact ⟨k + 1, _, by omega, by go_num, hown6, HD2, HT2, B5⟩
      case measure => simp [intOf]; omega
    · obtain rfl : k = rows.length := by omega
      have HE' : Hid (qs.map (·.2.2) = rows) := Lib.hid (by rw [HE.out, List.take_length])
      go_wp2
      go_ret
      exact ⟨_, qs, rfl, hC, HD.out, HE'.out, hb⟩

theorem CrowdIn.shape {w : World} {B : Nat} {v : Value} {qs : List (Option Addr × Nat × List Int)} (h : CrowdIn w B v qs) :
    (qs = [] ∧ v = .slice none 0 0) ∨ ∃ g c, v = .slice (some ⟨g, 0, none⟩) qs.length c ∧ qs.length ≤ c ∧ c ≤ maxLen ∧ B ≤ g ∧ g < w.heap.size ∧ ∀ k q, qs[k]? = some q → w.cell? ⟨g, k, none⟩ = some (dOf q) := by
  have hr := h.row
  rcases hr.2 with ⟨hv, hn⟩ | ⟨g, cap, cur, hv, _, _, h1, h2, _⟩
  · exact .inl ⟨List.eq_nil_of_length_eq_zero hn, hv⟩
  · subst hv
    have hlt := World.ownsRow.lt hr g rfl
    refine .inr ⟨g, cap, rfl, h1, h2, hlt.1, hlt.2, fun k q hk => ?_⟩
    have := World.ownsRow.cellAt hr k (by have := (List.getElem?_eq_some_iff.1 hk).1; omega)
    rw [this, List.getElem?_map, hk]; rfl

theorem run_append_crowd (ty : TypeId) (w : World) (base B2 : Nat) (v1 v2 : Value) (qs1 qs2 : List (Option Addr × Nat × List Int)) (h1 : w.ownsRow base 64 1 v1 qs1.length (qs1.map dOf))
    (h2 : w.ownsRow B2 64 1 v2 qs2.length (qs2.map dOf)) (hn : qs1.length + qs2.length ≤ 100000) (hbase : base ≤ w.heap.size) :
    ∃ v' w', (Builtin.append_ #[48, 48] ty #[v1, v2]).run Try.prog w = .ok v' w' ∧
      w'.ownsRow base 64 1 v' (qs1 ++ qs2).length ((qs1 ++ qs2).map dOf) ∧ w.grownBy w' v1.ownBlock := by
  obtain ⟨i0, hi, hz0, hz1, hz2⟩ := info_parts dem_info
  rcases h2.2 with ⟨rfl, hn2⟩ | ⟨g, cap, cur, rfl, _, hb, hc1, hc2, hcs, ht⟩
  · obtain rfl : qs2 = [] := List.eq_nil_of_length_eq_zero hn2
    exact ⟨v1, w, run_append_owned_none (P := Try.prog) (w := w) base 48 ty 64 i0 1 Try.underlying48 hi _ _ _ h1, by simpa using h1, World.grownBy.refl _ _⟩
  · obtain ⟨v', w', hrun, e2, e3, _⟩ := run_append_own_at (P := Try.prog) w base 48 ty 64 i0 .nilIface 1 16 Try.underlying48 hi hz0 hz1 hz2 rfl (by decide) v1 qs1.length (qs1.map dOf) h1 ⟨g, 0, none⟩ qs2.length cap (qs2.map dOf) (by simp)
      (by
        intro j u hu
        have hj : j < qs2.length := by
          rcases Nat.lt_or_ge j qs2.length with hj | hj
          · exact hj
          · rw [List.getElem?_eq_none (by simpa using hj)] at hu; cases hu
        have := World.ownsRow.cellAt h2 j (by omega)
        rw [hu] at this
        have e : (⟨g, 0, none⟩ : Addr).add j = ⟨g, j, none⟩ := by unfold Addr.add; split <;> simp_all
        rw [e]
        exact this)
      (by intro u hu; obtain ⟨q, _, rfl⟩ := List.mem_map.1 hu; rfl)
      (by unfold maxLen; omega) (by omega) hbase
    rw [← List.map_append] at e2
    exact ⟨v', w', hrun, by simpa using e2, e3⟩

theorem step_append_crowd {ops : Array Oper} {o : Oper} {a : Act} {w : World} {K : Act → World → Prop} {Q : Exit → Act → World → Prop} {E : Prop} (hgd : o.guard = none) (s x : Operand)
    (ho : o.op = .call { callee := .builtin .append, args := #[s, x], argTypes := #[48, 48] })
    (base B2 : Nat) (v1 v2 : Value) (qs1 qs2 : List (Option Addr × Nat × List Int)) (hs : a.eval s = v1) (h1 : w.ownsRow base 64 1 v1 qs1.length (qs1.map dOf))
    (hx : a.eval x = v2) (h2 : w.ownsRow B2 64 1 v2 qs2.length (qs2.map dOf)) (hn : qs1.length + qs2.length ≤ 100000) (hbase : base ≤ w.heap.size)
    (h : ∀ v' w', w'.ownsRow base 64 1 v' (qs1 ++ qs2).length ((qs1 ++ qs2).map dOf) → w.grownBy w' v1.ownBlock → K (a.put o.dst v') w') :
    if Region.wanted o (yielded ops a.tmps) = true then Oper.wp Try.prog o a w K Q else E := by
  have hw : Region.wanted o (yielded ops a.tmps) = true := by simp [Region.wanted, hgd]
  rw [if_pos hw]
  obtain ⟨v', w', hrun, e2, e3⟩ := run_append_crowd o.type w base B2 v1 v2 qs1 qs2 h1 h2 hn hbase
  unfold Oper.wp execOp
  simp only [ho, resolve, invoke, builtin, Sem.run_bind, Sem.run_pure, Result.andThen_ok, List.map_toArray, List.map_cons, List.map_nil, hs, hx, hrun]
  exact h v' w' e2 e3

/-- Rows without one. -/
def butOf (rows : List (List Int)) (i : Nat) : List (List Int) := rows.take i ++ rows.drop (i + 1)

set_option maxHeartbeats 2000000 in
theorem othersOf_any (A : Option Addr) (c i : Nat) (rows : List (List Int)) (w : World) (hR : RdR w A c rows) (hl : rows.length ≤ 1000) (hi : i < rows.length) :
    Calls Try.prog 81 #[.slice A rows.length c, .int .i64 i] w (CrowdIs w w (butOf rows i)) := by
  obtain ⟨b, off, rfl, hcap, _⟩ := hR.open_ (by omega)
  have H1 : Hid (∀ w', Below w.heap.size w w' → Calls Try.prog 55 #[.slice (some ⟨b, off, none⟩) i c] w' (CrowdIs w w' (rows.take i))) :=
    Lib.hid (fun w' hb => crowdOf_any _ c i (rows.take i) w w' (by simp; omega) (hR.take_ (c2 := c) i (by omega)) hb (by omega))
  have H2 : Hid (∀ w' A2, (A2 = some ⟨b, off + (i + 1), none⟩ ∨ A2 = some ⟨b, off, none⟩ ∧ rows.length = i + 1) → Below w.heap.size w w' → Calls Try.prog 55 #[.slice A2 (rows.length - (i + 1)) (c - (i + 1))] w' (CrowdIs w w' (rows.drop (i + 1)))) :=
    Lib.hid (fun w' A2 hA hb => crowdOf_any _ (c - (i + 1)) (rows.length - (i + 1)) (rows.drop (i + 1)) w w' (by simp) (by
      rcases hA with rfl | ⟨rfl, hA⟩
      · exact hR.drop_ (c2 := c - (i + 1)) (i + 1) (by omega)
      · have : rows.drop (i + 1) = [] := List.drop_eq_nil_of_le (by omega)
        rw [this]
        exact ⟨by simp, .inl ⟨rfl, fun h => by cases h⟩⟩) hb (by omega))
  have hwi : IntKind.i64.wrap ((i : Int) + 1) = (i : Int) + 1 := IntWalk.i64_in _ (by omega)
  have h03 : ((i : Int) + 1).toNat = i + 1 := by omega
  have h04 : (i : Int) + 1 ≤ (rows.length : Int) := by omega
  have h05 : (rows.length : Int) ≤ (c : Int) := by omega
  have h06 : (i : Int) ≤ (c : Int) := by omega
  have h07 : (0 : Int) ≤ (i : Int) + 1 := by omega
  have h08 : i ≤ c := by omega
  have h09 : i + 1 ≤ rows.length := by omega
  have HN : Hid (rows.length ≤ 1000) := Lib.hid hl
  have hbd : Below w.heap.size w w.drew := ⟨rfl, rfl, rfl, Nat.le_refl _, fun _ _ => rfl⟩
  clear hl hi
  go_enter Try.func81, Try.ntmps81
  go_wp2_with fail
  go_region_law (first
    | (go_simp; go_at_call_of 55 (Value.slice (some (⟨b, off, none⟩ : Addr)) i c); refine (H1.out _ hbd).mono ?_; rintro e w1 ⟨v1, qs1, rfl, o1, d1, e1, b1⟩)
    | (go_simp; go_at_call 55; refine (H2.out _ _ (by first | exact .inl rfl | (split; exact .inr ⟨rfl, by omega⟩; exact .inl rfl)) (hbd.trans b1)).mono ?_; rintro e w2 ⟨v2, qs2, rfl, o2, d2, e2, b2⟩)
    | (refine step_append_crowd (by rfl) _ _ (by rfl) w.heap.size w1.heap.size v1 v2 qs1 qs2 (by rfl) (own_len o1 b2) (by rfl) o2 (by (have h1 := congrArg List.length e1); (have h2 := congrArg List.length e2); (have h3 := HN.out); simp at h1 h2; omega) (Nat.le_trans b1.size b2.size) ?_; intro v5 w5 o5 g5))
  all_goals
    have B1 : Below w.heap.size w w1 := hbd.trans b1
    have B2 : Below w.heap.size w w2 := B1.trans (b2.mono B1.size)
    have B5 : Below w.heap.size w w5 := B2.grown g5 B2.size (fun k hk => (World.ownsRow.lt o1 k hk).1)
    have HD : Hid (∀ q ∈ qs1 ++ qs2, DemIn w q) := Lib.hid (fun q hq => (List.mem_append.1 hq).elim (d1 q) (d2 q))
    have HE : Hid ((qs1 ++ qs2).map (·.2.2) = butOf rows i) := Lib.hid (by rw [List.map_append, e1, e2]; rfl)
    clear d1 d2 e1 e2 g5 o1 o2
    go_wp2
    all_goals
      go_ret
      exact ⟨v5, qs1 ++ qs2, rfl, o5, HD.out, HE.out, B5⟩

end Go.Proofs.Ytkkdffmpeadinaa
