/-
  The exact laws' helpers for lists of rows: compared, marked.
-/
import Derived.Test.YtccbjgajmjcpjabG23
import Derived.Deep.RegionWith
import Derived.Test.YtccbjgajmjcpjabG17
namespace Go.Proofs.Ytccbjgajmjcpjab
open Go.RowKit

/-- What a call hands back: a bool; what was there is as it was. -/
def BelowB (w : World) (b : Bool) (e : Ending) (w' : World) : Prop := e = .returned (.bool b) ∧ Below w.heap.size w w'

theorem RowsU.nil (w : World) (B : Nat) : RowsU w B (.slice none 0 0) [] := ⟨World.ownsRow_nil _ _ _ _, fun _ h => absurd h (by simp), by simp⟩
theorem RowsU.shape {w : World} {B : Nat} {v : Value} {ps : List (Nat × Nat × List Int)} (h : RowsU w B v ps) :
    (ps = [] ∧ v = .slice none 0 0) ∨ ∃ g c, v = .slice (some ⟨g, 0, none⟩) ps.length c ∧ ∀ k p, ps[k]? = some p → w.cell? ⟨g, k, none⟩ = some (slU p) := by
  have hr := h.row
  rcases hr.2 with ⟨hv, hn⟩ | ⟨g, cap, cur, hv, _⟩
  · exact .inl ⟨List.eq_nil_of_length_eq_zero hn, hv⟩
  · subst hv
    refine .inr ⟨g, cap, rfl, fun k p hk => ?_⟩
    have := World.ownsRow.cellAt hr k (by have := (List.getElem?_eq_some_iff.1 hk).1; omega)
    rw [this, List.getElem?_map, hk]; rfl

set_option maxHeartbeats 2000000 in
theorem eqIntSSU {B B' : Nat} {v u : Value} {ps qs : List (Nat × Nat × List Int)} (w : World) (h1 : RowsU w B v ps) (h2 : RowsU w B' u qs) (he : ps.map (·.2.2) = qs.map (·.2.2)) (hl : ps.length ≤ 1048576) (hp : ∀ p ∈ ps, p.2.2.length ≤ 1099511627776) :
    Calls Try.prog 46 #[v, u] w (BelowB w true) := by
  have hlen : ps.length = qs.length := by have := congrArg List.length he; simpa using this
  rcases h1.shape with ⟨rfl, rfl⟩ | ⟨g, c, rfl, hc1⟩
  · obtain rfl : qs = [] := List.eq_nil_of_length_eq_zero (by rw [← hlen]; rfl)
    rcases h2.shape with ⟨_, rfl⟩ | ⟨g2, c2, rfl, _⟩
    all_goals
      go_enter Try.func46, Try.ntmps46
      go_wp2
      go_loopw [5] (fun i wr => i = .int .i64 0 ∧ wr = w) (fun _ _ => 0)
      case atStart => exact ⟨rfl, rfl⟩
      case round =>
        obtain ⟨rfl, rfl⟩ := hrel
        go_wp2
        go_ret
        exact ⟨rfl, Below.refl _ _⟩
  · rcases h2.shape with ⟨rfl, rfl⟩ | ⟨g2, c2, rfl, hc2⟩
    · simp at hlen
      subst hlen
      go_enter Try.func46, Try.ntmps46
      go_wp2
      go_loopw [5] (fun i wr => i = .int .i64 0 ∧ wr = w) (fun _ _ => 0)
      case atStart => exact ⟨rfl, rfl⟩
      case round =>
        obtain ⟨rfl, rfl⟩ := hrel
        go_wp2
        go_ret
        exact ⟨rfl, Below.refl _ _⟩
    · have hne : ((ps.length : Int) != (qs.length : Int)) = false := by simp [hlen]
      have HL := Lib.hid hlen
      have HC1 := Lib.hid hc1
      have HC2 := Lib.hid hc2
      have HE := Lib.hid he
      have HP := Lib.hid hp
      have hs1 : g < w.heap.size := (World.ownsRow.lt h1.row g rfl).2
      have hs2 : g2 < w.heap.size := (World.ownsRow.lt h2.row g2 rfl).2
      clear hlen hc1 hc2 he hp
      go_enter Try.func46, Try.ntmps46
      go_wp2
      go_loopw [5] (fun i wr => ∃ k : Nat, k ≤ ps.length ∧ i = .int .i64 k ∧ Below w.heap.size w wr) (fun i _ => ps.length - (intOf i).toNat)
      case atStart => exact ⟨0, Nat.zero_le _, rfl, Below.refl _ _⟩
      case round =>
        obtain ⟨k, hk, rfl, hb⟩ := hrel
        by_cases hlt : k < ps.length
        · have hlt2 : k < qs.length := by have := HL.out; omega
          obtain ⟨p, hp⟩ : ∃ p, ps[k]? = some p := ⟨_, List.getElem?_eq_getElem hlt⟩
          obtain ⟨q, hq⟩ : ∃ q, qs[k]? = some q := ⟨_, List.getElem?_eq_getElem hlt2⟩
          have hpq : p.2.2 = q.2.2 := by
            have := congrArg (fun l => l[k]?) HE.out
            simpa [hp, hq] using this
          have hcp := (hb.cell (p := ⟨g, k, none⟩) hs1).trans (HC1.out k p hp)
          have hcq := (hb.cell (p := ⟨g2, k, none⟩) hs2).trans (HC2.out k q hq)
          have hr1 := Lib.hid ((h1.below hb).each p (List.mem_of_getElem? hp)).rd
          have hr2 := Lib.hid ((h2.below hb).each q (List.mem_of_getElem? hq)).rd
          have hll := Lib.hid (HP.out p (List.mem_of_getElem? hp))
          have HEQ : Hid (eqB p.2.2 q.2.2 = true) := Lib.hid (by rw [hpq]; exact eqB_self _)
          obtain ⟨pg, pc, pl⟩ := p
          obtain ⟨qg, qc, ql⟩ := q
          simp only [slU] at hcp hcq
          clear hp hq hpq
          go_wp2_with fail
          go_region_with (go_at_call 41; refine (eqIntS_any _ _ _ _ pl ql _ ?_ ?_ ?_).mono ?_; exact hr1.out; exact hr2.out; exact hll.out; rw [HEQ.out]; rintro e w2 ⟨rfl, n2, rfl⟩)
          all_goals
            clear hcp hcq
            go_wp2
            go_roundw
            case rel => exact ⟨k + 1, by omega, by go_num, below_drewN' hb _⟩
            case measure => simp [intOf]; omega
        · obtain rfl : k = ps.length := by omega
          go_wp2
          go_ret
          exact ⟨rfl, hb⟩


/-- How many numbers the rows hold. -/
def numsU : List (Nat × Nat × List Int) → Nat
  | [] => 0
  | p :: ps => p.2.2.length + numsU ps
theorem numsU_snoc (ps : List (Nat × Nat × List Int)) (p : Nat × Nat × List Int) : numsU (ps ++ [p]) = numsU ps + p.2.2.length := by
  induction ps with
  | nil => simp [numsU]
  | cons q qs ih => simp [numsU, ih]; omega
theorem numsU_le {M : Nat} : ∀ (ps : List (Nat × Nat × List Int)), (∀ p ∈ ps, p.2.2.length ≤ M) → numsU ps ≤ ps.length * M
  | [], _ => by simp [numsU]
  | p :: ps, h => by
    have h1 := h p (by simp)
    have h2 := numsU_le ps (fun q hq => h q (by simp [hq]))
    simp only [numsU, List.length_cons, Nat.add_mul]
    omega
/-- The rows marked from k on. -/
def marksU (k : Int) : List (Nat × Nat × List Int) → List (Nat × Nat × List Int)
  | [] => []
  | p :: ps => (p.1, p.2.1, upF k p.2.2.length) :: marksU (k + p.2.2.length) ps
theorem marksU_len (ps : List (Nat × Nat × List Int)) : ∀ k : Int, (marksU k ps).length = ps.length := by
  induction ps with
  | nil => intro k; rfl
  | cons p ps ih => intro k; simp [marksU, ih]
theorem marksU_snoc (ps : List (Nat × Nat × List Int)) (p : Nat × Nat × List Int) : ∀ k : Int, marksU k (ps ++ [p]) = marksU k ps ++ [(p.1, p.2.1, upF (k + numsU ps) p.2.2.length)] := by
  induction ps with
  | nil => intro k; simp [marksU, numsU]
  | cons q qs ih => intro k; simp [marksU, ih, numsU, Int.add_assoc]

/-- One row turned, in its own block. -/
theorem RowsU.turn {w w' : World} {B : Nat} {v : Value} {qs rs : List (Nat × Nat × List Int)} {p : Nat × Nat × List Int} {zs : List Int} (h : RowsU w B v (qs ++ p :: rs)) (hz : zs.length = p.2.2.length)
    (ho : Own w' B (some ⟨p.1, 0, none⟩) p.2.1 zs) (hg : w.grownBy w' (some p.1)) : RowsU w' B v (qs ++ (p.1, p.2.1, zs) :: rs) := by
  have hn := h.nodup
  rw [List.map_append, List.map_cons, List.nodup_append, List.nodup_cons] at hn
  obtain ⟨h1, ⟨h2, h3⟩, h4⟩ := hn
  have hp := h.each p (by simp)
  refine ⟨?_, ?_, ?_⟩
  · have := h.row.kept hg (.inr (rowU_apart h.row hp))
    have e : (qs ++ (p.1, p.2.1, zs) :: rs).map slU = (qs ++ p :: rs).map slU := by simp [slU, hz]
    rw [e]
    simpa using this
  · intro q hq
    have hk : ∀ q : Nat × Nat × List Int, q ∈ qs ++ p :: rs → q.1 ≠ p.1 → Own w' B (some ⟨q.1, 0, none⟩) q.2.1 q.2.2 := fun q hq hne =>
      (h.each q hq).kept_ (A2 := some ⟨p.1, 0, none⟩) hg (.inr (fun e => hne (Option.some.inj e)))
    rcases List.mem_append.1 hq with hq | hq
    · exact hk q (by simp [hq]) (fun e => h4 q.1 (List.mem_map.2 ⟨q, hq, rfl⟩) p.1 (by simp) e)
    · rcases List.mem_cons.1 hq with rfl | hq
      · exact ho
      · exact hk q (by simp [hq]) (fun e => h2 (by rw [← e]; exact List.mem_map.2 ⟨q, hq, rfl⟩))
  · simpa using h.nodup

theorem RowsU.cell_at {w : World} {B g c n k : Nat} {ps : List (Nat × Nat × List Int)} {p : Nat × Nat × List Int} (h : RowsU w B (.slice (some ⟨g, 0, none⟩) n c) ps) (hk : ps[k]? = some p) : w.cell? ⟨g, k, none⟩ = some (slU p) := by
  have hr := h.row
  have hv := hr.2
  have e : n = ps.length := by
    rcases hv with ⟨hv, _⟩ | ⟨g', cap, cur, hv, _⟩
    · cases hv
    · injection hv
  subst e
  have := World.ownsRow.cellAt hr k (by have := (List.getElem?_eq_some_iff.1 hk).1; omega)
  rw [this, List.getElem?_map, hk]; rfl
theorem marksU_append (b : List (Nat × Nat × List Int)) : ∀ (a : List (Nat × Nat × List Int)) (k : Int), marksU k (a ++ b) = marksU k a ++ marksU (k + numsU a) b
  | [], k => by simp [marksU, numsU]
  | p :: a, k => by
    simp only [List.cons_append, marksU, numsU]
    rw [marksU_append b a]
    congr 2
    push_cast
    rw [Int.add_assoc]
theorem splitU_at {ps : List (Nat × Nat × List Int)} {j : Nat} {p : Nat × Nat × List Int} (hp : ps[j]? = some p) : ps = ps.take j ++ p :: ps.drop (j + 1) := by
  obtain ⟨hj, rfl⟩ := List.getElem?_eq_some_iff.1 hp
  rw [← List.drop_eq_getElem_cons hj, List.take_append_drop]
theorem marksU_at {ps : List (Nat × Nat × List Int)} {j : Nat} {p : Nat × Nat × List Int} (hp : ps[j]? = some p) (k : Int) : (marksU k ps)[j]? = some (p.1, p.2.1, upF (k + numsU (ps.take j)) p.2.2.length) := by
  have hj := (List.getElem?_eq_some_iff.1 hp).1
  conv => lhs; rw [splitU_at hp]
  rw [marksU_append, List.getElem?_append_right (by rw [marksU_len, List.length_take]; omega), marksU_len, List.length_take, Nat.min_eq_left (by omega), Nat.sub_self]
  rfl
theorem takeU_up {ps : List (Nat × Nat × List Int)} {j : Nat} {p : Nat × Nat × List Int} (hp : ps[j]? = some p) : ps.take (j + 1) = ps.take j ++ [p] := by rw [List.take_add_one, hp]; rfl
theorem numsU_append (a b : List (Nat × Nat × List Int)) : numsU (a ++ b) = numsU a + numsU b := by
  induction a with
  | nil => simp [numsU]
  | cons p a ih => simp only [List.cons_append, numsU, ih]; omega
theorem numsU_take (ps : List (Nat × Nat × List Int)) (j : Nat) : numsU (ps.take j) ≤ numsU ps := by
  have e := numsU_append (ps.take j) (ps.drop j)
  rw [List.take_append_drop] at e
  omega
theorem numsU_mem {ps : List (Nat × Nat × List Int)} {p : Nat × Nat × List Int} (h : p ∈ ps) : p.2.2.length ≤ numsU ps := by
  induction ps with
  | nil => cases h
  | cons q ps ih =>
    simp only [numsU]
    rcases List.mem_cons.1 h with rfl | h
    · omega
    · have := ih h; omega
theorem numsU_flat (ps : List (Nat × Nat × List Int)) : numsU ps = ((ps.map (·.2.2)).flatten).length := by
  induction ps with
  | nil => rfl
  | cons p ps ih => simp only [numsU, List.map_cons, List.flatten_cons, List.length_append, ih]

set_option maxHeartbeats 2000000 in
theorem markIntSSU {B : Nat} {v : Value} {ps : List (Nat × Nat × List Int)} (k : Int) (w : World) (h : RowsU w B v ps) (hB : B ≤ w.heap.size) (hl : ps.length ≤ 1048576) (hs : numsU ps ≤ 1048576) (hk0 : 0 ≤ k) (hk1 : k ≤ 1000000) :
    Calls Try.prog 47 #[v, .int .i64 k] w fun e w' => e = .returned (.int .i64 (k + numsU ps)) ∧ RowsU w' B v (marksU k ps) ∧ Below B w w' ∧ (∀ B' A c xs, (∀ p ∈ ps, ofA A ≠ some p.1) → Own w B' A c xs → Own w' B' A c xs) := by
  rcases h.shape with ⟨rfl, rfl⟩ | ⟨g, c, rfl, _⟩
  · go_enter Try.func47, Try.ntmps47
    go_wp2
    go_loopw [1, 5] (fun q i wr => q = .int .i64 k ∧ i = .int .i64 0 ∧ wr = w) (fun _ _ _ => 0)
    case atStart => exact ⟨rfl, rfl, rfl⟩
    case round =>
      obtain ⟨rfl, rfl, rfl⟩ := hrel
      go_wp2
      go_ret
      exact ⟨by simp [numsU], RowsU.base (RowsU.nil _ _) (Nat.le_refl _), Below.refl _ _, fun _ _ _ _ _ h => h⟩
  · have HSM := Lib.hid hs
    clear hs
    go_enter Try.func47, Try.ntmps47
    go_wp2
    go_loopw [1, 5] (fun q i wr => ∃ (j : Nat) (m : Int), j ≤ ps.length ∧ i = .int .i64 j ∧ q = .int .i64 m ∧ Hid (m = k + numsU (ps.take j)) ∧ Hid (RowsU wr B (.slice (some ⟨g, 0, none⟩) ps.length c) (marksU k (ps.take j) ++ ps.drop j)) ∧ Below B w wr ∧ Hid (∀ B' A c xs, (∀ p ∈ ps, ofA A ≠ some p.1) → Own w B' A c xs → Own wr B' A c xs)) (fun _ i _ => ps.length - (intOf i).toNat)
    case atStart => exact ⟨0, k, Nat.zero_le _, rfl, rfl, Lib.hid (by simp [numsU]), Lib.hid (by simpa [marksU] using h), Below.refl _ _, Lib.hid (fun _ _ _ _ _ h => h)⟩
    case round =>
      obtain ⟨j, m, hj, rfl, rfl, HM, HR, hb, HKP⟩ := hrel
      by_cases hlt : j < ps.length
      · obtain ⟨p, hpj⟩ : ∃ p, ps[j]? = some p := ⟨_, List.getElem?_eq_getElem hlt⟩
        have hd : ps.drop j = p :: ps.drop (j + 1) := by
          obtain ⟨hj, rfl⟩ := List.getElem?_eq_some_iff.1 hpj
          exact List.drop_eq_getElem_cons hj
        have hR := HR.out
        rw [hd] at hR
        have hcp := hR.cell_at (k := j) (p := p) (by rw [List.getElem?_append_right (by rw [marksU_len, List.length_take]; omega), marksU_len, List.length_take, Nat.min_eq_left (by omega), Nat.sub_self]; rfl)
        have hsum : numsU (ps.take j) ≤ 1048576 := Nat.le_trans (numsU_take ps j) HSM.out
        have hm0 : 0 ≤ m := by have := HM.out; omega
        have hm1 : m ≤ 1099511627776 := by have := HM.out; omega
        have hpl : p.2.2.length ≤ 1048576 := Nat.le_trans (numsU_mem (List.mem_of_getElem? hpj)) HSM.out
        have HPM := Lib.hid (List.mem_of_getElem? hpj)
        have HO := Lib.hid (hR.each p (by simp))
        have HR2 := Lib.hid hR
        have HT := Lib.hid (takeU_up hpj)
        have hBs : B ≤ wr.heap.size := Nat.le_trans hB hb.size
        obtain ⟨pg, pc, pl⟩ := p
        simp only [slU] at hcp
        simp only at hpl
        clear hpj hd hR HR hsum
        go_wp2_with (go_at_call 48; refine (markIntS_any (some ⟨pg, 0, none⟩) pc pl m B wr HO.out (by omega) hm0 hm1).mono ?_; rintro e w2 ⟨rfl, o2, g2⟩)
        have R3 := Lib.hid (HR2.out.turn (upF_len _ _) o2 g2)
        go_roundw
        case rel =>
          refine ⟨j + 1, m + (pl.length : Int), by omega, by go_num, rfl, Lib.hid (by rw [HT.out, numsU_snoc, HM.out]; push_cast; omega), Lib.hid ?_, hb.grown g2 hBs (fun q e => by cases e; exact HO.out.ge), Lib.hid (fun B' A c xs hne ho => (HKP.out B' A c xs hne ho).kept_ g2 (.inr (hne _ HPM.out)))⟩
          rw [HT.out, marksU_snoc, ← HM.out, List.append_assoc]
          exact R3.out
        case measure => simp [intOf]; omega
      · obtain rfl : j = ps.length := by omega
        have hf : m = k + numsU ps ∧ RowsU wr B (.slice (some ⟨g, 0, none⟩) ps.length c) (marksU k ps) := by
          have h1 := HM.out
          have h2 := HR.out
          rw [List.take_length] at h1 h2
          rw [List.drop_length, List.append_nil] at h2
          exact ⟨h1, h2⟩
        have HF := Lib.hid hf
        clear hf
        go_wp2
        go_ret
        exact ⟨by rw [← HF.out.1]; rfl, HF.out.2, hb, HKP.out⟩

end Go.Proofs.Ytccbjgajmjcpjab

/-
  Rows that came in as an argument; what the exact laws' walks of chapter 3 have in common.
-/
namespace Go.Proofs.Ytccbjgajmjcpjab
open Go.RowKit

/-- The slice (A, as long as rows) came in with capacity c and reads as rows of ints. -/
def CameR (w : World) (A : Option Addr) (c : Nat) (rows : List (List Int)) : Prop := RdR w A c rows ∧ rows.length ≤ maxLen ∧ ∀ r ∈ rows, r.length ≤ maxLen

theorem CameR.nil (w : World) : CameR w none 0 [] := ⟨RdR.nil w, by simp, fun _ h => absurd h (by simp)⟩
theorem addr_add (b off j : Nat) : (⟨b, off, none⟩ : Addr).add j = ⟨b, off + j, none⟩ := by unfold Addr.add; split <;> simp_all
theorem CameR.of {w : World} {x : Addr} {len cap base : Nat} {Af : Nat → Option Addr} {L C : Nat → Nat} {Z : Nat → List Int} (hl : len ≤ cap) (hm : cap ≤ maxLen)
    (h : ∀ r, r < cap → w.cell? (x.add r) = some (.slice (Af r) (L r) (C r)) ∧ L r ≤ C r ∧ C r ≤ maxLen ∧ (Z r).length = C r ∧ (∀ n ∈ Z r, (Lit.int .i64 n).wf = true) ∧ (Af r = none → C r = 0) ∧
      ∀ a', Af r = some a' → base ≤ a'.block ∧ ∀ c, c < C r → w.cell? (a'.add c) = some (.int .i64 ((Z r).getD c 0))) :
    ∃ rows, len = rows.length ∧ CameR w (some x) cap rows := by
  refine ⟨(List.range len).map (fun r => (Z r).take (L r)), by simp, ⟨by simpa using hl, ?_⟩, by simp; omega, ?_⟩
  · rcases Nat.eq_zero_or_pos len with h0 | h0
    · subst h0
      exact .inl ⟨by simp, fun h => by cases h⟩
    · obtain ⟨b, off, spot⟩ := x
      have hs : spot = none := by have := (h 0 (by omega)).1; simpa [Addr.add] using World.cell?_spot this
      subst hs
      refine .inr ⟨b, off, rfl, fun k r hk => ?_⟩
      have hkl : k < len := by have := (List.getElem?_eq_some_iff.1 hk).1; simpa using this
      have hr : r = (Z k).take (L k) := by simp [hkl] at hk; exact hk.symm
      obtain ⟨h1, h2, h3, h4, _, h6, h7⟩ := h k (by omega)
      rw [addr_add] at h1
      have hrl : r.length = L k := by rw [hr, List.length_take]; omega
      refine ⟨_, h1, Af k, C k, by rw [hrl], by omega, ?_⟩
      cases hA : Af k with
      | none =>
        have := h6 hA
        exact .inl ⟨List.eq_nil_of_length_eq_zero (by omega), fun _ => this⟩
      | some a' =>
        obtain ⟨_, h8⟩ := h7 a' hA
        rcases Nat.eq_zero_or_pos (L k) with hz | hz
        · exact .inl ⟨List.eq_nil_of_length_eq_zero (by omega), fun h => by cases h⟩
        · obtain ⟨b', off', spot'⟩ := a'
          have hs' : spot' = none := by simpa [Addr.add] using World.cell?_spot (h8 0 (by omega))
          subst hs'
          refine .inr ⟨b', off', rfl, fun j hj => ?_⟩
          have := h8 j (by omega)
          rw [addr_add] at this
          rw [this, hr]
          simp [show j < L k by omega]
  · intro r hr
    obtain ⟨k, hk, rfl⟩ := List.mem_map.1 hr
    have hk := List.mem_range.1 hk
    have := h k (by omega)
    rw [List.length_take]
    omega

theorem szR_len {rows : List (List Int)} (h : szR rows ≤ 1048576) : rows.length ≤ 1048576 := by unfold szR at h; omega
theorem szR_each {rows : List (List Int)} (h : szR rows ≤ 1048576) : ∀ r ∈ rows, r.length ≤ 1099511627776 := by
  intro r hr
  obtain ⟨k, hk, rfl⟩ := List.getElem_of_mem hr
  have h1 := flat_take (List.getElem?_eq_getElem hk)
  have h2 := flat_le (rows := rows) (k + 1)
  unfold szR at h
  omega
theorem nums_sz {ps : List (Nat × Nat × List Int)} {rows : List (List Int)} (hm : ps.map (·.2.2) = rows) (h : szR rows ≤ 1048576) : ps.length ≤ 1048576 ∧ numsU ps ≤ 1048576 ∧ ∀ p ∈ ps, p.2.2.length ≤ 1099511627776 := by
  have h1 := numsU_flat ps
  have h2 := congrArg List.length hm
  rw [List.length_map] at h2
  unfold szR at h
  rw [hm] at h1
  refine ⟨by omega, by omega, fun p hp => ?_⟩
  have := numsU_mem hp
  omega
theorem own_bk {w : World} {B k : Nat} {A : Option Addr} {c : Nat} {xs : List Int} (h : Own w B A c xs) (hk : ofA A = some k) : B ≤ k ∧ k < w.heap.size :=
  World.ownsRow.lt h k (by rw [own_block]; exact hk)

end Go.Proofs.Ytccbjgajmjcpjab

/-
  Rows of numbers that are drawn: one more, one in place of another.
-/
namespace Go.Proofs.Ytccbjgajmjcpjab
open Go.RowKit

theorem RowsU.more {w w1 : World} {B : Nat} {v v' : Value} {ps : List (Nat × Nat × List Int)} {p : Nat × Nat × List Int} {tmp : Obj} (h : RowsU w B v ps) (ho : Own w B (some ⟨p.1, 0, none⟩) p.2.1 p.2.2) (hn : p.1 ∉ ps.map (·.1))
    (hown : w1.ownsRow B 26 1 v' (ps.length + 1) (ps.map slU ++ [slU p])) (hg : (w.alloc tmp).grownBy w1 v.ownBlock) : RowsU w1 B v' (ps ++ [p]) := by
  have hk : ∀ q : Nat × Nat × List Int, Own w B (some ⟨q.1, 0, none⟩) q.2.1 q.2.2 → Own w1 B (some ⟨q.1, 0, none⟩) q.2.1 q.2.2 := by
    intro q hq
    have h1 := World.ownsRow.kept (show (w.alloc tmp).ownsRow B 3 1 _ _ _ from hq.below ((Below.refl _ w).alloc (Nat.le_refl _) tmp)) hg (.inr (by
      have := rowU_apart h.row hq
      simp only [Value.ownBlock]
      exact fun e => this e.symm))
    exact h1
  refine ⟨by simpa using hown, ?_, ?_⟩
  · intro q hq
    rcases List.mem_append.1 hq with hq | hq
    · exact hk q (h.each q hq)
    · obtain rfl : q = p := by simpa using hq
      exact hk q ho
  · rw [List.map_append, List.nodup_append]
    refine ⟨h.nodup, by simp, ?_⟩
    intro a ha b hb hab
    simp at hb
    subst hb hab
    exact hn ha
/-- The first row another. -/
theorem RowsU.put {w : World} {B g c : Nat} {p q : Nat × Nat × List Int} {rs : List (Nat × Nat × List Int)} (h : RowsU w B (.slice (some ⟨g, 0, none⟩) (p :: rs).length c) (p :: rs)) (ho : Own w B (some ⟨q.1, 0, none⟩) q.2.1 q.2.2) (hn : q.1 ∉ (p :: rs).map (·.1)) :
    RowsU (w.setCell ⟨g, 0, none⟩ (slU q)) B (.slice (some ⟨g, 0, none⟩) (p :: rs).length c) (q :: rs) := by
  have hst := World.ownsRow.stored h.row 0 (slU q)
  have hap : ∀ r : Nat × Nat × List Int, Own w B (some ⟨r.1, 0, none⟩) r.2.1 r.2.2 → Own (w.setCell ⟨g, 0, none⟩ (slU q)) B (some ⟨r.1, 0, none⟩) r.2.1 r.2.2 := fun r hr => by
    have := rowU_apart h.row hr
    exact hr.kept_ (A2 := some ⟨g, 0, none⟩) hst.2 (.inr (fun e => this e.symm))
  refine ⟨by simpa using hst.1, fun r hr => ?_, ?_⟩
  · rcases List.mem_cons.1 hr with rfl | hr
    · exact hap _ ho
    · exact hap _ (h.each r (by simp [hr]))
  · have h1 := h.nodup
    rw [List.map_cons, List.nodup_cons] at h1 ⊢
    exact ⟨fun hm => hn (by rw [List.map_cons]; exact List.mem_cons_of_mem _ hm), h1.2⟩
theorem RowsU.ask {w w' : World} {rb B : Nat} {v : Value} {ps : List (Nat × Nat × List Int)} (h : RowsU w B v ps) (hg : w.grownBy w' (some rb)) (hB : rb < B) : RowsU w' B v ps :=
  h.kept hg (fun e => by have := (World.ownsRow.lt h.row rb e).1; omega) (fun p hp e => by have := (h.each p hp).ge; omega)
theorem RowsU.notIn {w w0 : World} {B B' g c : Nat} {v : Value} {zs : List Int} {ps : List (Nat × Nat × List Int)} (h : RowsU w0 B v ps) (hs : w0.heap.size ≤ B') (ho : Own w B' (some ⟨g, 0, none⟩) c zs) : g ∉ ps.map (·.1) := by
  intro hg
  obtain ⟨p, hp, rfl⟩ := List.mem_map.1 hg
  have h1 := (h.each p hp).lt
  have h2 := ho.ge
  omega
theorem RowsU.one {w : World} {B : Nat} {v : Value} {ps : List (Nat × Nat × List Int)} (h : RowsU w B v ps) (hp : 1 ≤ ps.length) : ∃ g c, v = .slice (some ⟨g, 0, none⟩) ps.length c := by
  rcases h.shape with ⟨rfl, _⟩ | ⟨g, c, hv, _⟩
  · simp at hp
  · exact ⟨g, c, hv⟩

theorem rowr_empty (w : World) : (w.alloc (.cells #[] 26)).ownsRow w.heap.size 26 1 (.slice (some ⟨w.heap.size, 0, none⟩) 0 0) 0 [] := World.ownsRow_lit w #[] 0 (Nat.le_refl _) (Nat.zero_le _) rfl
theorem rowsU_empty (w : World) : RowsU (w.alloc (.cells #[] 26)) w.heap.size (.slice (some ⟨w.heap.size, 0, none⟩) 0 0) [] := ⟨rowr_empty w, fun _ h => absurd h (by simp), by simp⟩

theorem Own.alloc_ {w : World} {B : Nat} {A : Option Addr} {c : Nat} {xs : List Int} (h : Own w B A c xs) (o : Obj) : Own (w.alloc o) B A c xs := World.ownsRow.alloc h o

end Go.Proofs.Ytccbjgajmjcpjab

/-
  The generators of the laws of chapter 4: tables.
-/
namespace Go.Proofs.Ytccbjgajmjcpjab
open Go.RowKit Go.Lib

/-- What is drawn: tables, of at most eight numbers each. -/
def TablesIs (w : World) (rb k : Nat) (e : Ending) (w' : World) : Prop :=
  ∃ v ps, e = .returned v ∧ RowsU w' w.heap.size v ps ∧ ps.length ≤ 4 ∧ (∀ p ∈ ps, p.2.2.length ≤ 8) ∧ Rdr w' rb k ∧ w.grownBy w' (some rb)

def lenW : Value → Nat
  | .slice _ n _ => n
  | _ => 0

set_option maxHeartbeats 4000000 in
set_option maxRecDepth 100000 in
theorem someTables_any (rb k : Nat) (w : World) (h : Rdr w rb k) (hk : k + 250 ≤ 1000000) :
    Calls Try.prog 67 #[.pointer (some ⟨rb, 0, none⟩), .int .i64 4] w (TablesIs w rb (k + 170)) := by
  obtain ⟨i0, hi, hz0, hz1, hz2⟩ := info_parts intsU_info
  have hl := h.lt
  have HE := Lib.hid (rowsU_empty w)
  have HL : Hid (Own ((w.alloc (.cells #[] 26)).alloc (.cells #[.int .i64 2, .int .i64 3, .int .i64 2, .int .i64 1, .int .i64 0, .int .i64 4] 3)) (w.heap.size + 1) (some ⟨w.heap.size + 1, 0, none⟩) 6 [2, 3, 2, 1, 0, 4]) := Lib.hid (by
    have := own_lit (w.alloc (.cells #[] 26)) [2, 3, 2, 1, 0, 4] (by decide)
    rw [World.size_alloc] at this
    exact this)
  have HR := Lib.hid ((h.alloc (.cells #[] 26)).alloc (.cells #[.int .i64 2, .int .i64 3, .int .i64 2, .int .i64 1, .int .i64 0, .int .i64 4] 3))
  have HG : Hid (w.grownBy ((w.alloc (.cells #[] 26)).alloc (.cells #[.int .i64 2, .int .i64 3, .int .i64 2, .int .i64 1, .int .i64 0, .int .i64 4] 3)) (some rb)) := Lib.hid (gb_alloc (World.grownBy_alloc w _ (some rb)) _)
  have HO : Hid (RowsU ((w.alloc (.cells #[] 26)).alloc (.cells #[.int .i64 2, .int .i64 3, .int .i64 2, .int .i64 1, .int .i64 0, .int .i64 4] 3)) w.heap.size (.slice (some ⟨w.heap.size, 0, none⟩) 0 0) []) := Lib.hid (HE.out.below ((Below.refl _ _).alloc (Nat.le_refl _) _))
  have hl2 : w.heap.size + 1 ≠ rb := by omega
  clear HE
  go_enter Try.func67, Try.ntmps67
  go_wp2_with fail
  refine (one_any rb k (w.heap.size + 1) 6 6 (w.heap.size + 1) [2, 3, 2, 1, 0, 4] _ rfl HR.out HL.out hl2 (by decide) (by decide) (by omega)).mono ?_
  rintro e w1 ⟨most, hmo, rfl, hr1, hg1⟩
  have hm0 : 0 ≤ most := by simp only [List.mem_cons, List.not_mem_nil, or_false] at hmo; omega
  have hm1 : most ≤ 4 := by simp only [List.mem_cons, List.not_mem_nil, or_false] at hmo; omega
  have ho1 := HO.out.ask hg1 hl
  have gg1 := HG.out.trans hg1
  obtain ⟨S, hS⟩ : ∃ S, S = w.heap.size := ⟨_, rfl⟩
  have HSS := Lib.hid hS
  rw [← hS] at ho1 hl
  clear hmo HR HG HO HL hg1 hl2
  go_wp2_with fail
  rw [← hS]
  clear hS
  go_loopw [5] (fun v wr => ∃ (ps : List (Nat × Nat × List Int)), ps.length ≤ 4 ∧ (∃ g c, v = .slice (some ⟨g, 0, none⟩) ps.length c) ∧ Hid (∀ p ∈ ps, p.2.2.length ≤ 8) ∧ RowsU wr S v ps ∧ Rdr wr rb (k + 1 + 30 * ps.length) ∧ w.grownBy wr (some rb))
    (fun v _ => 4 - lenW v)
  case atStart => exact ⟨[], Nat.zero_le _, ⟨S, 0, rfl⟩, Lib.hid (fun _ h => absurd h (by simp)), ho1, hr1, gg1⟩
  case round =>
    obtain ⟨ps, hps, ⟨g, c, rfl⟩, HP, hR, hr, hg⟩ := hrel
    by_cases hlt : (ps.length : Int) < most
    · have hp4 : ps.length < 4 := by omega
      have HRW := Lib.hid hR
      go_wp2_with fail
      refine (goodTable_any rb (k + 1 + 30 * ps.length) wr hr (by omega)).mono ?_
      rintro e w2 ⟨g2, c2, ys, rfl, hy8, _, o2, hr2, hg2⟩
      have hy : ys.length ≤ 8 := by omega
      have e8 : slU (g2, c2, ys) = .slice (some ⟨g2, 0, none⟩) 8 c2 := by show Value.slice _ ys.length _ = _; rw [hy8]
      have E8 := Lib.hid e8
      clear hy8
      have hR2 := HRW.out.ask hg2 hl
      have gg2 := hg.trans hg2
      have hnot := HRW.out.notIn (Nat.le_refl _) o2
      have HN := Lib.hid hnot
      have hS2 : S ≤ wr.heap.size := by rw [HSS.out]; exact hg.size
      have HT := Lib.hid (own_len hR2.row ((Below.refl _ w2).alloc (Nat.le_refl _) (.cells #[.slice (some ⟨g2, 0, none⟩) 8 c2] 26)))
      have hb63 : ps.length + 1 ≤ maxLen := by unfold maxLen; omega
      have hSz : S ≤ w2.heap.size + 1 := by have := hg2.size; omega
      clear hR hnot e8
      go_wp2_with (at_builtin; (refine wpList_append_own _ rfl _ _ 23 rfl S 26 i0 (.slice none 0 0) 1 24 Try.underlying23 hi hz0 hz1 hz2 rfl (by decide) (.slice (some ⟨g, 0, none⟩) ps.length c) ps.length (ps.map slU) rfl HT.out ⟨w2.heap.size, 0, none⟩ 1 1 [.slice (some ⟨g2, 0, none⟩) 8 c2] rfl rfl (cell_one_new _ _ _) (by simp [Value.oneCell']) hb63 (by omega) (by simpa using hSz) ?_; intro v5 w5 hown5 hg5 _))
      rw [← E8.out] at hown5
      have R5 : RowsU w5 S v5 (ps ++ [(g2, c2, ys)]) := hR2.more (p := (g2, c2, ys)) (o2.base hS2) HN.out hown5 hg5
      have hgeg : S ≤ g := (World.ownsRow.lt hR2.row g rfl).1
      have hr5 := (hr2.alloc (.cells #[.slice (some ⟨g2, 0, none⟩) 8 c2] 26)).grown (g := g) hg5 (by omega)
      have gg5 := gb_new (g := g) (gb_alloc gg2 (.cells #[.slice (some ⟨g2, 0, none⟩) 8 c2] 26)) hg5 (by rw [← HSS.out]; exact hgeg)
      obtain ⟨g5, c5, rfl⟩ := R5.one (by simp)
      have HP5 : Hid (∀ p ∈ ps ++ [(g2, c2, ys)], p.2.2.length ≤ 8) := Lib.hid (by
        intro p hp
        rcases List.mem_append.1 hp with hp | hp
        · exact HP.out p hp
        · obtain rfl : p = (g2, c2, ys) := by simpa using hp
          exact hy)
      have hlp : (ps ++ [(g2, c2, ys)]).length = ps.length + 1 := by simp
      have HLP := Lib.hid hlp
      clear hown5 hg5 hR2 HT o2 hlp
      go_roundw
      case rel => exact ⟨ps ++ [(g2, c2, ys)], by rw [HLP.out]; omega, ⟨g5, c5, rfl⟩, HP5, R5, hr5.more (by rw [HLP.out]; omega), gg5⟩
      case measure => simp [lenW]; omega
    · cases ps with
      | nil =>
        have hz : ¬ (0 : Int) < (([] : List (Nat × Nat × List Int)).length : Int) := by simp
        have HR0 := Lib.hid hR
        clear hR
        go_wp2
        go_ret
        exact ⟨_, [], rfl, HR0.out.base (by rw [HSS.out]; exact Nat.le_refl _), by simp, (fun _ h => absurd h (by simp)), hr.more (by simp), hg⟩
      | cons p rs =>
        obtain ⟨L, hL⟩ : ∃ L, L = (p :: rs).length := ⟨_, rfl⟩
        have hL0 : (0 : Int) < (L : Int) := by rw [hL]; simp
        have HLL := Lib.hid hL
        rw [← hL] at hr hps hlt ⊢
        have HRW := Lib.hid hR
        have hR' := hR
        rw [← hL] at hR'
        clear hR hL hR'
        go_wp2_with fail
        refine (pick_any rb (k + 1 + 30 * L) 40 wr hr (by omega) (by decide) (by decide)).mono ?_
        rintro e w2 ⟨m, rfl, hm2, _, hr2, hg2⟩
        have gg2 := hg.trans hg2
        have hR2 := HRW.out.ask hg2 hl
        by_cases hm : m = 0
        · have hmb : (m == 0) = true := by simpa using hm
          clear hm
          go_wp2_with fail
          refine (someTable_any rb (k + 1 + 30 * L + 1) w2 hr2 (by omega)).mono ?_
          rintro e w3 ⟨g3, c3, zs, rfl, hz8, o3, hr3, hg3⟩
          have hR3 := hR2.ask hg3 hl
          have gg3 := gg2.trans hg3
          have hS2 : S ≤ w2.heap.size := by rw [HSS.out]; exact gg2.size
          have HN3 := Lib.hid (hR2.notIn (Nat.le_refl _) o3)
          have hc0 : w3.cell? ⟨g, 0, none⟩ = some (slU p) := World.ownsRow.cellAt hR3.row 0 (by simp)
          have hf0 : w3.frozen? ⟨g, 0, none⟩ = false := World.ownsRow.frozenAt hR3.row 0
          have HPUT := Lib.hid (hR3.put (q := (g3, c3, zs)) (o3.base hS2) HN3.out)
          have hSg : S ≤ g := (World.ownsRow.lt hR3.row g rfl).1
          have HR4 := Lib.hid (hr3.set_ (g := g) (i := 0) (v := slU (g3, c3, zs)) (by omega))
          have HG4 := Lib.hid (gb_set (g := g) (i := 0) (v := slU (g3, c3, zs)) gg3 (by rw [← HSS.out]; exact hSg))
          have HQ : Hid (∀ q ∈ ((g3, c3, zs) :: rs), q.2.2.length ≤ 8) := Lib.hid (fun q hq => by
            rcases List.mem_cons.1 hq with rfl | hq
            · exact hz8
            · exact HP.out q (by simp [hq]))
          clear hR2 hR3 o3 hg3
          go_wp2
          go_ret
          exact ⟨_, (g3, c3, zs) :: rs, by rw [HLL.out]; rfl, HPUT.out.base (by rw [HSS.out]; exact Nat.le_refl _), by have := HLL.out; simp at this ⊢; omega, HQ.out, HR4.out.more (by omega), HG4.out⟩
        · have hmb : (m == 0) = false := by simpa using hm
          have HRF := Lib.hid (hR2.base (B' := w.heap.size) (by rw [HSS.out]; exact Nat.le_refl _))
          clear hm hR2
          go_wp2
          go_ret
          exact ⟨_, p :: rs, by rw [HLL.out]; rfl, HRF.out, by rw [← HLL.out]; exact hps, HP.out, hr2.more (by omega), gg2⟩

end Go.Proofs.Ytccbjgajmjcpjab
