/-
  The exact laws' helpers for lists of rows: compared, marked, held.
-/
import Derived.Test.YtcbhjcbbjegmiabGridS
import Derived.Test.YtcbhjcbbjegmiabMark
namespace Go.Proofs.Ytcbhjcbbjegmiab
open Go.RowKit

set_option maxHeartbeats 2000000 in
theorem eqIntSS_same {B B' : Nat} {v u : Value} {ps qs : List (Nat × Nat × List Int)} (w : World) (h1 : RowsIn w B v ps) (h2 : RowsIn w B' u qs) (he : ps.map (·.2.2) = qs.map (·.2.2)) (hl : ps.length ≤ 1000) (hp : ∀ p ∈ ps, p.2.2.length ≤ 1099511627776) :
    Calls Try.prog 10 #[v, u] w (BoolAt w true) := by
  have hlen : ps.length = qs.length := by have := congrArg List.length he; simpa using this
  rcases h1.shape with ⟨rfl, rfl⟩ | ⟨g, c, rfl, hc1⟩
  · obtain rfl : qs = [] := List.eq_nil_of_length_eq_zero (by rw [← hlen]; rfl)
    rcases h2.shape with ⟨_, rfl⟩ | ⟨g2, c2, rfl, _⟩
    all_goals
      go_enter Try.func10, Try.ntmps10
      go_wp2
      go_loopw [5] (fun i wr => i = .int .i64 0 ∧ wr = w) (fun _ _ => 0)
      case atStart => exact ⟨rfl, rfl⟩
      case round =>
        obtain ⟨rfl, rfl⟩ := hrel
        go_wp2
        go_ret
        exact ⟨rfl, Below.refl _ _⟩
  · rcases h2.shape with ⟨rfl, rfl⟩ | ⟨g2, c2, rfl, hc2⟩
    · simp at hlen
      subst hlen
      go_enter Try.func10, Try.ntmps10
      go_wp2
      go_loopw [5] (fun i wr => i = .int .i64 0 ∧ wr = w) (fun _ _ => 0)
      case atStart => exact ⟨rfl, rfl⟩
      case round =>
        obtain ⟨rfl, rfl⟩ := hrel
        go_wp2
        go_ret
        exact ⟨rfl, Below.refl _ _⟩
    · have hne : ((ps.length : Int) != (qs.length : Int)) = false := by simp [hlen]
      have HL := Lib.hid hlen
      have HC1 := Lib.hid hc1
      have HC2 := Lib.hid hc2
      have HE := Lib.hid he
      have HP := Lib.hid hp
      have hs1 : g < w.heap.size := (World.ownsRow.lt h1.row g rfl).2
      have hs2 : g2 < w.heap.size := (World.ownsRow.lt h2.row g2 rfl).2
      clear hlen hc1 hc2 he hp
      go_enter Try.func10, Try.ntmps10
      go_wp2
      go_loopw [5] (fun i wr => ∃ k : Nat, k ≤ ps.length ∧ i = .int .i64 k ∧ Below w.heap.size w wr) (fun i _ => ps.length - (intOf i).toNat)
      case atStart => exact ⟨0, Nat.zero_le _, rfl, Below.refl _ _⟩
      case round =>
        obtain ⟨k, hk, rfl, hb⟩ := hrel
        by_cases hlt : k < ps.length
        · have hlt2 : k < qs.length := by have := HL.out; omega
          obtain ⟨p, hp⟩ : ∃ p, ps[k]? = some p := ⟨_, List.getElem?_eq_getElem hlt⟩
          obtain ⟨q, hq⟩ : ∃ q, qs[k]? = some q := ⟨_, List.getElem?_eq_getElem hlt2⟩
          have hpq : p.2.2 = q.2.2 := by
            have := congrArg (fun l => l[k]?) HE.out
            simpa [hp, hq] using this
          have hcp := (hb.cell (p := ⟨g, k, none⟩) hs1).trans (HC1.out k p hp)
          have hcq := (hb.cell (p := ⟨g2, k, none⟩) hs2).trans (HC2.out k q hq)
          have hr1 := Lib.hid ((h1.below hb).each p (List.mem_of_getElem? hp)).rd
          have hr2 := Lib.hid ((h2.below hb).each q (List.mem_of_getElem? hq)).rd
          have hll := Lib.hid (HP.out p (List.mem_of_getElem? hp))
          have HEQ : Hid (eqB p.2.2 q.2.2 = true) := Lib.hid (by rw [hpq]; exact eqB_self _)
          obtain ⟨pg, pc, pl⟩ := p
          obtain ⟨qg, qc, ql⟩ := q
          simp only [slOf] at hcp hcq
          clear hp hq hpq
          go_wp2_with fail
          go_region_with (go_at_call 11; refine (eqIntS_any _ _ _ _ pl ql _ ?_ ?_ ?_).mono ?_; exact hr1.out; exact hr2.out; exact hll.out; rw [HEQ.out]; rintro e w2 ⟨rfl, n2, rfl⟩)
          all_goals
            clear hcp hcq
            go_wp2
            go_roundw
            case rel => exact ⟨k + 1, by omega, by go_num, below_drewN' hb _⟩
            case measure => simp [intOf]; omega
        · obtain rfl : k = ps.length := by omega
          go_wp2
          go_ret
          exact ⟨rfl, hb⟩


/-- How many numbers the rows hold. -/
def sumLen : List (Nat × Nat × List Int) → Nat
  | [] => 0
  | p :: ps => p.2.2.length + sumLen ps
theorem sumLen_snoc (ps : List (Nat × Nat × List Int)) (p : Nat × Nat × List Int) : sumLen (ps ++ [p]) = sumLen ps + p.2.2.length := by
  induction ps with
  | nil => simp [sumLen]
  | cons q qs ih => simp [sumLen, ih]; omega
theorem sumLen_le {M : Nat} : ∀ (ps : List (Nat × Nat × List Int)), (∀ p ∈ ps, p.2.2.length ≤ M) → sumLen ps ≤ ps.length * M
  | [], _ => by simp [sumLen]
  | p :: ps, h => by
    have h1 := h p (by simp)
    have h2 := sumLen_le ps (fun q hq => h q (by simp [hq]))
    simp only [sumLen, List.length_cons, Nat.add_mul]
    omega
/-- The rows marked from k on. -/
def marks (k : Int) : List (Nat × Nat × List Int) → List (Nat × Nat × List Int)
  | [] => []
  | p :: ps => (p.1, p.2.1, upF k p.2.2.length) :: marks (k + p.2.2.length) ps
theorem marks_len (ps : List (Nat × Nat × List Int)) : ∀ k : Int, (marks k ps).length = ps.length := by
  induction ps with
  | nil => intro k; rfl
  | cons p ps ih => intro k; simp [marks, ih]
theorem marks_snoc (ps : List (Nat × Nat × List Int)) (p : Nat × Nat × List Int) : ∀ k : Int, marks k (ps ++ [p]) = marks k ps ++ [(p.1, p.2.1, upF (k + sumLen ps) p.2.2.length)] := by
  induction ps with
  | nil => intro k; simp [marks, sumLen]
  | cons q qs ih => intro k; simp [marks, ih, sumLen, Int.add_assoc]

/-- One row turned, in its own block. -/
theorem RowsIn.turn {w w' : World} {B : Nat} {v : Value} {qs rs : List (Nat × Nat × List Int)} {p : Nat × Nat × List Int} {zs : List Int} (h : RowsIn w B v (qs ++ p :: rs)) (hz : zs.length = p.2.2.length)
    (ho : Own w' B (some ⟨p.1, 0, none⟩) p.2.1 zs) (hg : w.grownBy w' (some p.1)) : RowsIn w' B v (qs ++ (p.1, p.2.1, zs) :: rs) := by
  have hn := h.nodup
  rw [List.map_append, List.map_cons, List.nodup_append, List.nodup_cons] at hn
  obtain ⟨h1, ⟨h2, h3⟩, h4⟩ := hn
  have hp := h.each p (by simp)
  refine ⟨?_, ?_, ?_⟩
  · have := h.row.kept hg (.inr (row_apart h.row hp))
    have e : (qs ++ (p.1, p.2.1, zs) :: rs).map slOf = (qs ++ p :: rs).map slOf := by simp [slOf, hz]
    rw [e]
    simpa using this
  · intro q hq
    have hk : ∀ q : Nat × Nat × List Int, q ∈ qs ++ p :: rs → q.1 ≠ p.1 → Own w' B (some ⟨q.1, 0, none⟩) q.2.1 q.2.2 := fun q hq hne =>
      (h.each q hq).kept_ (A2 := some ⟨p.1, 0, none⟩) hg (.inr (fun e => hne (Option.some.inj e)))
    rcases List.mem_append.1 hq with hq | hq
    · exact hk q (by simp [hq]) (fun e => h4 q.1 (List.mem_map.2 ⟨q, hq, rfl⟩) p.1 (by simp) e)
    · rcases List.mem_cons.1 hq with rfl | hq
      · exact ho
      · exact hk q (by simp [hq]) (fun e => h2 (by rw [← e]; exact List.mem_map.2 ⟨q, hq, rfl⟩))
  · simpa using h.nodup

theorem RowsIn.cell_at {w : World} {B g c n k : Nat} {ps : List (Nat × Nat × List Int)} {p : Nat × Nat × List Int} (h : RowsIn w B (.slice (some ⟨g, 0, none⟩) n c) ps) (hk : ps[k]? = some p) : w.cell? ⟨g, k, none⟩ = some (slOf p) := by
  have hr := h.row
  have hv := hr.2
  have e : n = ps.length := by
    rcases hv with ⟨hv, _⟩ | ⟨g', cap, cur, hv, _⟩
    · cases hv
    · injection hv
  subst e
  have := World.ownsRow.cellAt hr k (by have := (List.getElem?_eq_some_iff.1 hk).1; omega)
  rw [this, List.getElem?_map, hk]; rfl
theorem marks_append (b : List (Nat × Nat × List Int)) : ∀ (a : List (Nat × Nat × List Int)) (k : Int), marks k (a ++ b) = marks k a ++ marks (k + sumLen a) b
  | [], k => by simp [marks, sumLen]
  | p :: a, k => by
    simp only [List.cons_append, marks, sumLen]
    rw [marks_append b a]
    congr 2
    push_cast
    rw [Int.add_assoc]
theorem split_at {ps : List (Nat × Nat × List Int)} {j : Nat} {p : Nat × Nat × List Int} (hp : ps[j]? = some p) : ps = ps.take j ++ p :: ps.drop (j + 1) := by
  obtain ⟨hj, rfl⟩ := List.getElem?_eq_some_iff.1 hp
  rw [← List.drop_eq_getElem_cons hj, List.take_append_drop]
theorem marks_at {ps : List (Nat × Nat × List Int)} {j : Nat} {p : Nat × Nat × List Int} (hp : ps[j]? = some p) (k : Int) : (marks k ps)[j]? = some (p.1, p.2.1, upF (k + sumLen (ps.take j)) p.2.2.length) := by
  have hj := (List.getElem?_eq_some_iff.1 hp).1
  conv => lhs; rw [split_at hp]
  rw [marks_append, List.getElem?_append_right (by rw [marks_len, List.length_take]; omega), marks_len, List.length_take, Nat.min_eq_left (by omega), Nat.sub_self]
  rfl
theorem take_up {ps : List (Nat × Nat × List Int)} {j : Nat} {p : Nat × Nat × List Int} (hp : ps[j]? = some p) : ps.take (j + 1) = ps.take j ++ [p] := by rw [List.take_add_one, hp]; rfl
theorem sum_take_le {ps : List (Nat × Nat × List Int)} (hl : ps.length ≤ 1000) (hp : ∀ p ∈ ps, p.2.2.length ≤ 3) (j : Nat) : sumLen (ps.take j) ≤ 3000 := by
  have h1 := sumLen_le (M := 3) (ps.take j) (fun p h => hp p (List.mem_of_mem_take h))
  have h2 := List.length_take_le j ps
  have h3 : (ps.take j).length ≤ ps.length := by rw [List.length_take]; omega
  omega

set_option maxHeartbeats 2000000 in
theorem markIntSS_any {B : Nat} {v : Value} {ps : List (Nat × Nat × List Int)} (k : Int) (w : World) (h : RowsIn w B v ps) (hB : B ≤ w.heap.size) (hl : ps.length ≤ 1000) (hp : ∀ p ∈ ps, p.2.2.length ≤ 3) (hk0 : 0 ≤ k) (hk1 : k ≤ 1000000) :
    Calls Try.prog 13 #[v, .int .i64 k] w fun e w' => e = .returned (.int .i64 (k + sumLen ps)) ∧ RowsIn w' B v (marks k ps) ∧ Below B w w' := by
  rcases h.shape with ⟨rfl, rfl⟩ | ⟨g, c, rfl, _⟩
  · go_enter Try.func13, Try.ntmps13
    go_wp2
    go_loopw [1, 5] (fun q i wr => q = .int .i64 k ∧ i = .int .i64 0 ∧ wr = w) (fun _ _ _ => 0)
    case atStart => exact ⟨rfl, rfl, rfl⟩
    case round =>
      obtain ⟨rfl, rfl, rfl⟩ := hrel
      go_wp2
      go_ret
      exact ⟨by simp [sumLen], RowsIn.base (RowsIn.nil _ _) (Nat.le_refl _), Below.refl _ _⟩
  · have HP := Lib.hid hp
    go_enter Try.func13, Try.ntmps13
    go_wp2
    go_loopw [1, 5] (fun q i wr => ∃ (j : Nat) (m : Int), j ≤ ps.length ∧ i = .int .i64 j ∧ q = .int .i64 m ∧ Hid (m = k + sumLen (ps.take j)) ∧ Hid (RowsIn wr B (.slice (some ⟨g, 0, none⟩) ps.length c) (marks k (ps.take j) ++ ps.drop j)) ∧ Below B w wr) (fun _ i _ => ps.length - (intOf i).toNat)
    case atStart => exact ⟨0, k, Nat.zero_le _, rfl, rfl, Lib.hid (by simp [sumLen]), Lib.hid (by simpa [marks] using h), Below.refl _ _⟩
    case round =>
      obtain ⟨j, m, hj, rfl, rfl, HM, HR, hb⟩ := hrel
      by_cases hlt : j < ps.length
      · obtain ⟨p, hpj⟩ : ∃ p, ps[j]? = some p := ⟨_, List.getElem?_eq_getElem hlt⟩
        have hd : ps.drop j = p :: ps.drop (j + 1) := by
          obtain ⟨hj, rfl⟩ := List.getElem?_eq_some_iff.1 hpj
          exact List.drop_eq_getElem_cons hj
        have hR := HR.out
        rw [hd] at hR
        have hcp := hR.cell_at (k := j) (p := p) (by rw [List.getElem?_append_right (by rw [marks_len, List.length_take]; omega), marks_len, List.length_take, Nat.min_eq_left (by omega), Nat.sub_self]; rfl)
        have hsum := sum_take_le hl HP.out j
        have hm0 : 0 ≤ m := by have := HM.out; omega
        have hm1 : m ≤ 1099511627776 := by have := HM.out; omega
        have hpl := HP.out p (List.mem_of_getElem? hpj)
        have HO := Lib.hid (hR.each p (by simp))
        have HR2 := Lib.hid hR
        have HT := Lib.hid (take_up hpj)
        have hBs : B ≤ wr.heap.size := Nat.le_trans hB hb.size
        obtain ⟨pg, pc, pl⟩ := p
        simp only [slOf] at hcp
        simp only at hpl
        clear hpj hd hR HR hsum
        go_wp2_with (go_at_call 12; refine (markIntS_any (some ⟨pg, 0, none⟩) pc pl m B wr HO.out (by omega) hm0 hm1).mono ?_; rintro e w2 ⟨rfl, o2, g2⟩)
        have R3 := Lib.hid (HR2.out.turn (upF_len _ _) o2 g2)
        go_roundw
        case rel =>
          refine ⟨j + 1, m + (pl.length : Int), by omega, by go_num, rfl, Lib.hid (by rw [HT.out, sumLen_snoc, HM.out]; push_cast; omega), Lib.hid ?_, hb.grown g2 hBs (fun q e => by cases e; exact HO.out.ge)⟩
          rw [HT.out, marks_snoc, ← HM.out, List.append_assoc]
          exact R3.out
        case measure => simp [intOf]; omega
      · obtain rfl : j = ps.length := by omega
        have hf : m = k + sumLen ps ∧ RowsIn wr B (.slice (some ⟨g, 0, none⟩) ps.length c) (marks k ps) := by
          have h1 := HM.out
          have h2 := HR.out
          rw [List.take_length] at h1 h2
          rw [List.drop_length, List.append_nil] at h2
          exact ⟨h1, h2⟩
        have HF := Lib.hid hf
        clear hf
        go_wp2
        go_ret
        exact ⟨by rw [← HF.out.1]; rfl, HF.out.2, hb⟩

set_option maxHeartbeats 2000000 in
theorem heldIntSS_any {B : Nat} {v : Value} {ps : List (Nat × Nat × List Int)} (k : Int) (w : World) (h : RowsIn w B v (marks k ps)) (hl : ps.length ≤ 1000) (hp : ∀ p ∈ ps, p.2.2.length ≤ 3) (hk0 : 0 ≤ k) (hk1 : k ≤ 1000000) :
    Calls Try.prog 14 #[v, .int .i64 k] w fun e w' => e = .returned (.int .i64 (k + sumLen ps)) ∧ w = w' := by
  rcases h.shape with ⟨he, rfl⟩ | ⟨g, c, hv, _⟩
  · obtain rfl : ps = [] := List.eq_nil_of_length_eq_zero (by rw [← marks_len ps k, he]; rfl)
    go_enter Try.func14, Try.ntmps14
    go_wp2
    go_loopw [1, 5] (fun q i wr => q = .int .i64 k ∧ i = .int .i64 0 ∧ wr = w) (fun _ _ _ => 0)
    case atStart => exact ⟨rfl, rfl, rfl⟩
    case round =>
      obtain ⟨rfl, rfl, rfl⟩ := hrel
      go_wp2
      go_ret
      exact ⟨by simp [sumLen], rfl⟩
  · rw [marks_len] at hv
    subst hv
    have HP := Lib.hid hp
    go_enter Try.func14, Try.ntmps14
    go_wp2
    go_loopw [1, 5] (fun q i wr => ∃ (j : Nat) (m : Int), j ≤ ps.length ∧ i = .int .i64 j ∧ q = .int .i64 m ∧ Hid (m = k + sumLen (ps.take j)) ∧ wr = w) (fun _ i _ => ps.length - (intOf i).toNat)
    case atStart => exact ⟨0, k, Nat.zero_le _, rfl, rfl, Lib.hid (by simp [sumLen]), rfl⟩
    case round =>
      obtain ⟨j, m, hj, rfl, rfl, HM, rfl⟩ := hrel
      by_cases hlt : j < ps.length
      · obtain ⟨p, hpj⟩ : ∃ p, ps[j]? = some p := ⟨_, List.getElem?_eq_getElem hlt⟩
        have hma := marks_at hpj k
        rw [← HM.out] at hma
        have hcp := h.cell_at hma
        have hsum := sum_take_le hl HP.out j
        have hm0 : 0 ≤ m := by have := HM.out; omega
        have hm1 : m ≤ 1099511627776 := by have := HM.out; omega
        have hpl := HP.out p (List.mem_of_getElem? hpj)
        have HO := Lib.hid (h.each _ (List.mem_of_getElem? hma)).rd
        have HT := Lib.hid (take_up hpj)
        obtain ⟨pg, pc, pl⟩ := p
        simp only [slOf, upF_len] at hcp
        simp only at hpl
        clear hpj hma hsum
        have hneg : decide (m + (pl.length : Int) < 0) = false := by simp; omega
        go_wp2_with (go_at_call 26; refine (heldIntS_any (some ⟨pg, 0, none⟩) pc pl.length m _ HO.out (by omega) hm0 hm1).mono ?_; rintro e w2 ⟨rfl, rfl⟩)
        go_roundw
        case rel => exact ⟨j + 1, m + (pl.length : Int), by omega, by go_num, rfl, Lib.hid (by rw [HT.out, sumLen_snoc, HM.out]; push_cast; omega), by first | rfl | trivial⟩
        case measure => simp [intOf]; omega
      · obtain rfl : j = ps.length := by omega
        have HF : Hid (m = k + sumLen ps) := Lib.hid (by have h1 := HM.out; rwa [List.take_length] at h1)
        go_wp2
        go_ret
        exact ⟨by rw [← HF.out]; rfl, rfl⟩

end Go.Proofs.Ytcbhjcbbjegmiab
