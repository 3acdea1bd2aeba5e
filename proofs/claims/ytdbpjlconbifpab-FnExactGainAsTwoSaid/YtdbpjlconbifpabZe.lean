/-
  Chapter 5, the program: the contracts of worthWithout and of the function that it hands back.
-/
import Derived.Test.YtdbpjlconbifpabZa
import Derived.Test.YtdbpjlconbifpabRw
import Derived.Test.YtdbpjlconbifpabWj
import Derived.Deep.RegionHeld3
import Derived.Deep.AppendLies
namespace Go.Proofs.Ytdbpjlconbifpab
open Go.RowKit

theorem splice_erase (cur vs : List Value) (i m : Nat) (hc : cur.length = m) (hv : vs.length = m + 1) (hi : i < m + 1) : splice (splice cur 0 (vs.take i)) i (vs.drop (i + 1)) = vs.eraseIdx i := by
  have e1 : (vs.take i).length = i := by rw [List.length_take]; omega
  have e2 : (splice cur 0 (vs.take i)).take i = vs.take i := by
    unfold splice
    rw [List.take_zero, List.nil_append, List.take_append_of_le_length (by omega), List.take_of_length_le (by omega)]
  have e3 : (splice cur 0 (vs.take i)).length = m := by rw [length_splice _ _ _ (by omega), hc]
  show (splice cur 0 (vs.take i)).take i ++ (vs.drop (i + 1) ++ (splice cur 0 (vs.take i)).drop (i + (vs.drop (i + 1)).length)) = _
  have e4 : (splice cur 0 (vs.take i)).drop (i + (vs.drop (i + 1)).length) = [] := List.drop_of_length_le (by rw [e3, List.length_drop]; omega)
  rw [e2, e4, List.append_nil, erase_cut]

theorem grown_box {w w' : World} {g p : Nat} {v : Value} (hg : w.grownBy w' (some g)) (hp : w.cell? ⟨p, 0, none⟩ = some v) (hne : p ≠ g) : w'.cell? ⟨p, 0, none⟩ = some v :=
  (hg.cell_far ⟨p, 0, none⟩ (World.block_lt_of_cell? w _ hp) (by simp; exact hne)).trans hp

/-- What is known of the tables, their rows, and the block that the others are copied to. -/
structure WoAt (W0 : World) (b off c m p q g : Nat) (vs : List Value) (ts : List (List Int)) (w : World) : Prop where
  rows : RowsV W0 vs ts
  below : Below W0.heap.size W0 w
  far : W0.heap.size ≤ g
  pg : p ≠ g
  qg : q ≠ g
  boxp : w.cell? ⟨p, 0, none⟩ = some (.slice (some ⟨g, 0, none⟩) m m)
  boxq : w.cell? ⟨q, 0, none⟩ = some (.slice (some ⟨b, off, none⟩) (m + 1) c)
  cells : ∀ (k : Nat) (v : Value), vs[k]? = some v → W0.cell? ⟨b, off + k, none⟩ = some v
  block : ∃ cur : List Value, cur.length = m ∧ w.heap[g]? = some (.cells cur.toArray 24 (0, 0))
theorem WoAt.grown {W0 w w' : World} {b off c m p q g r : Nat} {vs : List Value} {ts : List (List Int)} (h : WoAt W0 b off c m p q g vs ts w) (hg : w.grownBy w' (some r)) (hr : W0.heap.size ≤ r) (h1 : p ≠ r) (h2 : q ≠ r) (h3 : g ≠ r) : WoAt W0 b off c m p q g vs ts w' :=
  ⟨h.rows, h.below.grown hg h.below.size (fun k e => by cases e; exact hr), h.far, h.pg, h.qg, grown_box hg h.boxp h1, grown_box hg h.boxq h2, h.cells, by
    obtain ⟨cur, hc, hh⟩ := h.block
    exact ⟨cur, hc, (hg.block g (Array.getElem?_eq_some_iff.1 hh).1 (by simp; exact h3)).trans hh⟩⟩
theorem WoAt.belowW {W0 w w' : World} {b off c m p q g : Nat} {vs : List Value} {ts : List (List Int)} (h : WoAt W0 b off c m p q g vs ts w) (hb : Below w.heap.size w w') : WoAt W0 b off c m p q g vs ts w' :=
  ⟨h.rows, h.below.trans (hb.mono h.below.size), h.far, h.pg, h.qg, (hb.cell (p := ⟨p, 0, none⟩) (World.block_lt_of_cell? w _ h.boxp)).trans h.boxp, (hb.cell (p := ⟨q, 0, none⟩) (World.block_lt_of_cell? w _ h.boxq)).trans h.boxq, h.cells, by
    obtain ⟨cur, hc, hh⟩ := h.block
    exact ⟨cur, hc, (hb.block g (Array.getElem?_eq_some_iff.1 hh).1).trans hh⟩⟩


/-- What the function that is handed back tells: what all is worth to the others. -/
def WoIs (W0 : World) (b off c m p q g : Nat) (vs : List Value) (ts : List (List Int)) (i : Nat) (w : World) (e : Ending) (w' : World) : Prop :=
  e = .returned (.int .i64 (sv (ts.eraseIdx i) 7)) ∧ w.grownBy w' (some g) ∧ WoAt W0 b off c m p q g vs ts w'

set_option maxHeartbeats 2000000 in
theorem Wo_any (W0 : World) (b off c m p q g i : Nat) (vs : List Value) (ts : List (List Int)) (w : World) (h : WoAt W0 b off c m p q g vs ts w) (hv : ∀ t ∈ ts, VT t) (hn : ts.length = m + 1) (hm : m ≤ 3) (hi : i < m + 1) (hmc : m + 1 ≤ c) :
    Calls Try.prog 51 #[.int .i64 i, .pointer (some ⟨p, 0, none⟩), .pointer (some ⟨q, 0, none⟩)] w (WoIs W0 b off c m p q g vs ts i w) := by
  obtain ⟨cur, hcl, hgb⟩ := h.block
  have hpc := h.boxp
  have hqc := h.boxq
  have hvl : vs.length = m + 1 := by rw [h.rows.1, hn]
  have HO := Lib.hid h.rows.oneCell
  have HF := Lib.hid h.far
  have HB := Lib.hid h.below
  have hpg := h.pg
  have hqg := h.qg
  have HW := Lib.hid h
  have hadd : ∀ o j, (⟨b, o, none⟩ : Addr).add j = ⟨b, o + j, none⟩ := fun o j => by unfold Addr.add; split <;> simp_all
  have HC := Lib.hid (fun (w1 : World) (hb : Below W0.heap.size W0 w1) (k : Nat) (v : Value) (hk : vs[k]? = some v) => (hb.cell (p := ⟨b, off + k, none⟩) (World.block_lt_of_cell? W0 _ (h.cells k v hk))).trans (h.cells k v hk))
  have HN1 : Hid (∀ (W : World), Below W0.heap.size W0 W → ∀ j u, (vs.take i)[j]? = some u → W.cell? ((⟨b, off, none⟩ : Addr).add j) = some u) := Lib.hid (fun W hW j u hu => by
    rw [hadd]; refine HC.out W hW j u ?_
    rw [List.getElem?_take] at hu; split at hu
    · exact hu
    · cases hu)
  have HN2 : Hid (∀ (W : World), Below W0.heap.size W0 W → ∀ j u, (vs.drop (i + 1))[j]? = some u → W.cell? ((⟨b, off + (i + 1), none⟩ : Addr).add j) = some u) := Lib.hid (fun W hW j u hu => by
    rw [hadd, Nat.add_assoc]; refine HC.out W hW _ u ?_
    rw [List.getElem?_drop] at hu
    exact hu)
  have htl : (vs.take i).length = i := by rw [List.length_take]; omega
  have hdl : (vs.drop (i + 1)).length = m + 1 - (i + 1) := by rw [List.length_drop]; omega
  have HT1 : Hid (∀ u ∈ vs.take i, u.oneCell' = true) := Lib.hid (fun u hu => HO.out u (List.mem_of_mem_take hu))
  have HT2 : Hid (∀ u ∈ vs.drop (i + 1), u.oneCell' = true) := Lib.hid (fun u hu => HO.out u (List.mem_of_mem_drop hu))
  have HSE := Lib.hid (splice_erase cur vs i m hcl hvl hi)
  have HC1 : Hid ((vs.take i).length = Nat.min i m) := Lib.hid (by rw [htl]; exact (Nat.min_eq_left (by omega)).symm)
  have hmi1 : m + 1 - (i + 1) = m - i := by omega
  have HC2 : Hid ((vs.drop (i + 1)).length = Nat.min (m - i) (m - i)) := Lib.hid (by rw [hdl, hmi1]; exact (Nat.min_self _).symm)
  have HF1 : Hid (0 + (vs.take i).length ≤ cur.length) := Lib.hid (by rw [htl, hcl]; omega)
  have HF2 : Hid (i + (vs.drop (i + 1)).length ≤ (splice cur 0 (vs.take i)).length) := Lib.hid (by rw [length_splice _ _ _ HF1.out, hdl, hcl]; omega)
  have HGB := Lib.hid hgb
  have hel : (ts.eraseIdx i).length = m := by rw [erase_len (by omega), hn]; omega
  have HEL := Lib.hid hel
  have HER := Lib.hid (h.rows.erase i)
  have HEV : Hid ((vs.eraseIdx i).length = m) := Lib.hid (by rw [(h.rows.erase i).1, hel])
  have HG1 := Lib.hid (show w.grownBy w.drew (some g) from ⟨rfl, rfl, rfl, Nat.le_refl _, fun _ _ _ => rfl⟩)
  have hev : ∀ t ∈ ts.eraseIdx i, VT t := fun t ht => hv t (mem_erase ht)
  have HJ := Lib.hid (fun (W : World) (hR : RdR W (some ⟨g, 0, none⟩) m (ts.eraseIdx i)) => joinedOf_gen (some ⟨g, 0, none⟩) m (ts.eraseIdx i) W hR (by omega) hev)
  rw [hel] at HJ
  have HT7 : Hid (T (jnAll (ts.eraseIdx i)) 7 = sv (ts.eraseIdx i) 7) := Lib.hid (jnAll_at (VTs.zeros hev) (by omega))
  obtain ⟨l, hl⟩ : ∃ l, l = jnAll (ts.eraseIdx i) := ⟨_, rfl⟩
  rw [← hl] at HJ HT7
  have hix : ∀ w : World, (Instr.index 59 (.agg #[.int .i64 (T l 0), .int .i64 (T l 1), .int .i64 (T l 2), .int .i64 (T l 3), .int .i64 (T l 4), .int .i64 (T l 5), .int .i64 (T l 6), .int .i64 (T l 7)]) (.int .i64 7)).run Try.prog w = .ok (.int .i64 (T l 7)) w := fun w => idx8 (T l) (k := 7) (by omega) w
  have q1 : (0 : Int) ≤ (i : Int) := by omega
  have q2 : (0 : Int) ≤ (i : Int) + 1 := by omega
  have q3 : (i : Int) + 1 ≤ (m : Int) + 1 := by omega
  have q4 : (i : Int) ≤ (m : Int) := by omega
  have q5 : (i : Int) ≤ (c : Int) := by omega
  have hwi : IntKind.i64.wrap ((i : Int) + 1) = (i : Int) + 1 := IntWalk.i64_in _ (by omega)
  have HLB : Hid (∀ W W' : World, Below W0.heap.size W0 W → W.grownBy W' (some g) → Below W0.heap.size W0 W') := Lib.hid (fun W W' h1 h2 => h1.grown h2 h1.size (fun k e => by cases e; exact HF.out))
  have hlp : Below W0.heap.size W0 w.drew := below_drewN' HB.out 1
  clear hmi1 h hcl hgb htl hdl hel hev hl hadd hn hv
  by_cases him : i = m
  · subst him
    have HC3 : Hid ((vs.drop (i + 1)).length = 0) := Lib.hid (by have h := HC2.out; rw [Nat.sub_self] at h; simpa using h)
    have HC4 : Hid ((vs.drop (i + 1)).length = Nat.min 0 0) := Lib.hid HC3.out
    unfold ag8 at HJ
    go_enter Try.func51, Try.ntmps51
    go_wp2_with fail
    go_region_held3 (fun W => W.cell? ⟨p, 0, none⟩ = some (.slice (some ⟨g, 0, none⟩) i i) ∧ W.cell? ⟨q, 0, none⟩ = some (.slice (some ⟨b, off, none⟩) (i + 1) c))
      (first | exact ⟨hpc, hqc⟩ | exact ⟨hpc1, hqc1⟩ | fail)
      (first
      | (refine step_copy_grown rfl _ _ rfl _ _ _ _ _ _ rfl rfl g 0 cur 24 HGB.out (vs.take i) HC1.out (fun _ => ⟨rfl, _, rfl, HN1.out _ hlp⟩) HF1.out HT1.out ?_; intro w1 hg1 gr1; have B1 := HLB.out _ _ hlp gr1; have hpc1 := grown_box gr1 hpc hpg; have hqc1 := grown_box gr1 hqc hqg)
      | fail)
    have hlp1 : Below W0.heap.size W0 w1.drew := below_drewN' B1 1
    go_wp2_with fail
    go_region_held3 (fun W => W.cell? ⟨p, 0, none⟩ = some (.slice (some ⟨g, 0, none⟩) i i) ∧ W.cell? ⟨q, 0, none⟩ = some (.slice (some ⟨b, off, none⟩) (i + 1) c))
      (first | exact ⟨hpc1, hqc1⟩ | exact ⟨hpc2, hqc2⟩ | fail)
      (first
      | (refine step_copy_grown rfl _ _ rfl _ _ _ _ _ _ rfl rfl g i _ 24 hg1.out (vs.drop (i + 1)) HC4.out (fun h => absurd h (by rw [HC3.out]; omega)) HF2.out HT2.out ?_; intro w2 hg2 gr2; have B2 := HLB.out _ _ hlp1 gr2; have hpc2 := grown_box gr2 hpc1 hpg; have hqc2 := grown_box gr2 hqc1 hqg)
      | fail)
    rw [HSE.out] at hg2
    have HR2 := Lib.hid (rdr_of_cells (c := i) hg2.out HER.out B2 (by rw [HEL.out]; exact Nat.le_refl _))
    go_wp2_with (go_at_call 52; refine (HJ.out _ HR2.out).mono ?_; rintro e w3 ⟨rfl, b3⟩)
    all_goals
      go_ret
      have hW2 : WoAt W0 b off c i p q g vs ts w2 := ⟨HW.out.rows, B2, HF.out, hpg, hqg, hpc2, hqc2, HW.out.cells, vs.eraseIdx i, HEV.out, hg2.out⟩
      have G2 : w.grownBy w2 (some g) := (HG1.out.trans gr1).trans ((show w1.grownBy w1.drew (some g) from ⟨rfl, rfl, rfl, Nat.le_refl _, fun _ _ _ => rfl⟩).trans gr2)
      first
        | exact ⟨by rw [← HT7.out]; rfl, G2.trans ⟨b3.os, b3.tape, b3.output, b3.size, fun i hi _ => b3.block i hi⟩, hW2.belowW b3⟩
        | (have hce : c = i + 1 := by assumption
           subst hce
           exact ⟨by rw [← HT7.out]; rfl, G2.trans ⟨b3.os, b3.tape, b3.output, b3.size, fun i hi _ => b3.block i hi⟩, hW2.belowW b3⟩)
  have hcn : ¬ c = i + 1 := by omega
  have hmi : ¬ m = i := fun e => him e.symm
  unfold ag8 at HJ
  go_enter Try.func51, Try.ntmps51
  go_wp2_with fail
  go_region_held3 (fun W => W.cell? ⟨p, 0, none⟩ = some (.slice (some ⟨g, 0, none⟩) m m) ∧ W.cell? ⟨q, 0, none⟩ = some (.slice (some ⟨b, off, none⟩) (m + 1) c))
    (first | exact ⟨hpc, hqc⟩ | exact ⟨hpc1, hqc1⟩ | fail)
    (first
    | (refine step_copy_grown rfl _ _ rfl _ _ _ _ _ _ rfl rfl g 0 cur 24 HGB.out (vs.take i) HC1.out (fun _ => ⟨rfl, _, rfl, HN1.out _ hlp⟩) HF1.out HT1.out ?_; intro w1 hg1 gr1; have B1 := HLB.out _ _ hlp gr1; have hpc1 := grown_box gr1 hpc hpg; have hqc1 := grown_box gr1 hqc hqg)
    | fail)
  have hlp1 : Below W0.heap.size W0 w1.drew := below_drewN' B1 1
  go_wp2_with fail
  go_region_held3 (fun W => W.cell? ⟨p, 0, none⟩ = some (.slice (some ⟨g, 0, none⟩) m m) ∧ W.cell? ⟨q, 0, none⟩ = some (.slice (some ⟨b, off, none⟩) (m + 1) c))
    (first | exact ⟨hpc1, hqc1⟩ | exact ⟨hpc2, hqc2⟩ | fail)
    (first
    | (refine step_copy_grown rfl _ _ rfl _ _ _ _ _ _ rfl rfl g i _ 24 hg1.out (vs.drop (i + 1)) HC2.out (fun _ => ⟨rfl, _, rfl, HN2.out _ hlp1⟩) HF2.out HT2.out ?_; intro w2 hg2 gr2; have B2 := HLB.out _ _ hlp1 gr2; have hpc2 := grown_box gr2 hpc1 hpg; have hqc2 := grown_box gr2 hqc1 hqg)
    | fail)
  rw [HSE.out] at hg2
  have HR2 := Lib.hid (rdr_of_cells (c := m) hg2.out HER.out B2 (by rw [HEL.out]; exact Nat.le_refl _))
  go_wp2_with (go_at_call 52; refine (HJ.out _ HR2.out).mono ?_; rintro e w3 ⟨rfl, b3⟩)
  go_ret
  have hW2 : WoAt W0 b off c m p q g vs ts w2 := ⟨HW.out.rows, B2, HF.out, hpg, hqg, hpc2, hqc2, HW.out.cells, vs.eraseIdx i, HEV.out, hg2.out⟩
  have G2 : w.grownBy w2 (some g) := (HG1.out.trans gr1).trans ((show w1.grownBy w1.drew (some g) from ⟨rfl, rfl, rfl, Nat.le_refl _, fun _ _ _ => rfl⟩).trans gr2)
  exact ⟨by rw [← HT7.out]; rfl, G2.trans ⟨b3.os, b3.tape, b3.output, b3.size, fun i hi _ => b3.block i hi⟩, hW2.belowW b3⟩

end Go.Proofs.Ytdbpjlconbifpab
