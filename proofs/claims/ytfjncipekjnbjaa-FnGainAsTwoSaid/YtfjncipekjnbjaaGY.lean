/-
  Chapter 5, the program: the contracts of worthWithout and of the function that it hands back.
-/
import Derived.Test.YtfjncipekjnbjaaGZ
import Derived.Test.YtfjncipekjnbjaaRw
import Derived.Test.YtfjncipekjnbjaaWj
import Derived.Deep.RegionHeld3
import Derived.Deep.AppendLies
import Derived.Test.YtfjncipekjnbjaaWz
import Derived.Test.YtfjncipekjnbjaaGU
namespace Go.Proofs.Ytfjncipekjnbjaa
open Go.RowKit

theorem splice_erase (cur vs : List Value) (i m : Nat) (hc : cur.length = m) (hv : vs.length = m + 1) (hi : i < m + 1) : splice (splice cur 0 (vs.take i)) i (vs.drop (i + 1)) = vs.eraseIdx i := by
  have e1 : (vs.take i).length = i := by rw [List.length_take]; omega
  have e2 : (splice cur 0 (vs.take i)).take i = vs.take i := by
    unfold splice
    rw [List.take_zero, List.nil_append, List.take_append_of_le_length (by omega), List.take_of_length_le (by omega)]
  have e3 : (splice cur 0 (vs.take i)).length = m := by rw [length_splice _ _ _ (by omega), hc]
  show (splice cur 0 (vs.take i)).take i ++ (vs.drop (i + 1) ++ (splice cur 0 (vs.take i)).drop (i + (vs.drop (i + 1)).length)) = _
  have e4 : (splice cur 0 (vs.take i)).drop (i + (vs.drop (i + 1)).length) = [] := List.drop_of_length_le (by rw [e3, List.length_drop]; omega)
  rw [e2, e4, List.append_nil, erase_cut]

theorem grown_box {w w' : World} {g p : Nat} {v : Value} (hg : w.grownBy w' (some g)) (hp : w.cell? ⟨p, 0, none⟩ = some v) (hne : p ≠ g) : w'.cell? ⟨p, 0, none⟩ = some v :=
  (hg.cell_far ⟨p, 0, none⟩ (World.block_lt_of_cell? w _ hp) (by simp; exact hne)).trans hp

/-- What is known of the tables, their rows, and the block that the others are copied to. -/
structure WoAt (W0 : World) (b off c m p q g : Nat) (vs : List Value) (ts : List (List Int)) (w : World) : Prop where
  rows : RowsV W0 vs ts
  below : Below W0.heap.size W0 w
  far : W0.heap.size ≤ g
  pg : p ≠ g
  qg : q ≠ g
  boxp : w.cell? ⟨p, 0, none⟩ = some (.slice (some ⟨g, 0, none⟩) m m)
  boxq : w.cell? ⟨q, 0, none⟩ = some (.slice (some ⟨b, off, none⟩) (m + 1) c)
  cells : ∀ (k : Nat) (v : Value), vs[k]? = some v → W0.cell? ⟨b, off + k, none⟩ = some v
  block : ∃ cur : List Value, cur.length = m ∧ w.heap[g]? = some (.cells cur.toArray 24 (0, 0))
theorem WoAt.grown {W0 w w' : World} {b off c m p q g r : Nat} {vs : List Value} {ts : List (List Int)} (h : WoAt W0 b off c m p q g vs ts w) (hg : w.grownBy w' (some r)) (hr : W0.heap.size ≤ r) (h1 : p ≠ r) (h2 : q ≠ r) (h3 : g ≠ r) : WoAt W0 b off c m p q g vs ts w' :=
  ⟨h.rows, h.below.grown hg h.below.size (fun k e => by cases e; exact hr), h.far, h.pg, h.qg, grown_box hg h.boxp h1, grown_box hg h.boxq h2, h.cells, by
    obtain ⟨cur, hc, hh⟩ := h.block
    exact ⟨cur, hc, (hg.block g (Array.getElem?_eq_some_iff.1 hh).1 (by simp; exact h3)).trans hh⟩⟩
theorem WoAt.belowW {W0 w w' : World} {b off c m p q g : Nat} {vs : List Value} {ts : List (List Int)} (h : WoAt W0 b off c m p q g vs ts w) (hb : Below w.heap.size w w') : WoAt W0 b off c m p q g vs ts w' :=
  ⟨h.rows, h.below.trans (hb.mono h.below.size), h.far, h.pg, h.qg, (hb.cell (p := ⟨p, 0, none⟩) (World.block_lt_of_cell? w _ h.boxp)).trans h.boxp, (hb.cell (p := ⟨q, 0, none⟩) (World.block_lt_of_cell? w _ h.boxq)).trans h.boxq, h.cells, by
    obtain ⟨cur, hc, hh⟩ := h.block
    exact ⟨cur, hc, (hb.block g (Array.getElem?_eq_some_iff.1 hh).1).trans hh⟩⟩


/-- What the function that is handed back tells: what all is worth to the others. -/
def WoIs (W0 : World) (b off c m p q g : Nat) (vs : List Value) (ts : List (List Int)) (i : Nat) (w : World) (e : Ending) (w' : World) : Prop :=
  e = .returned (.int .i64 (sv (ts.eraseIdx i) 7)) ∧ w.grownBy w' (some g) ∧ WoAt W0 b off c m p q g vs ts w'

set_option maxHeartbeats 2000000 in
theorem Wo_any (W0 : World) (b off c m p q g i : Nat) (vs : List Value) (ts : List (List Int)) (w : World) (h : WoAt W0 b off c m p q g vs ts w) (hv : ∀ t ∈ ts, VT t) (hn : ts.length = m + 1) (hm : m ≤ 3) (hi : i < m + 1) (hmc : m + 1 ≤ c) :
    Calls Try.prog 138 #[.int .i64 i, .pointer (some ⟨p, 0, none⟩), .pointer (some ⟨q, 0, none⟩)] w (WoIs W0 b off c m p q g vs ts i w) := by
  obtain ⟨cur, hcl, hgb⟩ := h.block
  have hpc := h.boxp
  have hqc := h.boxq
  have hvl : vs.length = m + 1 := by rw [h.rows.1, hn]
  have HO := Lib.hid h.rows.oneCell
  have HF := Lib.hid h.far
  have HB := Lib.hid h.below
  have hpg := h.pg
  have hqg := h.qg
  have HW := Lib.hid h
  have hadd : ∀ o j, (⟨b, o, none⟩ : Addr).add j = ⟨b, o + j, none⟩ := fun o j => by unfold Addr.add; split <;> simp_all
  have HC := Lib.hid (fun (w1 : World) (hb : Below W0.heap.size W0 w1) (k : Nat) (v : Value) (hk : vs[k]? = some v) => (hb.cell (p := ⟨b, off + k, none⟩) (World.block_lt_of_cell? W0 _ (h.cells k v hk))).trans (h.cells k v hk))
  have HN1 : Hid (∀ (W : World), Below W0.heap.size W0 W → ∀ j u, (vs.take i)[j]? = some u → W.cell? ((⟨b, off, none⟩ : Addr).add j) = some u) := Lib.hid (fun W hW j u hu => by
    rw [hadd]; refine HC.out W hW j u ?_
    rw [List.getElem?_take] at hu; split at hu
    · exact hu
    · cases hu)
  have HN2 : Hid (∀ (W : World), Below W0.heap.size W0 W → ∀ j u, (vs.drop (i + 1))[j]? = some u → W.cell? ((⟨b, off + (i + 1), none⟩ : Addr).add j) = some u) := Lib.hid (fun W hW j u hu => by
    rw [hadd, Nat.add_assoc]; refine HC.out W hW _ u ?_
    rw [List.getElem?_drop] at hu
    exact hu)
  have htl : (vs.take i).length = i := by rw [List.length_take]; omega
  have hdl : (vs.drop (i + 1)).length = m + 1 - (i + 1) := by rw [List.length_drop]; omega
  have HT1 : Hid (∀ u ∈ vs.take i, u.oneCell' = true) := Lib.hid (fun u hu => HO.out u (List.mem_of_mem_take hu))
  have HT2 : Hid (∀ u ∈ vs.drop (i + 1), u.oneCell' = true) := Lib.hid (fun u hu => HO.out u (List.mem_of_mem_drop hu))
  have HSE := Lib.hid (splice_erase cur vs i m hcl hvl hi)
  have HC1 : Hid ((vs.take i).length = Nat.min i m) := Lib.hid (by rw [htl]; exact (Nat.min_eq_left (by omega)).symm)
  have hmi1 : m + 1 - (i + 1) = m - i := by omega
  have HC2 : Hid ((vs.drop (i + 1)).length = Nat.min (m - i) (m - i)) := Lib.hid (by rw [hdl, hmi1]; exact (Nat.min_self _).symm)
  have HF1 : Hid (0 + (vs.take i).length ≤ cur.length) := Lib.hid (by rw [htl, hcl]; omega)
  have HF2 : Hid (i + (vs.drop (i + 1)).length ≤ (splice cur 0 (vs.take i)).length) := Lib.hid (by rw [length_splice _ _ _ HF1.out, hdl, hcl]; omega)
  have HGB := Lib.hid hgb
  have hel : (ts.eraseIdx i).length = m := by rw [erase_len (by omega), hn]; omega
  have HEL := Lib.hid hel
  have HER := Lib.hid (h.rows.erase i)
  have HEV : Hid ((vs.eraseIdx i).length = m) := Lib.hid (by rw [(h.rows.erase i).1, hel])
  have HG1 := Lib.hid (show w.grownBy w.drew (some g) from ⟨rfl, rfl, rfl, Nat.le_refl _, fun _ _ _ => rfl⟩)
  have hev : ∀ t ∈ ts.eraseIdx i, VT t := fun t ht => hv t (mem_erase ht)
  have HJ := Lib.hid (fun (W : World) (hR : RdR W (some ⟨g, 0, none⟩) m (ts.eraseIdx i)) => joinedOf_gen (some ⟨g, 0, none⟩) m (ts.eraseIdx i) W hR (by omega) hev)
  rw [hel] at HJ
  have HT7 : Hid (T (jnAll (ts.eraseIdx i)) 7 = sv (ts.eraseIdx i) 7) := Lib.hid (jnAll_at (VTs.zeros hev) (by omega))
  obtain ⟨l, hl⟩ : ∃ l, l = jnAll (ts.eraseIdx i) := ⟨_, rfl⟩
  rw [← hl] at HJ HT7
  have hix : ∀ w : World, (Instr.index 65 (.agg #[.int .i64 (T l 0), .int .i64 (T l 1), .int .i64 (T l 2), .int .i64 (T l 3), .int .i64 (T l 4), .int .i64 (T l 5), .int .i64 (T l 6), .int .i64 (T l 7)]) (.int .i64 7)).run Try.prog w = .ok (.int .i64 (T l 7)) w := fun w => idx8 (T l) (k := 7) (by omega) w
  have q1 : (0 : Int) ≤ (i : Int) := by omega
  have q2 : (0 : Int) ≤ (i : Int) + 1 := by omega
  have q3 : (i : Int) + 1 ≤ (m : Int) + 1 := by omega
  have q4 : (i : Int) ≤ (m : Int) := by omega
  have q5 : (i : Int) ≤ (c : Int) := by omega
  have hwi : IntKind.i64.wrap ((i : Int) + 1) = (i : Int) + 1 := IntWalk.i64_in _ (by omega)
  have HLB : Hid (∀ W W' : World, Below W0.heap.size W0 W → W.grownBy W' (some g) → Below W0.heap.size W0 W') := Lib.hid (fun W W' h1 h2 => h1.grown h2 h1.size (fun k e => by cases e; exact HF.out))
  have hlp : Below W0.heap.size W0 w.drew := below_drewN' HB.out 1
  clear hmi1 h hcl hgb htl hdl hel hev hl hadd hn hv
  by_cases him : i = m
  · subst him
    have HC3 : Hid ((vs.drop (i + 1)).length = 0) := Lib.hid (by have h := HC2.out; rw [Nat.sub_self] at h; simpa using h)
    have HC4 : Hid ((vs.drop (i + 1)).length = Nat.min 0 0) := Lib.hid HC3.out
    unfold ag8 at HJ
    go_enter Try.func138, Try.ntmps138
    go_wp2_with fail
    go_region_held3 (fun W => W.cell? ⟨p, 0, none⟩ = some (.slice (some ⟨g, 0, none⟩) i i) ∧ W.cell? ⟨q, 0, none⟩ = some (.slice (some ⟨b, off, none⟩) (i + 1) c))
      (first | exact ⟨hpc, hqc⟩ | exact ⟨hpc1, hqc1⟩ | fail)
      (first
      | (refine step_copy_grown rfl _ _ rfl _ _ _ _ _ _ rfl rfl g 0 cur 24 HGB.out (vs.take i) HC1.out (fun _ => ⟨rfl, _, rfl, HN1.out _ hlp⟩) HF1.out HT1.out ?_; intro w1 hg1 gr1; have B1 := HLB.out _ _ hlp gr1; have hpc1 := grown_box gr1 hpc hpg; have hqc1 := grown_box gr1 hqc hqg)
      | fail)
    have hlp1 : Below W0.heap.size W0 w1.drew := below_drewN' B1 1
    go_wp2_with fail
    go_region_held3 (fun W => W.cell? ⟨p, 0, none⟩ = some (.slice (some ⟨g, 0, none⟩) i i) ∧ W.cell? ⟨q, 0, none⟩ = some (.slice (some ⟨b, off, none⟩) (i + 1) c))
      (first | exact ⟨hpc1, hqc1⟩ | exact ⟨hpc2, hqc2⟩ | fail)
      (first
      | (refine step_copy_grown rfl _ _ rfl _ _ _ _ _ _ rfl rfl g i _ 24 hg1.out (vs.drop (i + 1)) HC4.out (fun h => absurd h (by rw [HC3.out]; omega)) HF2.out HT2.out ?_; intro w2 hg2 gr2; have B2 := HLB.out _ _ hlp1 gr2; have hpc2 := grown_box gr2 hpc1 hpg; have hqc2 := grown_box gr2 hqc1 hqg)
      | fail)
    rw [HSE.out] at hg2
    have HR2 := Lib.hid (rdr_of_cells (c := i) hg2.out HER.out B2 (by rw [HEL.out]; exact Nat.le_refl _))
    go_wp2_with (go_at_call 110; refine (HJ.out _ HR2.out).mono ?_; rintro e w3 ⟨rfl, b3⟩)
    all_goals
      go_ret
      have hW2 : WoAt W0 b off c i p q g vs ts w2 := ⟨HW.out.rows, B2, HF.out, hpg, hqg, hpc2, hqc2, HW.out.cells, vs.eraseIdx i, HEV.out, hg2.out⟩
      have G2 : w.grownBy w2 (some g) := (HG1.out.trans gr1).trans ((show w1.grownBy w1.drew (some g) from ⟨rfl, rfl, rfl, Nat.le_refl _, fun _ _ _ => rfl⟩).trans gr2)
      first
        | exact ⟨by rw [← HT7.out]; rfl, G2.trans ⟨b3.os, b3.tape, b3.output, b3.size, fun i hi _ => b3.block i hi⟩, hW2.belowW b3⟩
        | (have hce : c = i + 1 := by assumption
           subst hce
           exact ⟨by rw [← HT7.out]; rfl, G2.trans ⟨b3.os, b3.tape, b3.output, b3.size, fun i hi _ => b3.block i hi⟩, hW2.belowW b3⟩)
  have hcn : ¬ c = i + 1 := by omega
  have hmi : ¬ m = i := fun e => him e.symm
  unfold ag8 at HJ
  go_enter Try.func138, Try.ntmps138
  go_wp2_with fail
  go_region_held3 (fun W => W.cell? ⟨p, 0, none⟩ = some (.slice (some ⟨g, 0, none⟩) m m) ∧ W.cell? ⟨q, 0, none⟩ = some (.slice (some ⟨b, off, none⟩) (m + 1) c))
    (first | exact ⟨hpc, hqc⟩ | exact ⟨hpc1, hqc1⟩ | fail)
    (first
    | (refine step_copy_grown rfl _ _ rfl _ _ _ _ _ _ rfl rfl g 0 cur 24 HGB.out (vs.take i) HC1.out (fun _ => ⟨rfl, _, rfl, HN1.out _ hlp⟩) HF1.out HT1.out ?_; intro w1 hg1 gr1; have B1 := HLB.out _ _ hlp gr1; have hpc1 := grown_box gr1 hpc hpg; have hqc1 := grown_box gr1 hqc hqg)
    | fail)
  have hlp1 : Below W0.heap.size W0 w1.drew := below_drewN' B1 1
  go_wp2_with fail
  go_region_held3 (fun W => W.cell? ⟨p, 0, none⟩ = some (.slice (some ⟨g, 0, none⟩) m m) ∧ W.cell? ⟨q, 0, none⟩ = some (.slice (some ⟨b, off, none⟩) (m + 1) c))
    (first | exact ⟨hpc1, hqc1⟩ | exact ⟨hpc2, hqc2⟩ | fail)
    (first
    | (refine step_copy_grown rfl _ _ rfl _ _ _ _ _ _ rfl rfl g i _ 24 hg1.out (vs.drop (i + 1)) HC2.out (fun _ => ⟨rfl, _, rfl, HN2.out _ hlp1⟩) HF2.out HT2.out ?_; intro w2 hg2 gr2; have B2 := HLB.out _ _ hlp1 gr2; have hpc2 := grown_box gr2 hpc1 hpg; have hqc2 := grown_box gr2 hqc1 hqg)
    | fail)
  rw [HSE.out] at hg2
  have HR2 := Lib.hid (rdr_of_cells (c := m) hg2.out HER.out B2 (by rw [HEL.out]; exact Nat.le_refl _))
  go_wp2_with (go_at_call 110; refine (HJ.out _ HR2.out).mono ?_; rintro e w3 ⟨rfl, b3⟩)
  go_ret
  have hW2 : WoAt W0 b off c m p q g vs ts w2 := ⟨HW.out.rows, B2, HF.out, hpg, hqg, hpc2, hqc2, HW.out.cells, vs.eraseIdx i, HEV.out, hg2.out⟩
  have G2 : w.grownBy w2 (some g) := (HG1.out.trans gr1).trans ((show w1.grownBy w1.drew (some g) from ⟨rfl, rfl, rfl, Nat.le_refl _, fun _ _ _ => rfl⟩).trans gr2)
  exact ⟨by rw [← HT7.out]; rfl, G2.trans ⟨b3.os, b3.tape, b3.output, b3.size, fun i hi _ => b3.block i hi⟩, hW2.belowW b3⟩

end Go.Proofs.Ytfjncipekjnbjaa

/-
  Chapter 5, the program: the contracts of worthWithout, PivotPays, AddsOf.
-/
namespace Go.Proofs.Ytfjncipekjnbjaa
open Go.RowKit

theorem own_block_at {w : World} {B g n : Nat} {vs : List Value} (h : w.ownsRow B 24 1 (.slice (some ⟨g, 0, none⟩) n n) n vs) : ∃ cur : List Value, cur.length = n ∧ w.heap[g]? = some (.cells cur.toArray 24 (0, 0)) := by
  rcases h.2 with ⟨h0, _⟩ | ⟨g', cap, cur, hv, _, hh, _, _, hs, _⟩
  · cases h0
  · injection hv with hA _ hc
    injection hA with hA
    injection hA with hA
    subst hA hc
    exact ⟨cur.toList, by simp; omega, by simpa using hh⟩

/-- What worthWithout hands back. -/
def WwIs (W0 w : World) (b off c m : Nat) (vs : List Value) (ts : List (List Int)) (e : Ending) (w' : World) : Prop :=
  ∃ p q g, e = .returned (.func (.func 138) #[] #[.pointer (some ⟨p, 0, none⟩), .pointer (some ⟨q, 0, none⟩)]) ∧ WoAt W0 b off c m p q g vs ts w' ∧ Below w.heap.size w w' ∧
    (w.heap.size ≤ p ∧ w.heap.size ≤ q ∧ w.heap.size ≤ g) ∧ p < w'.heap.size ∧ q < w'.heap.size ∧ g < w'.heap.size

set_option maxHeartbeats 400000 in
theorem worthWithout_any (W0 : World) (b off c m : Nat) (vs : List Value) (ts : List (List Int)) (w : World) (hm : m ≤ 3) (hv : RowsV W0 vs ts) (hc : ∀ (k : Nat) (v : Value), vs[k]? = some v → W0.cell? ⟨b, off + k, none⟩ = some v) (hb0 : Below W0.heap.size W0 w) :
    Calls Try.prog 114 #[.slice (some ⟨b, off, none⟩) (m + 1) c] w (WwIs W0 w b off c m vs ts) := by
  have e1 : IntKind.i64.wrap ((m : Int) + 1 - 1) = (m : Int) := by rw [show (m : Int) + 1 - 1 = (m : Int) by omega]; exact IntWalk.i64_in _ (by omega)
  have HV := Lib.hid hv
  have HC := Lib.hid hc
  have HB0 := Lib.hid hb0
  clear hv hc hb0
  go_enter Try.func114, Try.ntmps114
  go_wp2_with (at_make; refine wpList_make_rows rfl _ _ rfl (w.heap.size + 1) m rfl rfl (by omega) (by simp) ?_; intro w1 ho hb)
  go_ret
  have hs1 : (w.alloc (.cells #[.slice (some ⟨b, off, none⟩) (m + 1) c] 23)).heap.size = w.heap.size + 1 := by simp
  rw [hs1] at ho
  have hg := World.ownsRow.lt ho (w.heap.size + 1) rfl
  have hal := (Below.refl w1.heap.size w1).alloc (Nat.le_refl _) (.cells #[.slice (some ⟨w.heap.size + 1, 0, none⟩) m m] 23)
  have hB1 : Below w.heap.size w w1 := ((Below.refl w.heap.size w).alloc (Nat.le_refl _) (.cells #[.slice (some ⟨b, off, none⟩) (m + 1) c] 23)).trans (hb.mono (by omega))
  have hB2 := hB1.trans (hal.mono hB1.size)
  obtain ⟨cur, hcl, hcc⟩ := own_block_at ho
  have hw0 := HB0.out.size
  have hq1 : w1.cell? ⟨w.heap.size, 0, none⟩ = some (.slice (some ⟨b, off, none⟩) (m + 1) c) := (hb.cell (p := ⟨w.heap.size, 0, none⟩) (by show w.heap.size < w.heap.size + 1; omega)).trans (by simp)
  have hsz : (w1.alloc (.cells #[.slice (some ⟨w.heap.size + 1, 0, none⟩) m m] 23)).heap.size = w1.heap.size + 1 := by simp
  refine ⟨w1.heap.size, w.heap.size, w.heap.size + 1, rfl, ⟨HV.out, HB0.out.trans (hB2.mono hw0), by omega, by omega, by omega, by simp, ?_, HC.out, cur, hcl, ?_⟩, hB2, ⟨by omega, by omega, by omega⟩, by omega, by omega, by omega⟩
  · exact (hal.cell (p := ⟨w.heap.size, 0, none⟩) (World.block_lt_of_cell? w1 _ hq1)).trans hq1
  · exact (hal.block (w.heap.size + 1) (by omega)).trans hcc

set_option maxHeartbeats 2000000 in
theorem PivotPays_yes (A : Option Addr) (c n : Nat) (ts : List (List Int)) (w : World) (hn : ts.length = n) (hR : RdR w A c ts) (hl2 : ∀ r ∈ ts, r.length ≤ 1099511627776) (hv : VTs ts) :
    Calls Try.prog 56 #[.slice A n c] w (ValsIs w (pvF ts) n) := by
  have h1l : 1 ≤ n := by rw [← hn]; exact hv.1.1
  have h4 : n ≤ 4 := by rw [← hn]; exact hv.1.2
  have HCT := Lib.hid (areTables_any A c ts w hR hl2)
  rw [vtsB_true hv, hn] at HCT
  have HBS := Lib.hid (fun (W : World) (hW : Below w.heap.size w W) => BestSplit_yes A c n ts W hn (hR.below hW) hl2 hv)
  obtain ⟨b, off, rfl, hcapR, _⟩ := hR.open_ (by rw [hn]; exact h1l)
  obtain ⟨vs, hvs, hcell⟩ := hR.vals
  obtain ⟨m, rfl⟩ : ∃ m, n = m + 1 := ⟨n - 1, by omega⟩
  have hcm : m + 1 ≤ c := by rw [← hn]; exact hR.1
  have HWW := Lib.hid (fun (W : World) (hW : Below w.heap.size w W) => worthWithout_any w b off c m vs ts W (by omega) hvs hcell hW)
  have HWO := Lib.hid (fun (W : World) (i p q g : Nat) (h : WoAt w b off c m p q g vs ts W) (hi : i < m + 1) => Wo_any w b off c m p q g i vs ts W h hv.2 hn (by omega) hi hcm)
  have HV := Lib.hid hv
  have HN := Lib.hid hn
  clear hv hn hl2 hvs hcell
  go_enter Try.func56, Try.ntmps56
  go_wp2_with fail
  refine HCT.out.mono ?_
  rintro e w1 ⟨rfl, b1⟩
  go_wp2_with fail
  refine (HBS.out w1 b1).mono ?_
  rintro e w2 ⟨A2, c2, xs, M, rfl, o2, b2, ⟨_, hxs, hM⟩ | ⟨hno, _⟩⟩
  · have hxl : xs.length = m + 1 := by rw [hxs, setsF_len', HN.out]
    rw [hxl]
    obtain ⟨g2, rfl⟩ := own_some o2 (by omega)
    have HM0 := Lib.hid hM
    have HX0 := Lib.hid hxs
    clear hM hxs
    have B2 := b1.trans (b2.mono b1.size)
    go_wp2_with fail
    refine (HWW.out w2 B2).mono ?_
    rintro e w3 ⟨p, q, g, rfl, hwo, b3, ⟨hp0, hq0, hg0⟩, hp1, hq1, hg1⟩
    have B3 := B2.trans (b3.mono B2.size)
    have o3 := o2.below b3
    go_wp2_with (at_make; refine wpList_make_ints rfl _ _ rfl w3.heap.size (m + 1) rfl rfl (by omega) (by simp) ?_; intro w4 o4 b4)
    have B4 := B3.trans (b4.mono B3.size)
    have hM := HM0.out
    have hxs := HX0.out
    obtain ⟨f, hf⟩ : ∃ f, f = pvF ts := ⟨_, rfl⟩
    have HF := Lib.hid hf
    rw [← hf]
    obtain ⟨os, hos⟩ : ∃ os, os = wayF ts := ⟨_, rfl⟩
    rw [← hos] at hxs hM
    have HOS := Lib.hid hos
    rw [HN.out] at hxs
    have hMb := worthF_bd HV.out.2 os
    rw [← hM, HN.out] at hMb
    have hM0 := hMb.1
    have hM1 : M ≤ 120 := by omega
    have HM := Lib.hid hM
    have HO4 : Hid (Own w4 w3.heap.size (some ⟨w3.heap.size, 0, none⟩) (m + 1) (filled (vls f (m + 1)) 0)) := Lib.hid (by rw [filled_zero, vls_len]; exact o4)
    have hws : w.heap.size ≤ w3.heap.size := B3.size
    have HS4 : Hid (Own w4 w.heap.size (some ⟨g2, 0, none⟩) c2 (setsF os (m + 1))) := Lib.hid (by rw [← hxs]; exact (o3.below b4).base b1.size)
    have HW4 := Lib.hid (hwo.belowW b4)
    obtain ⟨g4, hg4⟩ : ∃ g4, g4 = w3.heap.size := ⟨_, rfl⟩
    have hg24 : g2 < g4 := by rw [hg4]; exact o3.lt
    have hg2g : g2 < g := by have h1 := o2.lt; omega
    rw [← hg4] at HO4 hws hp1 hq1 hg1 ⊢
    clear hf hos hxs hM hMb o2 o3 o4 hwo b1 b2 b3 b4 B2 B3 hg4 HWW HBS HCT
    go_loopw [24] (fun i wr => ∃ j : Nat, j ≤ m + 1 ∧ i = .int .i64 j ∧ Hid (Own wr g4 (some ⟨g4, 0, none⟩) (m + 1) (filled (vls f (m + 1)) j)) ∧ Hid (Own wr w.heap.size (some ⟨g2, 0, none⟩) c2 (setsF os (m + 1))) ∧ Hid (WoAt w b off c m p q g vs ts wr)) (fun i _ => m + 1 - (intOf i).toNat)
    case atStart => exact ⟨0, Nat.zero_le _, rfl, HO4, HS4, HW4⟩
    case round =>
      obtain ⟨j, hj, rfl, HO, HS, HW⟩ := hrel
      by_cases hlt : j < m + 1
      · obtain ⟨b', off', r, A', c', hA, hr, hc0, hcap, hrd⟩ := hR.at_ (k := j) (by rw [HN.out]; exact hlt)
        cases hA
        have hvt := HV.out.2 r (List.mem_of_getElem? hr.out)
        obtain ⟨br, ofr, rfl⟩ := hrd.out.some_ hvt.1
        rw [hvt.1] at hc0
        obtain ⟨s, hs⟩ : ∃ s, s = setOf os j := ⟨_, rfl⟩
        have hs8 : s < 8 := by rw [hs]; exact setOf_lt os j
        obtain ⟨b3, o3, x, hA, hblx, hx, hcx0⟩ := hrd.out.at_ (k := s) (by rw [hvt.1]; exact hs8)
        cases hA
        have hxe := T_of hx.out
        have hxb := hvt.bd hs8
        rw [hxe] at hxb
        have hx0 := hxb.1
        have hx1 := hxb.2
        have hcs := HS.out.cell (show (setsF os (m + 1))[j]? = some (s : Int) by rw [setsF_at os hlt, hs])
        have HBL := Lib.hid (World.block_lt_of_cell? w _ hc0)
        have HBX := Lib.hid hblx
        have HK := Lib.hid (fun (W : World) (hW : Below w.heap.size w W) =>
          (⟨(hW.cell (p := ⟨b, off + j, none⟩) HBL.out).trans hc0, (hW.cell (p := ⟨br, ofr + s, none⟩) HBX.out).trans hcx0⟩ : W.cell? ⟨b, off + j, none⟩ = some (.slice (some ⟨br, ofr, none⟩) 8 c') ∧ W.cell? ⟨br, ofr + s, none⟩ = some (.int .i64 x)))
        have hel : (ts.eraseIdx j).length = m := by rw [erase_len (by rw [HN.out]; exact hlt), HN.out]; omega
        have hev : ∀ t ∈ ts.eraseIdx j, VT t := fun t ht => HV.out.2 t (mem_erase ht)
        have hsv0 := sv_nonneg (ts.eraseIdx j) 7
        have hsv1 := sv_bd hev 7 (by omega)
        rw [hel] at hsv1
        have hwd : WoAt w b off c m p q g vs ts wr.drew := HW.out.belowW (below_drewN' (Below.refl _ _) 1)
        have HC := Lib.hid (HWO.out wr.drew j p q g hwd hlt)
        have hK0 := HK.out wr.drew hwd.below
        unfold WoIs at HC
        obtain ⟨U, hU⟩ : ∃ U, U = sv (ts.eraseIdx j) 7 := ⟨_, rfl⟩
        rw [← hU] at hsv0 hsv1 HC
        have hU1 : U ≤ 90 := by omega
        have HFE : Hid (U - (M - x) = f j) := Lib.hid (by
          rw [HF.out]; unfold pvF; rw [← HOS.out, hU, HM.out, ← hs, getD_row hr.out, hxe])
        have e1 : IntKind.i64.wrap (M - x) = M - x := IntWalk.i64_in _ (by omega)
        have e2 : IntKind.i64.wrap (U - (M - x)) = U - (M - x) := IntWalk.i64_in _ (by omega)
        have hs0 : (0 : Int) ≤ (s : Int) := by omega
        have hs7 : (s : Int) < 8 := by omega
        have hjl : j < (filled (vls f (m + 1)) j).length := by rw [filled_len _ _ (by rw [vls_len]; exact hj), vls_len]; exact hlt
        obtain ⟨y, hy⟩ := at_some hjl
        have HY := Lib.hid hy
        have HKP := Lib.hid (fun (W W' : World) (zs : List Int) (g' : Nat) (B c' : Nat) (h : Own W B (some ⟨g', 0, none⟩) c' zs) (hg : W.grownBy W' (some g)) (hne : g' ≠ g) => (h.kept_ (A2 := some ⟨g, 0, none⟩) hg (.inr (fun e => hne (by have := Option.some.inj e; exact this))) : Own W' B (some ⟨g', 0, none⟩) c' zs))
        have HDD : Hid (Own wr.drew g4 (some ⟨g4, 0, none⟩) (m + 1) (filled (vls f (m + 1)) j)) := Lib.hid (HO.out.drewN 1)
        have HDS : Hid (Own wr.drew w.heap.size (some ⟨g2, 0, none⟩) c2 (setsF os (m + 1))) := Lib.hid (HS.out.drewN 1)
        have hne1 : g4 ≠ g := by omega
        have hne2 : g2 ≠ g := by omega
        clear hs hvt hxe hxb hx hrd hc0 hcx0 hev hU hsv1 hr hel hblx hjl hy hwd
        go_wp2_with fail
        go_region_held3 (fun W => W.cell? ⟨b, off + j, none⟩ = some (.slice (some ⟨br, ofr, none⟩) 8 c') ∧ W.cell? ⟨br, ofr + s, none⟩ = some (.int .i64 x))
          (first | exact hK0 | exact hK5 | exact hK6 | fail)
          (first
          | (go_at_call 138; refine HC.out.mono ?_; rintro e w5 ⟨rfl, gr5, hw5⟩; have HW5 := Lib.hid hw5; have hK5 := HK.out w5 hw5.below; have HO5 := Lib.hid (HKP.out _ _ _ _ _ _ HDD.out gr5 hne1); have HS5 := Lib.hid (HKP.out _ _ _ _ _ _ HDS.out gr5 hne2); have hc5 := HO5.out.cell HY.out; have hf5 := HO5.out.free j; have HST := Lib.hid (HO5.out.set_ j (U - (M - x))); have hK6 := HK.out _ (hw5.below.setCell (p := ⟨g4, j, none⟩) hws (.int .i64 (U - (M - x)))))
          | fail)
        have hst : w5.grownBy (w5.setCell ⟨g4, j, none⟩ (.int .i64 (U - (M - x)))) (some g4) := (World.ownsRow.stored HO5.out j (.int .i64 (U - (M - x)))).2
        have HP6 : Hid (Own (w5.setCell ⟨g4, j, none⟩ (.int .i64 (U - (M - x)))) g4 (some ⟨g4, 0, none⟩) (m + 1) (filled (vls f (m + 1)) (j + 1))) := Lib.hid (by
          have h := HST.out
          rw [HFE.out, filled_set _ _ _ (vls_at hlt)] at h
          rw [HFE.out]; exact h)
        have HS6 : Hid (Own (w5.setCell ⟨g4, j, none⟩ (.int .i64 (U - (M - x)))) w.heap.size (some ⟨g2, 0, none⟩) c2 (setsF os (m + 1))) := Lib.hid (HS5.out.kept_ (A2 := some ⟨g4, 0, none⟩) hst (.inr (fun e => by have := Option.some.inj e; simp at this; omega)))
        have HW6 := Lib.hid (HW5.out.grown hst hws (by omega) (by omega) (by omega))
        clear hst
        go_wp2
        go_roundw
        case rel => exact ⟨j + 1, by omega, by go_num, HP6, HS6, HW6⟩
        case measure => simp [intOf]; omega
      · obtain rfl : j = m + 1 := by omega
        have HE : Hid (Own wr w.heap.size (some ⟨g4, 0, none⟩) (m + 1) (vls f (m + 1))) := Lib.hid (by
          have h1 := filled_all (vls f (m + 1))
          rw [vls_len] at h1
          have h2 := HO.out
          rw [h1] at h2
          exact h2.base hws)
        go_wp2
        go_ret
        exact ⟨g4, _, rfl, by rw [← HF.out]; exact HE.out, HW.out.below⟩
  · exact absurd HV.out hno

end Go.Proofs.Ytfjncipekjnbjaa

/-
  Chapter 5: the program's AddsOf; both sides of PivotPays and AddsOf.
-/
namespace Go.Proofs.Ytfjncipekjnbjaa
open Go.RowKit

theorem PivotPays_any (A : Option Addr) (c : Nat) (ts : List (List Int)) (w : World) (h : RdR w A c ts) (hl2 : ∀ r ∈ ts, r.length ≤ 1099511627776) :
    Calls Try.prog 56 #[.slice A ts.length c] w (LsIs w (piF ts)) := by
  by_cases hv : VTs ts
  · rw [show piF ts = vls (pvF ts) ts.length from if_pos hv]
    exact (PivotPays_yes A c ts.length ts w rfl h hl2 hv).mono fun _ _ h => h.ls
  · have HC := Lib.hid (areTables_any A c ts w h hl2)
    rw [vtsB_false hv] at HC
    rw [show piF ts = [] from if_neg hv]
    clear hv hl2 h
    go_enter Try.func56, Try.ntmps56
    go_wp2_with (go_at_call 97; refine HC.out.mono ?_; rintro e w1 ⟨rfl, b1⟩)
    go_ret
    exact ⟨none, 0, rfl, own_none _ _, b1⟩

end Go.Proofs.Ytfjncipekjnbjaa
