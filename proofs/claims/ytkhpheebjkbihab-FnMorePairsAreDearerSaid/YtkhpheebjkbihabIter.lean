/-
  Chapter 1, the program: the contract of allBids, an iterator over all bids.
-/
import Derived.Test.YtkhpheebjkbihabRange
import Derived.Deep.AppendLies
import Derived.Test.YtkhpheebjkbihabNc
import Derived.Test.YtkhpheebjkbihabNd
namespace Go.Proofs.Ytkhpheebjkbihab
open Go.RowKit Go.Shelf
attribute [local go_sem] Oper.semAt_some

theorem wpListIn_make_ints {F : Fence} {m : Nat} {ops : Array Oper} {rest : List Oper} {o : Oper} {a : Act} {w : World} {Q : Exit → Act → World → Prop} (hg : o.guard = none) (l c : Operand)
    (hop : o.op = Op.makeSlice 27 l c) (base n : Nat) (hl : a.eval l = .int .i64 (n : Int)) (hc : a.eval c = .int .i64 (n : Int)) (hn : n ≤ 1099511627776) (hb : base ≤ w.heap.size)
    (hK : ∀ w', Own w' base (some ⟨w.heap.size, 0, none⟩) n (List.replicate n 0) → w.grownBy w' none → wpListIn F m Try.prog ops Q rest (a.put o.dst (.slice (some ⟨w.heap.size, 0, none⟩) n n)) w') :
    wpListIn F m Try.prog ops Q (o :: rest) a w := by
  obtain ⟨i0, hi, hz0, hz1, hz2⟩ := info_parts int_info
  refine wpListIn_plain hg fun K hK' => ?_
  obtain ⟨w', hrun, r1, r2⟩ := run_make_full (P := Try.prog) w base 27 3 i0 (.int .i64 0) 1 Try.underlying27 hi hz0 hz1 .i64 .i64 n (by rw [hz2]; omega) (by unfold maxLen; omega) hb
  have ho : Own w' base (some ⟨w.heap.size, 0, none⟩) n (List.replicate n 0) := by
    unfold Own
    simpa [toList_madeCells_one, Value.cells] using r1
  unfold Oper.wpIn
  refine ⟨by simp [Oper.about, hop], ?_⟩
  rw [Oper.semAt_plain F _ _ (by rw [hop]; intro c hc'; cases hc')]
  simp [execOp, hop, hl, hc, hrun, Result.andThen]
  exact hK' _ _ (hK w' ho r2)

theorem Own.same {w w' : World} {B g c : Nat} {zs : List Int} (h : Own w B (some ⟨g, 0, none⟩) c zs) (he : w'.heap[g]? = w.heap[g]?) : Own w' B (some ⟨g, 0, none⟩) c zs := by
  refine ⟨h.1, ?_⟩
  rcases h.2 with h2 | ⟨g', cap, cur, hv, hg, hh, r⟩
  · exact .inl h2
  · have hv' := hv
    injection hv' with hA _ _
    injection hA with hA
    injection hA with hA
    subst hA
    exact .inr ⟨g, cap, cur, hv, hg, he.trans hh, r⟩
theorem cell_same {w w' : World} {b : Nat} {v : Value} (h : w.cell? ⟨b, 0, none⟩ = some v) (he : w'.heap[b]? = w.heap[b]?) : w'.cell? ⟨b, 0, none⟩ = some v := by
  rw [← h]; unfold World.cell?; rw [he]
theorem grown_of_below {w w' : World} (h : Below w.heap.size w w') (r : Option Nat) : w.grownBy w' r := ⟨h.os, h.tape, h.output, h.size, fun i hi _ => h.block i hi⟩

theorem Clone_n {n : Nat} (b off c : Nat) (xs : List Int) (w : World) (hn : xs.length = n) (h : Rd w (some ⟨b, off, none⟩) c xs) (hl : n ≤ 1099511627776) :
    Calls Try.prog 164 #[.slice (some ⟨b, off, none⟩) n c] w (OutIs w xs) := by
  subst hn; exact Clone_any b off c xs w h hl
theorem nextBids_n {n : Nat} (B g c : Nat) (xs : List Int) (top : Int) (w : World) (hn : xs.length = n) (h : Own w B (some ⟨g, 0, none⟩) c xs) (hl : n ≤ 1048576) (ht0 : 0 ≤ top) (ht1 : top ≤ 1048576) (hb : ∀ x ∈ xs, 0 ≤ x ∧ x ≤ top) :
    Calls Try.prog 165 #[.slice (some ⟨g, 0, none⟩) n c, .int .i64 top] w (NextIn w B g c xs top) := by
  subst hn; exact nextBids_any B g c xs top w h hl ht0 ht1 hb
theorem roundsLeft_n {w : World} {B g c n : Nat} {zs : List Int} {top : Int} (hn : zs.length = n) (h : Own w B (some ⟨g, 0, none⟩) c zs) (h1 : 1 ≤ n) : roundsLeft top w (.slice (some ⟨g, 0, none⟩) n c) = leftF zs top + 1 := by
  subst hn; exact roundsLeft_own h h1

set_option maxRecDepth 100000 in
set_option maxHeartbeats 2000000 in
theorem allBids1_iter (top n bn bt : Nat) (w0 : World) (hn1 : 1 ≤ n) (hn : n ≤ 3) (ht : top ≤ 5) (hcn : w0.cell? ⟨bn, 0, none⟩ = some (.int .i64 n)) (hct : w0.cell? ⟨bt, 0, none⟩ = some (.int .i64 top)) :
    IterB Try.prog 163 #[.pointer (some ⟨bn, 0, none⟩), .pointer (some ⟨bt, 0, none⟩)] top n bt w0 := by
  intro l J Jx W hW hJ hJx hY h0
  have hbt0 := World.block_lt_of_cell? w0 _ hct
  have cn := (hW.cell (p := ⟨bn, 0, none⟩) (World.block_lt_of_cell? w0 _ hcn)).trans hcn
  have ct := (hW.cell (p := ⟨bt, 0, none⟩) hbt0).trans hct
  have hbt1 : bt < W.heap.size := Nat.lt_of_lt_of_le hbt0 hW.size
  clear hcn hct hbt0
  have hY' := Lib.hid hY
  have hJ' := Lib.hid hJ
  have hJx' := Lib.hid hJx
  clear hY hJ hJx hW
  refine callsIn_of_wp Try.func163 rfl trivial ?_ rfl
  simp only [Try.ntmps163, List.size_toArray, List.length_cons, List.length_nil, Nat.reduceAdd, Nat.reduceSub, Array.replicate_succ, Array.replicate_zero, List.push_toArray, List.append_toArray, List.nil_append, List.cons_append]
  gi_wp2_with (gi_at_make; refine wpListIn_make_ints rfl _ _ rfl W.heap.size n rfl rfl (by omega) (Nat.le_refl _) ?_; intro w1 ho hg)
  have hs1 : W.heap.size < w1.heap.size := ho.lt
  have h1 := hJ'.out _ _ _ h0 (hg.but _)
  have ct1 := (hg.cell_far ⟨bt, 0, none⟩ hbt1 (by simp)).trans ct
  clear cn ct h0 hg
  gi_loopw [15] (fun _ wr => ∃ ys, Own wr W.heap.size (some ⟨W.heap.size, 0, none⟩) n ys ∧ Hid (Fit top n ys) ∧ Hid (J (some ys) wr) ∧ wr.cell? ⟨bt, 0, none⟩ = some (.int .i64 top))
    (fun _ wr => roundsLeft top wr (.slice (some ⟨W.heap.size, 0, none⟩) n n))
  case atStart => exact ⟨List.replicate n 0, ho, Lib.hid (Fit.zero top n), Lib.hid h1, ct1⟩
  case round =>
    obtain ⟨ys, hor, HF, HJ, hct⟩ := hrel
    have HL := Lib.hid (roundsLeft_n (top := top) HF.out.1 hor hn1)
    gi_wp2_with (refine ⟨trivial, ?_⟩; gi_at_call 164; refine (callsIn_wide.2 (Clone_n _ _ _ _ _ HF.out.1 hor.rd (by omega))).mono ?_; rintro e w2 ⟨g, c1, rfl, o2, b2⟩)
    have hgb : W.heap.size < g := Nat.lt_of_lt_of_le hor.lt o2.ge
    have hor2 := hor.below b2
    have hct2 := (b2.cell (p := ⟨bt, 0, none⟩) (Nat.lt_trans hbt1 hor.lt)).trans hct
    obtain ⟨fn, tmps, assign, body, hy, hR⟩ := hY'.out ys g c1 wr w2 HJ.out b2 o2.ge HF.out hgb (o2.base (Nat.le_of_lt hor.lt))
    clear hct o2 hgb
    gi_wp2
    rw [hy]
    gi_wp2
    refine hR.mono ?_
    rintro e w3 (⟨rfl, hJ3, hk3⟩ | ⟨rfl, hJx3⟩)
    · have hor3 := hor2.same (hk3 _ (.inr rfl))
      have hct3 := cell_same hct2 (hk3 _ (.inl rfl))
      have HJ3 := Lib.hid hJ3
      clear hJ3 hk3 hor2 hct2 hy hR
      gi_wp2_with (refine ⟨trivial, ?_⟩; gi_at_call 165; refine (callsIn_wide.2 (nextBids_n _ _ _ _ _ _ HF.out.1 hor3 (by omega) (by omega) (by omega) HF.out.2)).mono ?_; rintro e w4 (⟨zs, HN, hzl, rfl, o4, gr4⟩ | ⟨HN, rfl, gr4⟩))
      · have HJ4 := HJ3.out
        rw [HN] at HJ4
        have HJ5 := Lib.hid (hJ'.out _ _ _ HJ4 gr4)
        obtain ⟨hf4, hl4⟩ := HF.out.next HN
        have HF4 := Lib.hid hf4
        have HL4 := Lib.hid hl4
        have hct4 := (gr4.cell_far ⟨bt, 0, none⟩ (Nat.lt_trans hbt1 hor3.lt) (by simp; omega)).trans hct3
        clear HN HJ4 hf4 hl4 hzl
        gi_wp2
        go_roundw
        case rel => exact ⟨zs, o4, HF4, HJ5, hct4⟩
        case measure => rw [HL.out, roundsLeft_n HF4.out.1 o4 hn1]; have := HL4.out; omega
      · have HJ4 := HJ3.out
        rw [HN] at HJ4
        have HJ5 := Lib.hid (hJ'.out _ _ _ HJ4 gr4)
        clear HN HJ4
        gi_wp2
        go_end0
        exact ⟨⟨_, rfl⟩, .inl HJ5.out⟩
    · have HX := Lib.hid hJx3
      clear hJx3 hor2 hct2 hy hR
      gi_wp2
      refine ⟨trivial, ?_⟩
      gi_wp2
      go_end0
      exact ⟨⟨_, rfl⟩, .inr HX.out⟩

set_option maxHeartbeats 1000000 in
theorem allBids_in (n top : Int) (w : World) :
    CallsIn Fence.wide 4 Try.prog 116 #[.int .i64 n, .int .i64 top] w fun e w' =>
      e = .returned (.func (.func 163) #[] #[.pointer (some ⟨w.heap.size, 0, none⟩), .pointer (some ⟨w.heap.size + 1, 0, none⟩)]) ∧ w' = (w.alloc (.cells #[.int .i64 n] 3)).alloc (.cells #[.int .i64 top] 3) := by
  refine callsIn_of_wp Try.func116 rfl trivial ?_ rfl
  simp only [Try.ntmps116, List.size_toArray, List.length_cons, List.length_nil, Nat.reduceAdd, Nat.reduceSub, Array.replicate_succ, Array.replicate_zero, List.push_toArray, List.append_toArray, List.nil_append, List.cons_append]
  gi_wp2
  go_ret
  exact ⟨rfl, rfl⟩

end Go.Proofs.Ytkhpheebjkbihab
