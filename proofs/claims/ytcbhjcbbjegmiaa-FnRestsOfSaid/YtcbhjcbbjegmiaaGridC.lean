/-
  Chapter 1, the program: the contract of RestsOf.
-/
import Derived.Test.YtcbhjcbbjegmiaaGridB
import Derived.Test.YtcbhjcbbjegmiaaRestE
namespace Go.Proofs.Ytcbhjcbbjegmiaa
open Go.RowKit Go.Shelf
attribute [local go_sem] Oper.semAt_some

theorem row_cells {w : World} {B e n r : Nat} {v : Value} {vs : List Value} (h : w.ownsRow B e 1 v n vs) (hv : v.ownBlock = some r) : ∃ o, w.heap[r]? = some o ∧ o.isCells = true := by
  rcases h.2 with ⟨rfl, _⟩ | ⟨g, cap, cur, rfl, _, hh, _⟩
  · simp [Value.ownBlock] at hv
  · obtain rfl : g = r := by simpa [Value.ownBlock] using hv
    exact ⟨_, hh, rfl⟩
theorem Own.rebase {w : World} {B B' g c : Nat} {zs : List Int} (h : Own w B (some ⟨g, 0, none⟩) c zs) (hB : B' ≤ g) : Own w B' (some ⟨g, 0, none⟩) c zs := by
  refine ⟨h.1, ?_⟩
  rcases h.2 with h2 | ⟨g', cap, cur, hv, hg, hh, r⟩
  · exact .inl h2
  · have hv' := hv
    injection hv' with hA _ _
    injection hA with hA
    injection hA with hA
    subst hA
    exact .inr ⟨g, cap, cur, hv, hB, hh, r⟩
theorem RowsIn.base {w : World} {B B' : Nat} {v : Value} {ps : List (Nat × Nat × List Int)} (h : RowsIn w B v ps) (hB : B' ≤ B) : RowsIn w B' v ps :=
  ⟨own_base h.row hB, fun p hp => (h.each p hp).base hB, h.nodup⟩

/-- How many are still to come, and how many there are, is bounded. -/
def Count (top : Nat) (ps : List (Nat × Nat × List Int)) : Option (List Int) → Prop
  | some ys => ps.length + (leftF ys top + 1) ≤ 1000
  | none => True
theorem Count.next {top n : Nat} {ps qs : List (Nat × Nat × List Int)} {ys : List Int} (h : Count top ps (some ys)) (hf : Fit top n ys) (hq : qs.length ≤ ps.length + 1) : Count top qs (nextF ys top) := by
  have h : ps.length + (leftF ys top + 1) ≤ 1000 := h
  cases hn : nextF ys top with
  | none => trivial
  | some zs =>
    have := (hf.next hn).2
    show qs.length + (leftF zs top + 1) ≤ 1000
    omega

/-- What the loop has collected: the list in its box, its rows beyond R; what lay below the box lies as it lay. -/
structure Collect (W0 : World) (p8 R kd top : Nat) (vs : List Int) (v : Value) (ps : List (Nat × Nat × List Int)) (s : Option (List Int)) (W : World) : Prop where
  box : Boxed W p8 42 v
  rows : RowsIn W R v ps
  at_ : RestsAt kd vs vs.length top (ps.map (·.2.2)) s
  count : Count top ps s
  below : Below p8 W0 W

theorem Collect.kept {W0 A C : World} {p8 R kd top r : Nat} {vs : List Int} {v : Value} {ps : List (Nat × Nat × List Int)} {s : Option (List Int)} (h : Collect W0 p8 R kd top vs v ps s A) (hp0 : p8 ≤ W0.heap.size) (hg : A.grownBy C (some r)) (hp : p8 < r)
    (hr : r < R ∨ ∃ o, A.heap[r]? = some o ∧ o.isCells = false) : Collect W0 p8 R kd top vs v ps s C := by
  refine ⟨h.box.kept hg (fun e => by cases e; omega), h.rows.kept hg ?_ ?_, h.at_, h.count, h.below.grown hg (Nat.le_trans hp0 h.below.size) (fun k e => by cases e; omega)⟩
  · intro e
    rcases hr with hr | ⟨o, ho, hc⟩
    · have := (World.ownsRow.lt h.rows.row r e).1
      omega
    · obtain ⟨o', ho', hc'⟩ := row_cells h.rows.row e
      rw [ho] at ho'
      cases ho'
      rw [hc] at hc'
      cases hc'
  · intro p hpp e
    rcases hr with hr | ⟨o, ho, hc⟩
    · have := (h.rows.each p hpp).ge
      omega
    · obtain ⟨o', ho', hc'⟩ := row_cells (h.rows.each p hpp) (show Value.ownBlock _ = some r by simp [Value.ownBlock, e])
      rw [ho] at ho'
      cases ho'
      rw [hc] at hc'
      cases hc'

theorem Collect.same {W0 A C : World} {p8 R kd top : Nat} {vs : List Int} {v : Value} {ps : List (Nat × Nat × List Int)} {s s' : Option (List Int)} (h : Collect W0 p8 R kd top vs v ps s A) (hb : Below A.heap.size A C) (hp0 : p8 ≤ W0.heap.size)
    (ha : RestsAt kd vs vs.length top (ps.map (·.2.2)) s') (hc : Count top ps s') : Collect W0 p8 R kd top vs v ps s' C :=
  ⟨(hb.block _ h.box.lt).trans h.box, h.rows.below hb, ha, hc, h.below.trans (hb.mono (Nat.le_trans hp0 h.below.size))⟩

set_option maxRecDepth 100000 in
set_option maxHeartbeats 4000000 in
theorem RestsOf_yes (s : ByteArray) (kd : Nat) (A : Option Addr) (c : Nat) (vs : List Int) (top : Nat) (w : World) (hk : KindIs s kd) (h : Rd w A c vs) (hv : vB vs = true) (hl3 : vs.length ≤ 3) (ht : top ≤ 5) :
    Calls Try.prog 32 #[.string s, .slice A vs.length c, .int .i64 top] w (GridIs w (restsF kd vs vs.length top)) := by
  refine (callsIn_wide (n := 5)).1 ?_
  have hvb := vB_le hv
  have h1 : 1 ≤ vs.length := hvb.1
  have hl : vs.length ≤ 1099511627776 := by omega
  have ht2 : inR (top : Int) 0 5 = true := by rw [inR_true]; omega
  have HSV := Lib.hid (vB_small hv)
  obtain ⟨bv, offv, rfl, _⟩ := h.open_ h1
  obtain ⟨i0, hi, hz0, hz1, hz2⟩ := info_parts ints_info
  have qf := run_eql_func
  have hd3 : decide ((3 : Int) < (vs.length : Int)) = false := by simp; omega
  clear hvb
  refine callsIn_of_wp_marks Try.func32 rfl trivial ?_ rfl
  simp only [Try.ntmps32, List.size_toArray, List.length_cons, List.length_nil, Nat.reduceAdd, Nat.reduceSub, Array.replicate_succ, Array.replicate_zero, List.push_toArray, List.append_toArray, List.nil_append, List.cons_append]
  gi_wp2_with fail
  refine ⟨trivial, ?_⟩
  refine (callsIn_wide.2 (saleOf_yes s kd _ hk)).mono ?_
  rintro e w1 ⟨f, rfl, hF, hb1⟩
  have k4 := (Boxed.new w 23 (.slice (some ⟨bv, offv, none⟩) vs.length c)).alloc (.cells #[.int .i64 top] 3)
  have k5 := Boxed.new (w.alloc (.cells #[.slice (some ⟨bv, offv, none⟩) vs.length c] 23)) 3 (.int .i64 top)
  rw [World.size_alloc] at k5
  have hs1 : w.heap.size + 2 ≤ w1.heap.size := by have := hb1.size; simp at this; omega
  have x4 : Boxed w1 w.heap.size 23 (.slice (some ⟨bv, offv, none⟩) vs.length c) := (hb1.block _ (by simp; omega)).trans k4
  have x5 : Boxed w1 (w.heap.size + 1) 3 (.int .i64 top) := (hb1.block _ (by simp)).trans k5
  have c4 : ∀ o, (w1.alloc o).cell? ⟨w.heap.size, 0, none⟩ = some (.slice (some ⟨bv, offv, none⟩) vs.length c) := fun o => (x4.alloc o).cell
  have c5 : ∀ o, (w1.alloc o).cell? ⟨w.heap.size + 1, 0, none⟩ = some (.int .i64 top) := fun o => (x5.alloc o).cell
  have c4' : ∀ o o', ((w1.alloc o).alloc o').cell? ⟨w.heap.size, 0, none⟩ = some (.slice (some ⟨bv, offv, none⟩) vs.length c) := fun o o' => ((x4.alloc o).alloc o').cell
  have c5' : ∀ o o', ((w1.alloc o).alloc o').cell? ⟨w.heap.size + 1, 0, none⟩ = some (.int .i64 top) := fun o o' => ((x5.alloc o).alloc o').cell
  have hB1 : Below w.heap.size w w1 := (((Below.refl _ w).alloc (Nat.le_refl _) _).alloc (by simp) _).trans (hb1.mono (by simp; omega))
  have HV : ∀ o, Hid (Calls Try.prog 38 #[.slice (some ⟨bv, offv, none⟩) vs.length c] (w1.alloc o) fun e w' => e = .returned (.bool true) ∧ w1.alloc o = w') := fun o =>
    Lib.hid ((ValidBids_any (some ⟨bv, offv, none⟩) c vs (w1.alloc o) (h.below (hB1.alloc hB1.size o)) hl).mono (R' := fun e w' => e = .returned (.bool true) ∧ w1.alloc o = w') (by rw [hv]; exact fun _ _ h => h))
  have X4 := Lib.hid x4
  have X5 := Lib.hid x5
  obtain ⟨gg, bb, rfl⟩ : ∃ g b, f = .func (.func g) #[] b := by
    rcases hF with ⟨_, _, rb, rfl, _⟩ | ⟨_, rfl⟩
    · exact ⟨_, _, rfl⟩
    · exact ⟨_, _, rfl⟩
  have HF := Lib.hid hF
  clear hF k4 k5 x4 x5 hb1 hv
  gi_wp2_with (first
    | (refine ⟨trivial, ?_⟩; gi_at_call 38; refine (callsIn_wide.2 (HV _).out).mono ?_; rintro e w2 ⟨rfl, rfl⟩)
    | (refine ⟨trivial, ?_⟩; gi_at_call 62; refine (callsIn_wide.2 (isTop_any _ _)).mono ?_; rintro e w2 ⟨rfl, rfl⟩)
    | (refine ⟨trivial, ?_⟩; gi_at_call 63; refine (allBids_in _ _ _).mono ?_; rintro e w3 ⟨rfl, rfl⟩))
  have B0 : Below w1.heap.size w1 ((((w1.alloc (.cells #[.func (.func gg) #[] bb] 58)).alloc (.cells #[.slice none 0 0] 42)).alloc (.cells #[.int .i64 vs.length] 3)).alloc (.cells #[.int .i64 top] 3)) :=
    ((((Below.refl _ w1).alloc (Nat.le_refl _) _).alloc (by simp) _).alloc (by simp; omega) _).alloc (by simp; omega) _
  have y7 := (((Boxed.new w1 58 (.func (.func gg) #[] bb)).alloc (.cells #[.slice none 0 0] 42)).alloc (.cells #[.int .i64 vs.length] 3)).alloc (.cells #[.int .i64 top] 3)
  have y8 := ((Boxed.new (w1.alloc (.cells #[.func (.func gg) #[] bb] 58)) 42 (.slice none 0 0)).alloc (.cells #[.int .i64 vs.length] 3)).alloc (.cells #[.int .i64 top] 3)
  have yn := (Boxed.new ((w1.alloc (.cells #[.func (.func gg) #[] bb] 58)).alloc (.cells #[.slice none 0 0] 42)) 3 (.int .i64 vs.length)).alloc (.cells #[.int .i64 top] 3)
  have yt := Boxed.new (((w1.alloc (.cells #[.func (.func gg) #[] bb] 58)).alloc (.cells #[.slice none 0 0] 42)).alloc (.cells #[.int .i64 vs.length] 3)) 3 (.int .i64 top)
  rw [World.size_alloc] at y8
  rw [World.size_alloc, World.size_alloc] at yn
  rw [World.size_alloc, World.size_alloc, World.size_alloc] at yt
  have hs0 : ((((w1.alloc (.cells #[.func (.func gg) #[] bb] 58)).alloc (.cells #[.slice none 0 0] 42)).alloc (.cells #[.int .i64 vs.length] 3)).alloc (.cells #[.int .i64 top] 3)).heap.size = w1.heap.size + 4 := by simp
  obtain ⟨W0, hW0⟩ : ∃ W0, ((((w1.alloc (.cells #[.func (.func gg) #[] bb] 58)).alloc (.cells #[.slice none 0 0] 42)).alloc (.cells #[.int .i64 vs.length] 3)).alloc (.cells #[.int .i64 top] 3)) = W0 := ⟨_, rfl⟩
  rw [hW0] at B0 y7 y8 yn yt hs0 ⊢
  clear hW0
  have hF0 := HF.out.below B0
  have y4 : Boxed W0 w.heap.size 23 (.slice (some ⟨bv, offv, none⟩) vs.length c) := (B0.block _ (by omega)).trans X4.out
  have y5 : Boxed W0 (w.heap.size + 1) 3 (.int .i64 top) := (B0.block _ (by omega)).trans X5.out
  have hB0 : Below w.heap.size w W0 := hB1.trans (B0.mono hB1.size)
  have hbv : bv < w.heap.size := by
    obtain ⟨x, hx⟩ := at_some (xs := vs) (k := 0) (by omega)
    exact World.block_lt_of_cell? w _ (h.cell hx)
  have HRD := Lib.hid (h.below hB0)
  have HS0 := Lib.hid hs0
  clear X4 X5 HV c4 c5 c4' c5' hB1 hd3 qf ht2 h hF0
  refine range_known (w := W0) rfl (enters_of Try.func74 (by kernel_rfl) rfl) (allBids1_iter top vs.length (w1.heap.size + 1 + 1) (w1.heap.size + 1 + 1 + 1) W0 h1 hl3 ht yn.cell yt.cell) (by omega)
    (fun s W => ∃ v ps, Collect W0 (w1.heap.size + 1) (W0.heap.size + 3) kd top vs v ps s W) (fun _ => False)
    (fun s => fun A C r hA hg hr => by
      obtain ⟨v, ps, hA⟩ := hA
      exact ⟨v, ps, hA.kept (by omega) hg (by rcases hr with hr | ⟨hr, _⟩ <;> omega) (hr.elim (fun e => .inl (by omega)) (fun e => .inr e.2))⟩)
    (fun _ _ _ h _ _ => h)
    ⟨_, [], y8, RowsIn.nil _ _, (by show restsF kd vs vs.length top = _; simp [restsF]), (by show 0 + (leftF _ top + 1) ≤ 1000; simpa using left_zero hl3 ht), Below.refl _ _⟩ ?a1 ?assign ?body ?done ?stop
  case assign =>
    intro l v W K hK
    gi_wp2
    exact hK
  case body =>
    rintro l ys gb cg Wp W ⟨v, ps, hIp⟩ hgp hge _ hf hgb hown
    have hfr : gb ∉ ps.map (·.1) := by
      intro hg
      obtain ⟨p, hp, rfl⟩ := List.mem_map.1 hg
      have := (hIp.rows.each p hp).lt
      omega
    have hI := hIp.kept (by omega) hgp (by omega) (.inl (by omega))
    have hyl := hf.1
    have hx4 : Boxed W w.heap.size 23 (.slice (some ⟨bv, offv, none⟩) vs.length c) := (hI.below.block _ (by omega)).trans y4
    have hx5 : Boxed W (w.heap.size + 1) 3 (.int .i64 top) := (hI.below.block _ (by omega)).trans y5
    have hx7 : Boxed W w1.heap.size 58 (.func (.func gg) #[] bb) := (hI.below.block _ (by omega)).trans y7
    have c4 := hx4.cell
    have c5 := hx5.cell
    have c7 := hx7.cell
    have hgl := hown.lt
    obtain ⟨ok, hok⟩ : ∃ ok, ok = restF kd vs ys top := ⟨_, rfl⟩
    have hrd : Rd W (some ⟨bv, offv, none⟩) c vs := by
      rcases HRD.out with ⟨e, _⟩ | ⟨b', off', e, hc⟩
      · rw [e] at h1; simp at h1
      · injection e with e
        injection e with e1 e2
        subst e1 e2
        exact .inr ⟨_, _, rfl, fun k hk => (hI.below.cell (p := ⟨bv, offv + k, none⟩) (by simp; omega)).trans (hc k hk)⟩
    have hFW : FnIs W (.func (.func gg) #[] bb) kd := HF.out.below (B0.trans (hI.below.mono (by omega)))
    have HA := Lib.hid (allRest_t (t := (top : Int)) (.func (.func gg) #[] bb) kd bv offv c gb 0 cg vs ys top W rfl hFW hrd hyl.symm hown.rd (by omega) (by omega) (by omega) (hf.small (by omega)) HSV.out)
    rw [← hok] at HA
    have HI := Lib.hid hI
    have HIF := Lib.hid hf
    have HO := Lib.hid hok
    have HOW := Lib.hid (hown.rebase (B' := W0.heap.size + 3) (by omega))
    have HFR := Lib.hid hfr
    have hpl : ps.length + 1 ≤ 1000 := by have : ps.length + (leftF ys top + 1) ≤ 1000 := hI.count; omega
    have hb63 : ps.length + 1 ≤ maxLen := by unfold maxLen; omega
    have hbx := hI.box
    have HBX := Lib.hid hbx
    have hp8 : w1.heap.size + 1 < W.heap.size := hbx.lt
    clear hx4 hx5 hx7 hI hf hok hown hfr hyl hFW hrd y4 y5 y7 y8 yn yt hIp hgp hge hbx HF B0
    cases ok with
    | false =>
      gi_wp2_with (refine ⟨trivial, ?_⟩; gi_at_call 64; refine (CallsIn.inRound l (callsIn_wide.2 HA.out)).mono ?_; rintro e w2 ⟨rfl, b2⟩)
      exact ⟨keeps_of_below b2, fun k hk => b2.block k (by omega), v, ps, HI.out.same b2 (by omega) (HI.out.at_.no HIF.out HO.out.symm) (HI.out.count.next HIF.out (by omega))⟩
    | true =>
      gi_wp2_with (first
        | (refine ⟨trivial, ?_⟩; gi_at_call 64; refine (CallsIn.inRound l (callsIn_wide.2 HA.out)).mono ?_; rintro e w2 ⟨rfl, b2⟩; have z8 : Boxed w2 (w1.heap.size + 1) 42 v := (b2.block _ hp8).trans HBX.out; have zc := z8.cell; have R2 := Lib.hid (HI.out.rows.below b2); have O2 := Lib.hid (HOW.out.below b2); have RA := Lib.hid (own_len R2.out.row ((Below.refl _ w2).alloc (Nat.le_refl _) (.cells #[slOf (gb, cg, ys)] 23))); have hz2' := b2.size; have Z8 := Lib.hid z8; clear z8)
        | (gi_at_builtin; refine wpListIn_append_own _ rfl _ _ 42 rfl (W0.heap.size + 3) 23 i0 (.slice none 0 0) 1 24 Try.underlying42 hi hz0 hz1 hz2 rfl (by decide) v ps.length (ps.map slOf) rfl RA.out ⟨w2.heap.size, 0, none⟩ 1 1 [slOf (gb, cg, ys)] rfl rfl (cell_one_new _ _ _) (by simp [slOf, Value.oneCell']) hb63 (by omega) (by simp; omega) ?_; intro v' w5 hown' hgrow _; have R5 := Lib.hid (R2.out.more (p := (gb, cg, ys)) O2.out HFR.out hown' hgrow); have HG := Lib.hid hgrow; obtain ⟨g', cap', rfl⟩ := ownsRow_succ hown'; obtain ⟨hv1, hv2, hr2, hk2, hb2⟩ := Boxed.appended Z8.out (by decide) (own_base R2.out.row (B' := w1.heap.size + 1) (by omega)) (by omega) (Nat.le_refl _) (own_base hown' (B' := w1.heap.size + 1) (by omega)) hgrow; have hc1 := hv1.cell; have hf1 := hv1.frozen; have HV2 := Lib.hid hv2; have HK2 := Lib.hid hk2; have HB2 := Lib.hid hb2; clear hv1 hv2 hr2 hk2 hb2 hgrow hown'))
      refine ⟨(keeps_of_below b2).trans HK2.out, fun k hk => ?_, _, ps ++ [(gb, cg, ys)], ⟨HV2.out, R5.out.kept (grow_set w5 (w1.heap.size + 1) 0 _) ?_ ?_, ?_, HI.out.count.next HIF.out (by simp), HI.out.below.trans ((b2.mono (by omega)).trans HB2.out)⟩⟩
      · have hkW : k < W.heap.size := by omega
        rw [Below.heap_setCell _ _ _ k (by simp; omega), HG.out.block k (by simp; omega) (fun e => by have := (World.ownsRow.lt R2.out.row k e.symm).1; omega), Below.heap_alloc _ _ k (by omega)]
        exact b2.block k hkW
      · intro e
        have := (World.ownsRow.lt R5.out.row _ e).1
        omega
      · intro p hp e
        have := (R5.out.each p hp).ge
        omega
      · rw [List.map_append]
        exact HI.out.at_.yes HIF.out HO.out.symm
  case done =>
    rintro D W hD ⟨v, ps, hI⟩ hK
    have hc := hI.box.cell
    gi_wp2
    refine ⟨by simp, .inl ⟨_, _, rfl, run_takeDeferred hK, ?_⟩⟩
    have hI2 := hI.kept (by omega) (grownBy_putObj' W D (.deferred none)) (by omega) (.inr ⟨_, hK, rfl⟩)
    exact ⟨_, results_tmp rfl _ _ _, v, ps, rfl, hI2.rows.base (by omega), hI2.at_.symm, hB0.trans (hI2.below.mono (by omega))⟩
  case stop =>
    rintro D W _ h _
    exact h.elim

end Go.Proofs.Ytcbhjcbbjegmiaa
