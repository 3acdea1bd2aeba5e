/-
  Chapter 1, the program: the contract of IsTrue.
-/
import Derived.Test.YtcbhjcbbjegmiaaIter
import Derived.RangeFuncBox
import Derived.Laws.EntriesVeiled
namespace Go.Proofs.Ytcbhjcbbjegmiaa
open Go.RowKit Go.Shelf
attribute [local go_sem] Oper.semAt_some

theorem Stays.and {B : Nat} {I I' : World → Prop} (h : Stays B I) (h' : Stays B I') : Stays B (fun W => I W ∧ I' W) :=
  fun A C r hA hg hr => ⟨h A C r hA.1 hg hr, h' A C r hA.2 hg hr⟩
theorem stays_pure {B : Nat} (p : Prop) : Stays B (fun _ => p) := fun _ _ _ h _ _ => h
theorem stays_below {B n : Nat} {w : World} (hn : n ≤ w.heap.size) (hB : n ≤ B) : Stays B (fun W => Below n w W) :=
  fun A C r hA hg hr => hA.grown hg (Nat.le_trans hn hA.size) (fun k e => by cases e; omega)
theorem stays_cell {B b : Nat} {v : Value} (hb : b < B) : Stays B (fun W => W.cell? ⟨b, 0, none⟩ = some v) :=
  fun A C r hA hg hr => (hg.cell_far ⟨b, 0, none⟩ (World.block_lt_of_cell? A _ hA) (by simp; omega)).trans hA

theorem stays_boxed {B b : Nat} {ty : TypeId} {v : Value} (hb : b < B) : Stays B (fun W => Boxed W b ty v) :=
  fun A C r hA hg hr => hA.kept hg (fun e => by cases e; omega)
theorem keeps_of_below {W W' : World} (h : Below W.heap.size W W') : KeepsOthers W W' := KeepsOthers.of_grownBy (grown_of_below h none) (by simp)
theorem allRest_t {t : Int} (f : Value) (kd : Nat) (bv offv cv b off c : Nat) (vs xs : List Int) (top : Nat) (w : World) (he : t = (top : Int)) (hf : FnIs w f kd) (hv : Rd w (some ⟨bv, offv, none⟩) cv vs) (hvl : vs.length = xs.length) (h : Rd w (some ⟨b, off, none⟩) c xs) (h1 : 1 ≤ xs.length) (hl : xs.length ≤ 1048576) (ht : top ≤ 1048576) (hsm : Small xs) (hsv : Small vs) :
    Calls Try.prog 64 #[.int .i64 t, f, .slice (some ⟨b, off, none⟩) xs.length c, .slice (some ⟨bv, offv, none⟩) vs.length cv] w fun e w' => e = .returned (.bool (restF kd vs xs top)) ∧ Below w.heap.size w w' := by
  subst he; exact allRest_any f kd bv offv cv b off c vs xs top w hf hv hvl h h1 hl ht hsm hsv

/-- Where the loop stands. -/
def TrueAt (kd n top : Nat) : Option (List Int) → Prop
  | some ys => isTrueF kd n top = (allF top ys).all (fun b => restF kd b b (top + 1))
  | none => isTrueF kd n top = true
theorem TrueAt.next {kd n top : Nat} {ys : List Int} (h : TrueAt kd n top (some ys)) (hf : Fit top n ys) (hr : restF kd ys ys (top + 1) = true) : TrueAt kd n top (nextF ys top) := by
  have h : isTrueF kd n top = _ := h
  cases hn : nextF ys top with
  | none => rw [allF_last hn, List.all_cons, hr] at h; exact h
  | some zs => rw [allF_next (by omega) hf.2 hn, List.all_cons, hr] at h; exact h
theorem TrueAt.bad {kd n top : Nat} {ys : List Int} (h : TrueAt kd n top (some ys)) (hf : Fit top n ys) (hr : restF kd ys ys (top + 1) = false) : isTrueF kd n top = false := by
  have h : isTrueF kd n top = _ := h
  cases hn : nextF ys top with
  | none => rw [allF_last hn, List.all_cons, hr] at h; exact h
  | some zs => rw [allF_next (by omega) hf.2 hn, List.all_cons, hr] at h; exact h

set_option maxRecDepth 100000 in
set_option maxHeartbeats 4000000 in
theorem IsTrue_yes (s : ByteArray) (kd n top : Nat) (w : World) (hk : KindIs s kd) (hn1 : 1 ≤ n) (hn3 : n ≤ 3) (ht : top ≤ 5) :
    Calls Try.prog 29 #[.string s, .int .i64 n, .int .i64 top] w fun e w' => e = .returned (.bool (isTrueF kd n top)) ∧ Below w.heap.size w w' := by
  refine (callsIn_wide (n := 5)).1 ?_
  have ht2 : inR (top : Int) 0 5 = true := by rw [inR_true]; omega
  have qf := run_eql_func
  refine callsIn_of_wp_marks Try.func29 rfl trivial ?_ rfl
  simp only [Try.ntmps29, List.size_toArray, List.length_cons, List.length_nil, Nat.reduceAdd, Nat.reduceSub, Array.replicate_succ, Array.replicate_zero, List.push_toArray, List.append_toArray, List.nil_append, List.cons_append]
  gi_wp2_with fail
  refine ⟨trivial, ?_⟩
  refine (callsIn_wide.2 (saleOf_yes s kd _ hk)).mono ?_
  rintro e w1 ⟨f, rfl, hF, hb1⟩
  have k5 := (Boxed.new w 3 (.int .i64 top)).alloc (.cells #[.bool false] 4)
  have k6 := Boxed.new (w.alloc (.cells #[.int .i64 top] 3)) 4 (.bool false)
  rw [World.size_alloc] at k6
  have hs1 : w.heap.size + 2 ≤ w1.heap.size := by have := hb1.size; simp at this; omega
  have x5 : Boxed w1 w.heap.size 3 (.int .i64 top) := (hb1.block _ (by simp; omega)).trans k5
  have x6 : Boxed w1 (w.heap.size + 1) 4 (.bool false) := (hb1.block _ (by simp)).trans k6
  have c5 : ∀ o, (w1.alloc o).cell? ⟨w.heap.size, 0, none⟩ = some (.int .i64 top) := fun o => (x5.alloc o).cell
  have hB1 : Below w.heap.size w w1 := (((Below.refl _ w).alloc (Nat.le_refl _) _).alloc (by simp) _).trans (hb1.mono (by simp; omega))
  have hd1 : decide ((n : Int) < 1) = false := by simp; omega
  have hd2 : decide ((3 : Int) < (n : Int)) = false := by simp; omega
  have X5 := Lib.hid x5
  have X6 := Lib.hid x6
  clear k5 k6 hb1 x5 x6
  obtain ⟨gg, bb, rfl⟩ : ∃ g b, f = .func (.func g) #[] b := by
    rcases hF with ⟨_, _, rb, rfl, _⟩ | ⟨_, rfl⟩
    · exact ⟨_, _, rfl⟩
    · exact ⟨_, _, rfl⟩
  have HF := Lib.hid hF
  clear hF
  gi_wp2_with (first
    | (refine ⟨trivial, ?_⟩; gi_at_call 62; refine (callsIn_wide.2 (isTop_any _ _)).mono ?_; rintro e w2 ⟨rfl, rfl⟩)
    | (refine ⟨trivial, ?_⟩; gi_at_call 63; refine (allBids_in _ _ _).mono ?_; rintro e w3 ⟨rfl, rfl⟩))
  have B0 : Below w1.heap.size w1 (((w1.alloc (.cells #[.func (.func gg) #[] bb] 58)).alloc (.cells #[.int .i64 n] 3)).alloc (.cells #[.int .i64 top] 3)) :=
    (((Below.refl _ w1).alloc (Nat.le_refl _) _).alloc (by simp) _).alloc (by simp; omega) _
  have y7 := ((Boxed.new w1 58 (.func (.func gg) #[] bb)).alloc (.cells #[.int .i64 n] 3)).alloc (.cells #[.int .i64 top] 3)
  have yn := (Boxed.new (w1.alloc (.cells #[.func (.func gg) #[] bb] 58)) 3 (.int .i64 n)).alloc (.cells #[.int .i64 top] 3)
  have yt := Boxed.new ((w1.alloc (.cells #[.func (.func gg) #[] bb] 58)).alloc (.cells #[.int .i64 n] 3)) 3 (.int .i64 top)
  rw [World.size_alloc] at yn
  rw [World.size_alloc, World.size_alloc] at yt
  have hs0 : (((w1.alloc (.cells #[.func (.func gg) #[] bb] 58)).alloc (.cells #[.int .i64 n] 3)).alloc (.cells #[.int .i64 top] 3)).heap.size = w1.heap.size + 3 := by simp
  obtain ⟨W0, hW0⟩ : ∃ W0, ((w1.alloc (.cells #[.func (.func gg) #[] bb] 58)).alloc (.cells #[.int .i64 n] 3)).alloc (.cells #[.int .i64 top] 3) = W0 := ⟨_, rfl⟩
  rw [hW0] at B0 y7 yn yt hs0 ⊢
  clear hW0
  have hF0 := HF.out.below B0
  have y5 : Boxed W0 w.heap.size 3 (.int .i64 top) := (B0.block _ (by omega)).trans X5.out
  have y6 : Boxed W0 (w.heap.size + 1) 4 (.bool false) := (B0.block _ (by omega)).trans X6.out
  have hB0 : Below w.heap.size w W0 := hB1.trans (B0.mono hB1.size)
  clear HF X5 X6 B0 c5 hB1 hd1 hd2 qf
  refine range_known (w := W0) rfl (enters_of Try.func74 (by kernel_rfl) rfl) (allBids1_iter top n (w1.heap.size + 1) (w1.heap.size + 1 + 1) W0 hn1 hn3 ht yn.cell yt.cell) (by omega)
    (fun s W => Below W0.heap.size W0 W ∧ TrueAt kd n top s) (fun W => (Boxed W (w.heap.size + 1) 4 (.bool false) ∧ isTrueF kd n top = false) ∧ Below w.heap.size w W)
    (fun s => (stays_below (Nat.le_refl _) (Nat.le_refl _)).and (stays_pure _)) (((stays_boxed (by omega)).and (stays_pure _)).and (stays_below (Nat.le_refl _) hB0.size))
    ⟨Below.refl _ _, rfl⟩ ?a1 ?assign ?body ?done ?stop
  case assign =>
    intro l v W K hK
    gi_wp2
    exact hK
  case body =>
    rintro l ys gb c _ W _ _ _ ⟨hB, hT⟩ hf hgb hown
    have hyl := hf.1
    have hx5 : Boxed W w.heap.size 3 (.int .i64 top) := (hB.block _ (by omega)).trans y5
    have hx6 : Boxed W (w.heap.size + 1) 4 (.bool false) := (hB.block _ (by omega)).trans y6
    have hx7 : Boxed W w1.heap.size 58 (.func (.func gg) #[] bb) := (hB.block _ (by omega)).trans y7
    have c5 := hx5.cell
    have c7 := hx7.cell
    have hgl := hown.lt
    obtain ⟨ok, hok⟩ : ∃ ok, ok = restF kd ys ys (top + 1) := ⟨_, rfl⟩
    have HA := Lib.hid (allRest_t (t := (top : Int) + 1) (.func (.func gg) #[] bb) kd gb 0 c gb 0 c ys ys (top + 1) W (by omega) (hF0.below hB) hown.rd rfl hown.rd (by omega) (by omega) (by omega) (hf.small (by omega)) (hf.small (by omega)))
    rw [← hok] at HA
    have HX6 := Lib.hid hx6
    have HT := Lib.hid hT
    have HF := Lib.hid hf
    have HO := Lib.hid hok
    clear hx5 hx6 hx7 hT hf hok hown y5 y6 y7 yn yt hF0 hyl
    cases ok with
    | true =>
      gi_wp2_with (refine ⟨trivial, ?_⟩; gi_at_call 64; refine (CallsIn.inRound l (callsIn_wide.2 HA.out)).mono ?_; rintro e w2 ⟨rfl, b2⟩)
      exact ⟨keeps_of_below b2, fun k hk => b2.block k (by omega), hB.trans (b2.mono hB.size), HT.out.next HF.out HO.out.symm⟩
    | false =>
      gi_wp2_with (refine ⟨trivial, ?_⟩; gi_at_call 64; refine (CallsIn.inRound l (callsIn_wide.2 HA.out)).mono ?_; rintro e w2 ⟨rfl, b2⟩; have z6 : Boxed w2 (w.heap.size + 1) 4 (.bool false) := (b2.block _ HX6.out.lt).trans HX6.out; have zc := z6.cell; have zf := z6.frozen)
      exact ⟨(keeps_of_below b2).trans (KeepsOthers.setCell _ _ _), ⟨z6.set _, HT.out.bad HF.out HO.out.symm⟩, ((hB0.trans (hB.mono hB0.size)).trans (b2.mono (Nat.le_trans hB0.size hB.size))).setCell (p := ⟨w.heap.size + 1, 0, none⟩) (by simp) _⟩
  case done =>
    rintro D W hD ⟨hB, hT⟩ hK
    have hT : isTrueF kd n top = true := hT
    have z6 : Boxed W (w.heap.size + 1) 4 (.bool false) := (hB.block _ (by omega)).trans y6
    have zc := z6.cell
    have zf := z6.frozen
    gi_wp2
    have hK' := (KeepsOthers.setCell W ⟨w.heap.size + 1, 0, none⟩ (.bool true)).same D _ hK rfl
    refine ⟨by simp, .inl ⟨_, _, rfl, run_takeDeferred hK', ?_⟩⟩
    have hc6 := ((z6.set (.bool true)).kept (grownBy_putObj' _ D (.deferred none)) (fun e => by cases e; omega)).cell
    refine ⟨.bool true, ?_, by rw [hT], ((hB0.trans (hB.mono hB0.size)).setCell (p := ⟨w.heap.size + 1, 0, none⟩) (by simp) _).grown (grownBy_putObj' _ D (.deferred none)) ?_ (fun k e => by cases e; omega)⟩
    · simp [results, Try.f29, go_sem, hc6]
    · exact ((hB0.trans (hB.mono hB0.size)).setCell (p := ⟨w.heap.size + 1, 0, none⟩) (by simp) _).size
  case stop =>
    rintro D W hD ⟨⟨z6, hT⟩, hBw⟩ hK
    gi_wp2
    refine ⟨by simp, .inl ⟨_, _, rfl, run_takeDeferred hK, ?_⟩⟩
    have hc6 := (z6.kept (grownBy_putObj' _ D (.deferred none)) (fun e => by cases e; omega)).cell
    refine ⟨.bool false, ?_, by rw [hT], hBw.grown (grownBy_putObj' _ D (.deferred none)) hBw.size (fun k e => by cases e; omega)⟩
    simp [results, Try.f29, go_sem, hc6]

end Go.Proofs.Ytcbhjcbbjegmiaa
