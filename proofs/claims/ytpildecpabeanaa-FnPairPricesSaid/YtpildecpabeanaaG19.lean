/-
  The program: what a loop over an iterator leaves as it is.
-/
import Derived.Test.YtpildecpabeanaaG18
import Derived.RangeFuncBox
import Derived.Laws.EntriesVeiled
import Derived.Test.YtpildecpabeanaaWo
namespace Go.Proofs.Ytpildecpabeanaa
open Go.RowKit Go.Shelf
attribute [local go_sem] Oper.semAt_some

theorem Stays.and {B : Nat} {I I' : World → Prop} (h : Stays B I) (h' : Stays B I') : Stays B (fun W => I W ∧ I' W) :=
  fun A C r hA hg hr => ⟨h A C r hA.1 hg hr, h' A C r hA.2 hg hr⟩
theorem stays_pure {B : Nat} (p : Prop) : Stays B (fun _ => p) := fun _ _ _ h _ _ => h
theorem stays_below {B n : Nat} {w : World} (hn : n ≤ w.heap.size) (hB : n ≤ B) : Stays B (fun W => Below n w W) :=
  fun A C r hA hg hr => hA.grown hg (Nat.le_trans hn hA.size) (fun k e => by cases e; omega)
theorem stays_cell {B b : Nat} {v : Value} (hb : b < B) : Stays B (fun W => W.cell? ⟨b, 0, none⟩ = some v) :=
  fun A C r hA hg hr => (hg.cell_far ⟨b, 0, none⟩ (World.block_lt_of_cell? A _ hA) (by simp; omega)).trans hA

theorem stays_boxed {B b : Nat} {ty : TypeId} {v : Value} (hb : b < B) : Stays B (fun W => Boxed W b ty v) :=
  fun A C r hA hg hr => hA.kept hg (fun e => by cases e; omega)
theorem keeps_of_below {W W' : World} (h : Below W.heap.size W W') : KeepsOthers W W' := KeepsOthers.of_grownBy (grown_of_below h none) (by simp)
theorem Own.rebase {w : World} {B B' g c : Nat} {zs : List Int} (h : Own w B (some ⟨g, 0, none⟩) c zs) (hB : B' ≤ g) : Own w B' (some ⟨g, 0, none⟩) c zs := by
  refine ⟨h.1, ?_⟩
  rcases h.2 with h2 | ⟨g', cap, cur, hv, hg, hh, r⟩
  · exact .inl h2
  · have hv' := hv
    injection hv' with hA _ _
    injection hA with hA
    injection hA with hA
    subst hA
    exact .inr ⟨g, cap, cur, hv, hB, hh, r⟩

end Go.Proofs.Ytpildecpabeanaa

/-
  Chapter 4, the program: the contract of BestSplit.
-/
namespace Go.Proofs.Ytpildecpabeanaa
open Go.RowKit Go.Shelf
attribute [local go_sem] Oper.semAt_some

theorem row_cells {w : World} {B e n r : Nat} {v : Value} {vs : List Value} (h : w.ownsRow B e 1 v n vs) (hv : v.ownBlock = some r) : ∃ o, w.heap[r]? = some o ∧ o.isCells = true := by
  rcases h.2 with ⟨rfl, _⟩ | ⟨g, cap, cur, rfl, _, hh, _⟩
  · simp [Value.ownBlock] at hv
  · obtain rfl : g = r := by simpa [Value.ownBlock] using hv
    exact ⟨_, hh, rfl⟩

/-- What the two boxes hold behind what is done: the best way's sets, and what they are worth. -/
def BoxI (ts : List (List Int)) (n R : Nat) (L : List (List Int)) (v : Value) (m : Int) (W : World) : Prop :=
  (L = [] ∧ v = .slice none 0 0 ∧ m = -1) ∨ ∃ b g c, bestA (worthF ts) L = some b ∧ v = .slice (some ⟨g, 0, none⟩) n c ∧ Own W R (some ⟨g, 0, none⟩) c (setsF b n) ∧ m = worthF ts b
theorem setsF_len' (os : List Int) (n : Nat) : (setsF os n).length = n := by simp [setsF]
theorem BoxI.kept {ts : List (List Int)} {n R : Nat} {L : List (List Int)} {v : Value} {m : Int} {A C : World} {r : Option Nat} (h : BoxI ts n R L v m A) (hg : A.grownBy C r) (hr : ∀ k, r = some k → k < R ∨ ∃ o, A.heap[k]? = some o ∧ o.isCells = false) : BoxI ts n R L v m C := by
  rcases h with h | ⟨b, g, c, h1, h2, h3, h4⟩
  · exact .inl h
  · refine .inr ⟨b, g, c, h1, h2, World.ownsRow.kept h3 hg (.inr fun e => ?_), h4⟩
    have e : some g = r := e
    rcases hr g e.symm with hr | ⟨o, ho, hc⟩
    · have := (World.ownsRow.lt h3 g rfl).1
      omega
    · obtain ⟨o', ho', hc'⟩ := row_cells h3 (r := g) rfl
      rw [ho] at ho'
      cases ho'
      rw [hc] at hc'
      cases hc'

/-- Where the loop over all ways stands. -/
structure BstI (W0 : World) (ts : List (List Int)) (n p R : Nat) (L : List (List Int)) (v : Value) (m : Int) (s : Option (List Int)) (W : World) : Prop where
  best : Boxed W p 23 v
  most : Boxed W (p + 1) 3 (.int .i64 m)
  at_ : BoxI ts n R L v m W
  done : DoneTo n L s
  below : Below p W0 W
theorem BstI.kept {W0 A C : World} {ts : List (List Int)} {n p R : Nat} {L : List (List Int)} {v : Value} {m : Int} {s : Option (List Int)} {r : Nat} (h : BstI W0 ts n p R L v m s A) (hp0 : p ≤ W0.heap.size) (hg : A.grownBy C (some r)) (hp : p + 1 < r)
    (hr : r < R ∨ ∃ o, A.heap[r]? = some o ∧ o.isCells = false) : BstI W0 ts n p R L v m s C :=
  ⟨h.best.kept hg (fun e => by cases e; omega), h.most.kept hg (fun e => by cases e; omega), h.at_.kept hg (fun k e => by cases e; exact hr), h.done, h.below.grown hg (Nat.le_trans hp0 h.below.size) (fun k e => by cases e; omega)⟩
theorem BstI.same {W0 A C : World} {ts : List (List Int)} {n p R : Nat} {L : List (List Int)} {v : Value} {m : Int} {s : Option (List Int)} (h : BstI W0 ts n p R L v m s A) (hb : Below A.heap.size A C) (hp0 : p ≤ W0.heap.size) : BstI W0 ts n p R L v m s C :=
  ⟨(hb.block _ h.best.lt).trans h.best, (hb.block _ h.most.lt).trans h.most, h.at_.kept (grown_of_below hb none) (fun k e => by cases e), h.done, h.below.trans (hb.mono (Nat.le_trans hp0 h.below.size))⟩
theorem BstI.skip {W0 A : World} {ts : List (List Int)} {n p R : Nat} {L : List (List Int)} {v : Value} {m : Int} {ys : List Int} (h : BstI W0 ts n p R L v m (some ys) A) (hv : ∀ t ∈ ts, VT t) (hf : Fit n 3 ys) (hw : ¬ m < worthF ts ys) : BstI W0 ts n p R (L ++ [ys]) v m (nextF ys n) A := by
  refine ⟨h.best, h.most, ?_, h.done.step hf, h.below⟩
  rcases h.at_ with ⟨_, _, h3⟩ | ⟨b, g, c, h1, h2, h3, h4⟩
  · have := (worthF_bd hv ys).1
    omega
  · exact .inr ⟨b, g, c, by rw [bestA_snoc, h1]; simp [pick, show ¬ worthF ts b < worthF ts ys by omega], h2, h3, h4⟩
theorem BoxI.take {W : World} {ts : List (List Int)} {n R : Nat} {L : List (List Int)} {v : Value} {m : Int} {ys : List Int} {g c : Nat} {C : World} (h : BoxI ts n R L v m W) (hw : m < worthF ts ys) (ho : Own C R (some ⟨g, 0, none⟩) c (setsF ys n)) :
    BoxI ts n R (L ++ [ys]) (.slice (some ⟨g, 0, none⟩) n c) (worthF ts ys) C := by
  refine .inr ⟨ys, g, c, ?_, rfl, ho, rfl⟩
  rcases h with ⟨h1, _⟩ | ⟨b, g, c, h1, h2, h3, h4⟩
  · rw [h1]; rfl
  · rw [bestA_snoc, h1]; simp [pick, show worthF ts b < worthF ts ys by omega]

theorem setsBy_n {n : Nat} (b off c : Nat) (os : List Int) (w : World) (h : Rd w (some ⟨b, off, none⟩) c os) (hf : Fit n 3 os) (hn1 : 1 ≤ n) (hn : n ≤ 4) :
    Calls Try.prog 88 #[.slice (some ⟨b, off, none⟩) 3 c, .int .i64 n] w (SetsIs w os n) := setsBy_any _ c n os w h hf hn1 hn

/-- What BestSplit hands back: the sets, in a block of their own, and what they are worth; nil and -1 for others. -/
def BsIs (w : World) (ts : List (List Int)) (e : Ending) (w' : World) : Prop :=
  ∃ A c xs m, e = .returned (.tuple #[.slice A xs.length c, .int .i64 m]) ∧ Own w' w.heap.size A c xs ∧ Below w.heap.size w w' ∧ ((VTs ts ∧ xs = setsF (wayF ts) ts.length ∧ m = worthF ts (wayF ts)) ∨ (¬ VTs ts ∧ xs = [] ∧ m = -1))

set_option maxRecDepth 100000 in
set_option maxHeartbeats 4000000 in
theorem BestSplit_yes (A : Option Addr) (c n : Nat) (ts : List (List Int)) (w : World) (hn : ts.length = n) (h : RdR w A c ts) (hl2 : ∀ r ∈ ts, r.length ≤ 1099511627776) (hv : VTs ts) :
    Calls Try.prog 29 #[.slice A n c] w (BsIs w ts) := by
  refine (callsIn_wide (n := 5)).1 ?_
  have hn1 : 1 ≤ n := by have := hv.1.1; omega
  have hn4 : n ≤ 4 := by have := hv.1.2; omega
  have B1 : Below w.heap.size w (w.alloc (.cells #[.slice A n c] 35)) := (Below.refl _ w).alloc (Nat.le_refl _) _
  have HC : Hid (Calls Try.prog 77 #[.slice A n c] (w.alloc (.cells #[.slice A n c] 35)) fun e w' => e = .returned (.bool true) ∧ Below (w.alloc (.cells #[.slice A n c] 35)).heap.size (w.alloc (.cells #[.slice A n c] 35)) w') :=
    Lib.hid (by have := areTables_any A c ts _ (h.below B1) hl2; rw [vtsB_true hv, hn] at this; exact this)
  have x0 := Boxed.new w 35 (.slice A n c)
  have X0 := Lib.hid x0
  have HN := Lib.hid hn
  have HV := Lib.hid hv
  clear hn hv x0
  refine callsIn_of_wp_marks Try.func29 rfl trivial ?_ rfl
  simp only [Try.ntmps29, List.size_toArray, List.length_cons, List.length_nil, Nat.reduceAdd, Nat.reduceSub, Array.replicate_succ, Array.replicate_zero, List.push_toArray, List.append_toArray, List.nil_append, List.cons_append]
  gi_wp2_with fail
  refine ⟨trivial, ?_⟩
  gi_at_call 77
  refine (callsIn_wide.2 HC.out).mono ?_
  rintro e w1 ⟨rfl, b1⟩
  have x1 : Boxed w1 w.heap.size 35 (.slice A n c) := (b1.block _ (by simp)).trans X0.out
  have hs1 : w.heap.size + 1 ≤ w1.heap.size := by have := b1.size; simpa using this
  have c1 : ∀ o, (w1.alloc o).cell? ⟨w.heap.size, 0, none⟩ = some (.slice A n c) := fun o => (x1.alloc o).cell
  have c1' : ∀ o o', ((w1.alloc o).alloc o').cell? ⟨w.heap.size, 0, none⟩ = some (.slice A n c) := fun o o' => ((x1.alloc o).alloc o').cell
  have hB1 : Below w.heap.size w w1 := B1.trans (b1.mono B1.size)
  have X1 := Lib.hid x1
  clear X0 HC x1 b1 B1
  gi_wp2_with (first
    | (refine ⟨trivial, ?_⟩; gi_at_call 87; refine (allBids_in _ _ _).mono ?_; rintro e w3 ⟨rfl, rfl⟩))
  have B0 : Below w1.heap.size w1 ((((w1.alloc (.cells #[.slice none 0 0] 23)).alloc (.cells #[.int .i64 (-1)] 3)).alloc (.cells #[.int .i64 3] 3)).alloc (.cells #[.int .i64 n] 3)) :=
    ((((Below.refl _ w1).alloc (Nat.le_refl _) _).alloc (by simp) _).alloc (by simp; omega) _).alloc (by simp; omega) _
  have y4 := (((Boxed.new w1 23 (.slice none 0 0)).alloc (.cells #[.int .i64 (-1)] 3)).alloc (.cells #[.int .i64 3] 3)).alloc (.cells #[.int .i64 n] 3)
  have y5 := ((Boxed.new (w1.alloc (.cells #[.slice none 0 0] 23)) 3 (.int .i64 (-1))).alloc (.cells #[.int .i64 3] 3)).alloc (.cells #[.int .i64 n] 3)
  have yn := (Boxed.new ((w1.alloc (.cells #[.slice none 0 0] 23)).alloc (.cells #[.int .i64 (-1)] 3)) 3 (.int .i64 3)).alloc (.cells #[.int .i64 n] 3)
  have yt := Boxed.new (((w1.alloc (.cells #[.slice none 0 0] 23)).alloc (.cells #[.int .i64 (-1)] 3)).alloc (.cells #[.int .i64 3] 3)) 3 (.int .i64 n)
  rw [World.size_alloc] at y5
  rw [World.size_alloc, World.size_alloc] at yn
  rw [World.size_alloc, World.size_alloc, World.size_alloc] at yt
  have hs0 : ((((w1.alloc (.cells #[.slice none 0 0] 23)).alloc (.cells #[.int .i64 (-1)] 3)).alloc (.cells #[.int .i64 3] 3)).alloc (.cells #[.int .i64 n] 3)).heap.size = w1.heap.size + 4 := by simp
  obtain ⟨W0, hW0⟩ : ∃ W0, ((((w1.alloc (.cells #[.slice none 0 0] 23)).alloc (.cells #[.int .i64 (-1)] 3)).alloc (.cells #[.int .i64 3] 3)).alloc (.cells #[.int .i64 n] 3)) = W0 := ⟨_, rfl⟩
  rw [hW0] at B0 y4 y5 yn yt hs0 ⊢
  clear hW0
  have y0 : Boxed W0 w.heap.size 35 (.slice A n c) := (B0.block _ (by omega)).trans X1.out
  have hB0 : Below w.heap.size w W0 := hB1.trans (B0.mono hB1.size)
  clear X1 c1 c1' hB1
  refine range_known (w := W0) rfl (enters_of Try.func141 (by kernel_rfl) rfl) (allBids1_iter n 3 (w1.heap.size + 1 + 1) (w1.heap.size + 1 + 1 + 1) W0 (by omega) (by omega) (by omega) yn.cell yt.cell) (by omega)
    (fun s W => ∃ L v m, BstI W0 ts n w1.heap.size (W0.heap.size + 3) L v m s W) (fun _ => False)
    (fun s => fun A C r hA hg hr => by
      obtain ⟨L, v, m, hA⟩ := hA
      exact ⟨L, v, m, hA.kept (by omega) hg (by rcases hr with hr | ⟨hr, _⟩ <;> omega) (hr.elim (fun e => .inl (by omega)) (fun e => .inr e.2))⟩)
    (fun _ _ _ h _ _ => h)
    ⟨[], _, _, y4, y5, .inl ⟨rfl, rfl, rfl⟩, DoneTo.start n, Below.refl _ _⟩ ?a1 ?assign ?body ?done ?stop
  case assign =>
    intro l v W K hK
    gi_wp2
    exact hK
  case body =>
    rintro l ys gb cg Wp W ⟨L, v, m, hIp⟩ hgp hge _ hf hgb hown
    have hI := hIp.kept (by omega) hgp (by omega) (.inl (by omega))
    have x0 : Boxed W w.heap.size 35 (.slice A n c) := (hI.below.block _ (by omega)).trans y0
    have c0 := x0.cell
    have c5 := hI.most.cell
    have hyl := hf.1
    have HS := Lib.hid (setsBy_n gb 0 cg ys W (by have := hown.rd; exact this) hf hn1 hn4)
    have hrW := h.below (hB0.trans (hI.below.mono (by omega)))
    have HI := Lib.hid hI
    have HF := Lib.hid hf
    have x5 := hI.most
    have hx4 := Lib.hid hI.best
    have HGL := Lib.hid hown.lt
    obtain ⟨p, hp⟩ : ∃ p, p = worthF ts ys := ⟨_, rfl⟩
    have HP := Lib.hid hp
    have HWB := Lib.hid (fun (g2 c2 : Nat) (w2 : World) (hr : RdR w2 A c ts) (hrd : Rd w2 (some ⟨g2, 0, none⟩) c2 (setsF ys n)) => worthBy_any A (some ⟨g2, 0, none⟩) c c2 n ts ys w2 hr HV.out.2 hrd HN.out hn4)
    rw [← hp] at HWB
    rw [hyl]
    clear hIp hgp hge hI hf hown hyl hp
    have x4 := hx4.out
    have hgl := HGL.out
    have hR : W0.heap.size + 3 ≤ W.heap.size := by omega
    by_cases hlt : m < p
    · gi_wp2_with fail
      refine ⟨trivial, ?_⟩
      gi_at_call 88
      refine (CallsIn.inRound l (callsIn_wide.2 HS.out)).mono ?_
      rintro e w2 ⟨g2, c2, rfl, o2, b2⟩
      have x02 : Boxed w2 w.heap.size 35 (.slice A n c) := (b2.block _ x0.lt).trans x0
      have x42 : Boxed w2 w1.heap.size 23 v := (b2.block _ x4.lt).trans x4
      have x52 : Boxed w2 (w1.heap.size + 1) 3 (.int .i64 m) := (b2.block _ x5.lt).trans x5
      have c02 := x02.cell
      gi_wp2_with (refine ⟨trivial, ?_⟩; gi_at_call 89; refine (CallsIn.inRound l (callsIn_wide.2 (HWB.out _ _ _ (hrW.below b2) o2.rd))).mono ?_; rintro e w3 ⟨rfl, k3, rfl⟩; have x43 : Boxed (w2.drewN k3) w1.heap.size 23 v := x42; have x53 : Boxed (w2.drewN k3) (w1.heap.size + 1) 3 (.int .i64 m) := x52; have z5 := x53.other (B' := w1.heap.size) (by omega) (.slice (some ⟨g2, 0, none⟩) n c2); have c43 := x43.cell; have f43 := x43.frozen; have c53 := x53.cell; have cz5 := z5.cell; have fz5 := z5.frozen)
      have hg2 := o2.ge
      have B3 := below_drewN' b2 k3
      refine ⟨(keeps_of_below B3).trans ((KeepsOthers.setCell _ _ _).trans (KeepsOthers.setCell _ _ _)), fun k hk => ?_, L ++ [ys], _, _, (x43.set _).other (by omega) _, z5.set _, ?_, HI.out.done.step HF.out, ((HI.out.below.trans (B3.mono (by omega))).setCell (Nat.le_refl _) _).setCell (by show w1.heap.size ≤ w1.heap.size + 1; omega) _⟩
      · rw [Below.heap_setCell _ _ _ k (by simp; omega), Below.heap_setCell _ _ _ k (by simp; omega)]
        exact B3.block k (by omega)
      · rw [HP.out]
        refine HI.out.at_.take (by rw [← HP.out]; exact hlt) ?_
        exact World.ownsRow.kept (World.ownsRow.kept ((o2.drewN k3).rebase (B' := W0.heap.size + 3) (by omega)) (grow_set _ w1.heap.size 0 _) (.inr (by simp [Value.ownBlock]; omega))) (grow_set _ (w1.heap.size + 1) 0 _) (.inr (by simp [Value.ownBlock]; omega))
    · gi_wp2_with fail
      refine ⟨trivial, ?_⟩
      gi_at_call 88
      refine (CallsIn.inRound l (callsIn_wide.2 HS.out)).mono ?_
      rintro e w2 ⟨g2, c2, rfl, o2, b2⟩
      have x02 : Boxed w2 w.heap.size 35 (.slice A n c) := (b2.block _ x0.lt).trans x0
      have x52 : Boxed w2 (w1.heap.size + 1) 3 (.int .i64 m) := (b2.block _ x5.lt).trans x5
      have c02 := x02.cell
      gi_wp2_with (refine ⟨trivial, ?_⟩; gi_at_call 89; refine (CallsIn.inRound l (callsIn_wide.2 (HWB.out _ _ _ (hrW.below b2) o2.rd))).mono ?_; rintro e w3 ⟨rfl, k3, rfl⟩; have x53 : Boxed (w2.drewN k3) (w1.heap.size + 1) 3 (.int .i64 m) := x52; have c53 := x53.cell)
      have B3 := below_drewN' b2 k3
      exact ⟨keeps_of_below B3, fun k hk => B3.block k (by omega), _, _, _, (HI.out.same B3 (by omega)).skip HV.out.2 HF.out (by rw [← HP.out]; omega)⟩
  case done =>
    rintro D W hD ⟨L, v, m, hI⟩ hK
    have hc4 := hI.best.cell
    have hc5 := hI.most.cell
    gi_wp2_with fail
    gi_region
    gi_wp2
    have hK2 : W.drew.heap[D]? = some (.deferred (some [])) := hK
    refine ⟨by simp, .inl ⟨_, _, rfl, run_takeDeferred hK2, ?_⟩⟩
    have hI1 : BstI W0 ts n w1.heap.size (W0.heap.size + 3) L v m none W.drew := hI.same (below_drewN' (Below.refl _ _) 1) (by omega)
    have hI2 := hI1.kept (by omega) (grownBy_putObj' W.drew D (.deferred none)) (by omega) (.inr ⟨_, hK2, rfl⟩)
    have hd : allF (n : Int) (List.replicate 3 0) = L := hI2.done
    rcases hI2.at_ with ⟨h1, _⟩ | ⟨b, g, c2, h1, rfl, h3, h4⟩
    · exact absurd (hd.trans h1) (allF_ne n)
    · have hw := wayF_is ts
      rw [HN.out, hd, h1] at hw
      injection hw with hw
      subst hw
      have hlen := setsF_len' (wayF ts) n
      have hB : BsIs w ts (.returned (.tuple #[.slice (some ⟨g, 0, none⟩) n c2, .int .i64 m])) (W.drew.putObj D (.deferred none)) :=
        ⟨some ⟨g, 0, none⟩, c2, setsF (wayF ts) n, m, by rw [hlen], h3.rebase (by have := (World.ownsRow.lt h3 g rfl).1; omega), hB0.trans (hI2.below.mono (by omega)), .inl ⟨HV.out, by rw [HN.out], h4⟩⟩
      exact ⟨_, results_tmp2 (t := 2) (u := 3) rfl _ _ _, hB⟩
  case stop =>
    rintro D W _ h _
    exact h.elim

set_option maxHeartbeats 1600000 in
theorem BestSplit_no (A : Option Addr) (c n : Nat) (ts : List (List Int)) (w : World) (hn : ts.length = n) (h : RdR w A c ts) (hl2 : ∀ r ∈ ts, r.length ≤ 1099511627776) (hv : ¬ VTs ts) :
    Calls Try.prog 29 #[.slice A n c] w (BsIs w ts) := by
  have B1 : Below w.heap.size w (w.alloc (.cells #[.slice A n c] 35)) := (Below.refl _ w).alloc (Nat.le_refl _) _
  have HC : Hid (Calls Try.prog 77 #[.slice A n c] (w.alloc (.cells #[.slice A n c] 35)) fun e w' => e = .returned (.bool false) ∧ Below (w.alloc (.cells #[.slice A n c] 35)).heap.size (w.alloc (.cells #[.slice A n c] 35)) w') :=
    Lib.hid (by have := areTables_any A c ts _ (h.below B1) hl2; rw [vtsB_false hv, hn] at this; exact this)
  have HV := Lib.hid hv
  clear hn hv
  go_enter Try.func29, Try.ntmps29
  go_wp2_with fail
  refine HC.out.mono ?_
  rintro e w1 ⟨rfl, b1⟩
  go_wp2
  go_ret2
  exact ⟨none, 0, [], -1, rfl, own_none _ _, B1.trans (b1.mono B1.size), .inr ⟨HV.out, rfl, rfl⟩⟩

theorem BestSplit_any (A : Option Addr) (c : Nat) (ts : List (List Int)) (w : World) (h : RdR w A c ts) (hl2 : ∀ r ∈ ts, r.length ≤ 1099511627776) :
    Calls Try.prog 29 #[.slice A ts.length c] w (BsIs w ts) := by
  by_cases hv : VTs ts
  · exact BestSplit_yes A c _ ts w rfl h hl2 hv
  · exact BestSplit_no A c _ ts w rfl h hl2 hv

end Go.Proofs.Ytpildecpabeanaa
