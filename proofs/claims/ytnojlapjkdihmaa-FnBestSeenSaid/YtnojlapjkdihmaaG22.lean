/-
  Chapter 2, the model: the contract of EdgeRevenue.
-/
import Derived.Test.YtnojlapjkdihmaaG21
import Derived.Test.YtnojlapjkdihmaaG16
import Derived.Test.YtnojlapjkdihmaaG08
import Derived.Test.YtnojlapjkdihmaaG12
import Derived.RangeFuncNested
import Derived.RangeFuncBound
import Derived.RangeFuncCalls
import Derived.RangeFuncLeaves
import Derived.RangeFuncFrom
import Derived.Shelf.Abstract
import Derived.Shelf.RegionOpen
import Derived.OwnWalkIn
import Derived.TacticsInMore
import Derived.LoopNIn
import Derived.LoopIn
import Derived.Deep.AppendLies
import Derived.Test.YtnojlapjkdihmaaG15
namespace Go.Proofs.Ytnojlapjkdihmaa
open Go.RowKit

/-- What values bring in, with their weights. -/
def edgeT (xs : List Int) (r : Int) (vs : List Int) : Int := waysF xs vs * edgeR vs r
theorem edge_fit {xs vs : List Int} {n : Nat} {r : Int} (hv : vW xs = true) (hf : Fit (xs.length - 1) n vs) (hn1 : 1 ≤ n) (hn : n ≤ 3) (hr : 0 ≤ r) : 0 ≤ edgeR vs r ∧ edgeR vs r ≤ 6 := by
  have h0 := edge_nn vs r hr
  obtain ⟨l1, l2⟩ := vW_le hv
  have hl := hf.1
  rcases at_cases (vs := vs) (by omega) hr with ⟨a, x, _, hx, _, hle, _⟩ | ⟨_, he, _⟩
  · obtain ⟨v, rfl, hvl⟩ := (hf.inV l1).at_ hx
    omega
  · omega
theorem edgeT_bd {xs vs : List Int} {n : Nat} {r : Int} (hv : vW xs = true) (hf : Fit (xs.length - 1) n vs) (hn1 : 1 ≤ n) (hn : n ≤ 3) (hr : 0 ≤ r) : 0 ≤ edgeT xs r vs ∧ edgeT xs r vs ≤ 1296 := by
  obtain ⟨e0, e1⟩ := edge_fit hv hf hn1 hn hr
  obtain ⟨w0, w1⟩ := ways_bd (vW_valid hv) vs (hf.inV (vW_le hv).1) (by have := hf.1; omega)
  unfold edgeT
  exact ⟨Int.mul_nonneg (by omega) e0, by have := Int.mul_le_mul w1 e1 e0 (by omega); omega⟩

def edgeV (xs : List Int) (n : Nat) (r : Int) : Int := (restOf (edgeT xs r) (xs.length - 1) (some (List.replicate n 0))).sum
/-- What EdgeRevenue answers. -/
def edgeO (xs : List Int) (n r : Int) : Int := if crowdB xs n r = true then edgeV xs n.toNat r else -1

/-- What has been summed, of so many. -/
def SumTo (xs : List Int) (r : Int) (n : Nat) (S : Int) (k : Nat) (s : Option (List Int)) : Prop :=
  edgeV xs n r = S + (restOf (edgeT xs r) (xs.length - 1) s).sum ∧ 0 ≤ S ∧ S ≤ 1296 * (k : Int) ∧ k ≤ 1000 ∧ ∀ ys, s = some ys → k + (leftF ys (xs.length - 1 : Nat) + 1) ≤ 1000
theorem left_1000 {n top : Nat} (hn : n ≤ 3) (ht : top ≤ 5) : leftF (List.replicate n 0) top + 1 ≤ 1000 := by
  have hn : n = 0 ∨ n = 1 ∨ n = 2 ∨ n = 3 := by omega
  have ht : top = 0 ∨ top = 1 ∨ top = 2 ∨ top = 3 ∨ top = 4 ∨ top = 5 := by omega
  rcases hn with rfl | rfl | rfl | rfl <;> rcases ht with rfl | rfl | rfl | rfl | rfl | rfl <;> decide +kernel
theorem SumTo.start (xs : List Int) (r : Int) {n : Nat} (hn : n ≤ 3) (hl : xs.length ≤ 6) : SumTo xs r n 0 0 (some (List.replicate n 0)) :=
  ⟨by unfold edgeV; omega, by omega, by omega, by omega, fun ys h => by injection h with h; subst h; have := left_1000 (n := n) (top := xs.length - 1) hn (by omega); omega⟩
theorem SumTo.step {xs : List Int} {r : Int} {n : Nat} {S S' : Int} {k : Nat} {ys : List Int} (h : SumTo xs r n S k (some ys)) (hv : vW xs = true) (hf : Fit (xs.length - 1) n ys) (hn1 : 1 ≤ n) (hn : n ≤ 3) (hr : 0 ≤ r) (hS : S' = S + edgeT xs r ys) :
    SumTo xs r n S' (k + 1) (nextF ys (xs.length - 1 : Nat)) := by
  obtain ⟨h1, h2, h3, h4, h5⟩ := h
  obtain ⟨t0, t1⟩ := edgeT_bd hv hf hn1 hn hr
  have h6 := h5 ys rfl
  rw [restOf_next hf, List.sum_cons] at h1
  refine ⟨by omega, by omega, by omega, by omega, fun zs hz => ?_⟩
  have := (hf.next hz).2
  omega

end Go.Proofs.Ytnojlapjkdihmaa

/-
  Chapter 2, the program: the term of EdgeRevenue.
-/
namespace Go.Proofs.Ytnojlapjkdihmaa
open Go.RowKit

theorem fit_vB {xs vs : List Int} {n : Nat} (hv : vW xs = true) (hf : Fit (xs.length - 1) n vs) (hn1 : 1 ≤ n) (hn : n ≤ 3) : vB vs = true := by
  obtain ⟨l1, l2⟩ := vW_le hv
  have hl := hf.1
  unfold vB
  rw [Bool.and_eq_true, inR_true, List.all_eq_true]
  refine ⟨by omega, fun x hx => inR_true.2 ?_⟩
  have := hf.2 x hx
  omega

end Go.Proofs.Ytnojlapjkdihmaa

/-
  Chapter 1, the program: a loop over all bids, where the body knows what lies behind the slice that it is handed.
-/
namespace Go.Proofs.Ytnojlapjkdihmaa
open Go.RowKit Go.Shelf
attribute [local go_sem] Oper.semAt_some

/-- What the iterator leans on behind a round: its own block and the box of the top. -/
def SameTwo (bt g0 : Nat) (A B : World) : Prop := ∀ k, k = bt ∨ k = g0 → B.heap[k]? = A.heap[k]?

/-- An iterator over all bids of n bidders up to the top. -/
def IterB (P : Program) (gf : Nat) (lb : Array Value) (top n bt : Nat) (w0 : World) : Prop :=
  ∀ (l : Nat) (J : Option (List Int) → World → Prop) (Jx : World → Prop) (W : World), Below w0.heap.size w0 W →
    (∀ s A B, J s A → A.grownBy B (some W.heap.size) → J s B) → (∀ A B, Jx A → A.grownBy B (some W.heap.size) → Jx B) →
    (∀ ys gb c Wp W1, J (some ys) Wp → Below Wp.heap.size Wp W1 → Wp.heap.size ≤ gb → Fit top n ys → W.heap.size < gb → Own W1 W.heap.size (some ⟨gb, 0, none⟩) c ys →
      YieldAt Fence.wide 3 P l #[.slice (some ⟨gb, 0, none⟩) ys.length c] W1 fun e W' =>
        (e = .returned (.bool true) ∧ J (nextF ys top) W' ∧ SameTwo bt W.heap.size W1 W') ∨ (e = .returned (.bool false) ∧ Jx W')) →
    J (some (List.replicate n 0)) W →
    CallsIn Fence.wide 4 P gf (#[.func (.yield l) #[] #[]] ++ lb) W fun e W' => (∃ v, e = .returned v) ∧ (J none W' ∨ Jx W')

/-- What the loop's own turns leave as it is: those of its record, of the block for deferred calls, and of the iterator's own block. -/
def Stays (B : Nat) (I : World → Prop) : Prop :=
  ∀ (A C : World) (r : Nat), I A → A.grownBy C (some r) → (r = B + 2 ∨ (B ≤ r ∧ ∃ o, A.heap[r]? = some o ∧ o.isCells = false)) → I C

theorem Stays.alloc {B : Nat} {I : World → Prop} (h : Stays B I) {A : World} (o : Obj) (hA : I A) : I (A.alloc o) :=
  h A _ (B + 2) hA (World.grownBy_alloc A o _) (.inl rfl)
theorem Stays.put {B : Nat} {I : World → Prop} (h : Stays B I) {A : World} {k : Nat} {o : Obj} (o' : Obj) (hA : I A) (hB : B ≤ k) (hk : A.heap[k]? = some o) (ho : o.isCells = false) : I (A.putObj k o') :=
  h A _ k hA (grownBy_putObj' A k o') (.inr ⟨hB, o, hk, ho⟩)

/-- How a round may end. -/
def roundEnds (bt g0 : Nat) (I : Option (List Int) → World → Prop) (Ix : World → Prop) (s : Option (List Int)) (W : World) : Exit → Act → World → Prop
  | .normal, _, W' => KeepsOthers W W' ∧ SameTwo bt g0 W W' ∧ I s W'
  | .ret, _, W' => KeepsOthers W W' ∧ Ix W'
  | _, _, _ => False

set_option maxHeartbeats 1000000 in
theorem range_known {P : Program} {g : Operand} {p : Tmp} {assign body : Code} {Q : Exit → Act → World → Prop} {a : Act} {w : World} {gf : Nat} {lb : Array Value} {top n bt : Nat}
    (hg : a.eval g = .func (.func gf) #[] lb) (eg : Enters P gf) (hit : IterB P gf lb top n bt w) (hbt : bt < w.heap.size)
    (I : Option (List Int) → World → Prop) (Ix : World → Prop) (hI : ∀ s, Stays w.heap.size (I s)) (hIx : Stays w.heap.size Ix) (h0 : I (some (List.replicate n 0)) w) (a₁ : Value → Act)
    (hassign : ∀ (l : Nat) (v : Value) (W : World) (K : Act → World → Prop), K (a₁ v) W →
      assign.wpIn (Fence.wide.inRound l) 3 P (Exit.then K (fun _ _ _ => False)) { tmps := (#[p].zip #[v]).foldl (fun t (p, v) => t.setIfInBounds p v) a.tmps, defers := [] } W)
    (hbody : ∀ (l : Nat) (ys : List Int) (gb c : Nat) (Wp W : World), I (some ys) Wp → Wp.grownBy W (some (w.heap.size + 1)) → Wp.heap.size ≤ gb → I (some ys) W → Fit top n ys → w.heap.size + 2 < gb → Own W (w.heap.size + 2) (some ⟨gb, 0, none⟩) c ys →
      body.wpIn (Fence.wide.inRound l) 3 P (roundEnds bt (w.heap.size + 2) I Ix (nextF ys top) W) (a₁ (.slice (some ⟨gb, 0, none⟩) ys.length c)) W)
    (hdone : ∀ (D : Nat) (W : World), w.heap.size ≤ D → I none W → W.heap[D]? = some (.deferred (some [])) → Q .normal { a with defers := { target := .collected D, args := #[] } :: a.defers } W)
    (hstop : ∀ (D : Nat) (W : World), w.heap.size ≤ D → Ix W → W.heap[D]? = some (.deferred (some [])) → Code.ret.wpIn Fence.wide 5 P Q { a with defers := { target := .collected D, args := #[] } :: a.defers } W) :
    (Code.rangeFunc g #[p] assign body).wpIn Fence.wide 5 P Q a w := by
  refine wpIn_rangeFunc fun fn hfn => ?_
  -- the record in its states
  let R : LoopState → Option Code → Obj := fun st pe => .loop { state := st, pending := pe, fn, tmps := a.tmps, params := #[p], assign, body, defers := w.heap.size }
  let W1 : World := (w.alloc (.deferred (some []))).alloc (R .ready none)
  have hs : W1.heap.size = w.heap.size + 2 := by simp [W1]
  have hrec : W1.heap[w.heap.size + 1]? = some (R .ready none) := by
    have := World.alloc_heap_new (w.alloc (.deferred (some []))) (R .ready none)
    rwa [World.size_alloc] at this
  have hdef : W1.heap[w.heap.size]? = some (.deferred (some [])) := (Below.heap_alloc _ _ _ (by simp)).trans (World.alloc_heap_new w _)
  have hbel : Below w.heap.size w W1 := ((Below.refl _ w).alloc (Nat.le_refl _) _).alloc (by simp) _
  refine ⟨w.heap.size + 1, [{ target := .collected w.heap.size, args := #[] }], W1, { target := .fn (.func gf) lb, args := #[.func (.yield (w.heap.size + 1)) #[] #[]] }, W1, gf,
    #[.func (.yield (w.heap.size + 1)) #[] #[]] ++ lb, W1, run_enterLoop_outer _ _ _ _ _, ?_, fun _ _ => trivial, ?_, (fun h => by cases h), ?_⟩
  · simp only [resolve, hg]
    simp [go_sem]
  · simp [invoke, go_sem]
    exact eg _ _
  · refine (hit (w.heap.size + 1) (fun s W => I s W ∧ W.heap[w.heap.size + 1]? = some (R .ready none) ∧ W.heap[w.heap.size]? = some (.deferred (some [])))
      (fun W => Ix W ∧ W.heap[w.heap.size + 1]? = some (R .done (some .ret)) ∧ W.heap[w.heap.size]? = some (.deferred (some []))) W1 hbel ?_ ?_ ?_ ?_).mono ?_
    · rintro s A C ⟨hi, hl, hk⟩ hgr
      rw [hs] at hgr
      exact ⟨hI s A C _ hi hgr (.inl rfl), (hgr.block _ (Array.getElem?_eq_some_iff.1 hl).1 (by simp)).trans hl, (hgr.block _ (Array.getElem?_eq_some_iff.1 hk).1 (by simp)).trans hk⟩
    · rintro A C ⟨hi, hl, hk⟩ hgr
      rw [hs] at hgr
      exact ⟨hIx A C _ hi hgr (.inl rfl), (hgr.block _ (Array.getElem?_eq_some_iff.1 hl).1 (by simp)).trans hl, (hgr.block _ (Array.getElem?_eq_some_iff.1 hk).1 (by simp)).trans hk⟩
    · rintro ys gb c Wp W ⟨hip, hlp, hkp⟩ hbp hge hfit hgb hown
      rw [hs] at hgb hown
      have hgp : Wp.grownBy W (some (w.heap.size + 2)) := ⟨hbp.os, hbp.tape, hbp.output, hbp.size, fun i hi _ => hbp.block i hi⟩
      have hgl : Wp.grownBy W (some (w.heap.size + 1)) := ⟨hbp.os, hbp.tape, hbp.output, hbp.size, fun i hi _ => hbp.block i hi⟩
      have hi := hI _ Wp W _ hip hgp (.inl rfl)
      have hl := (hbp.block _ (Array.getElem?_eq_some_iff.1 hlp).1).trans hlp
      have hk := (hbp.block _ (Array.getElem?_eq_some_iff.1 hkp).1).trans hkp
      have hlt := (Array.getElem?_eq_some_iff.1 hl).1
      refine ⟨fn, _, assign, body, run_yield (r := { state := .ready, pending := none, fn, tmps := a.tmps, params := #[p], assign, body, defers := w.heap.size }) hl rfl,
        roundIn_of_wpIn hfn (hassign _ _ W _ ⟨_, run_beginRound hl rfl, ?_⟩)⟩
      -- the round is on: the record says so
      have hl2 := World.putObj_heap_same (w := W) (o := R .busy none) hlt
      have hk2 := (World.putObj_heap_other (w := W) (r := w.heap.size + 1) (o := R .busy none) (k := w.heap.size) (by omega)).trans hk
      have ho2 : Own (W.putObj (w.heap.size + 1) (R .busy none)) (w.heap.size + 2) (some ⟨gb, 0, none⟩) c ys :=
        World.ownsRow.kept hown (grownBy_putObj' W _ _) (.inr (by simp [Value.ownBlock]; omega))
      refine wpIn_mono (hbody _ ys gb c Wp _ hip (hgl.trans (grownBy_putObj' W _ _)) hge ((hI _).put _ hi (by omega) hl rfl) hfit hgb ho2) ?_
      rintro e a3 W3 hp
      cases e with
      | normal =>
        obtain ⟨hk3, hs3, hi3⟩ := hp
        have hl3 := hk3.same _ _ hl2 rfl
        refine ⟨_, _, run_endRound none hl3, .inl ⟨rfl, ⟨(hI _).put _ hi3 (by omega) hl3 rfl, World.putObj_heap_same (Array.getElem?_eq_some_iff.1 hl3).1, (World.putObj_heap_other (by omega)).trans (hk3.same _ _ hk2 rfl)⟩, fun k hkk => ?_⟩⟩
        rw [hs] at hkk
        have hne : k ≠ w.heap.size + 1 := by omega
        rw [World.putObj_heap_other hne, hs3 k hkk, World.putObj_heap_other hne]
      | ret =>
        obtain ⟨hk3, hi3⟩ := hp
        have hl3 := hk3.same _ _ hl2 rfl
        exact ⟨_, _, run_endRound (some .ret) hl3, .inr ⟨rfl, hIx.put _ hi3 (by omega) hl3 rfl, World.putObj_heap_same (Array.getElem?_eq_some_iff.1 hl3).1, (World.putObj_heap_other (by omega)).trans (hk3.same _ _ hk2 rfl)⟩⟩
      | exit id => exact hp.elim
      | goto t => exact hp.elim
      | panic ch => exact hp.elim
      | outgrown => exact hp.elim
    · exact ⟨(hI _).alloc _ ((hI _).alloc _ h0), hrec, hdef⟩
    · rintro e W2 ⟨⟨v, rfl⟩, ⟨hi, hl, hk⟩ | ⟨hi, hl, hk⟩⟩
      · exact ⟨none, _, run_endLoop hl (by simp), hdone _ _ (Nat.le_refl _) ((hI _).put _ hi (by omega) hl rfl) ((World.putObj_heap_other (by omega)).trans hk)⟩
      · exact ⟨some .ret, _, run_endLoop hl (by simp), hstop _ _ (Nat.le_refl _) (hIx.put _ hi (by omega) hl rfl) ((World.putObj_heap_other (by omega)).trans hk)⟩

end Go.Proofs.Ytnojlapjkdihmaa

/-
  Chapter 1, the program: the contract of allBids, an iterator over all bids.
-/
namespace Go.Proofs.Ytnojlapjkdihmaa
open Go.RowKit Go.Shelf
attribute [local go_sem] Oper.semAt_some

theorem wpListIn_make_ints {F : Fence} {m : Nat} {ops : Array Oper} {rest : List Oper} {o : Oper} {a : Act} {w : World} {Q : Exit → Act → World → Prop} (hg : o.guard = none) (l c : Operand)
    (hop : o.op = Op.makeSlice 24 l c) (base n : Nat) (hl : a.eval l = .int .i64 (n : Int)) (hc : a.eval c = .int .i64 (n : Int)) (hn : n ≤ 1099511627776) (hb : base ≤ w.heap.size)
    (hK : ∀ w', Own w' base (some ⟨w.heap.size, 0, none⟩) n (List.replicate n 0) → w.grownBy w' none → wpListIn F m Try.prog ops Q rest (a.put o.dst (.slice (some ⟨w.heap.size, 0, none⟩) n n)) w') :
    wpListIn F m Try.prog ops Q (o :: rest) a w := by
  obtain ⟨i0, hi, hz0, hz1, hz2⟩ := info_parts int_info
  refine wpListIn_plain hg fun K hK' => ?_
  obtain ⟨w', hrun, r1, r2⟩ := run_make_full (P := Try.prog) w base 24 3 i0 (.int .i64 0) 1 Try.underlying24 hi hz0 hz1 .i64 .i64 n (by rw [hz2]; omega) (by unfold maxLen; omega) hb
  have ho : Own w' base (some ⟨w.heap.size, 0, none⟩) n (List.replicate n 0) := by
    unfold Own
    simpa [toList_madeCells_one, Value.cells] using r1
  unfold Oper.wpIn
  refine ⟨by simp [Oper.about, hop], ?_⟩
  rw [Oper.semAt_plain F _ _ (by rw [hop]; intro c hc'; cases hc')]
  simp [execOp, hop, hl, hc, hrun, Result.andThen]
  exact hK' _ _ (hK w' ho r2)

theorem Own.same {w w' : World} {B g c : Nat} {zs : List Int} (h : Own w B (some ⟨g, 0, none⟩) c zs) (he : w'.heap[g]? = w.heap[g]?) : Own w' B (some ⟨g, 0, none⟩) c zs := by
  refine ⟨h.1, ?_⟩
  rcases h.2 with h2 | ⟨g', cap, cur, hv, hg, hh, r⟩
  · exact .inl h2
  · have hv' := hv
    injection hv' with hA _ _
    injection hA with hA
    injection hA with hA
    subst hA
    exact .inr ⟨g, cap, cur, hv, hg, he.trans hh, r⟩
theorem cell_same {w w' : World} {b : Nat} {v : Value} (h : w.cell? ⟨b, 0, none⟩ = some v) (he : w'.heap[b]? = w.heap[b]?) : w'.cell? ⟨b, 0, none⟩ = some v := by
  rw [← h]; unfold World.cell?; rw [he]
theorem grown_of_below {w w' : World} (h : Below w.heap.size w w') (r : Option Nat) : w.grownBy w' r := ⟨h.os, h.tape, h.output, h.size, fun i hi _ => h.block i hi⟩

theorem Clone_n {n : Nat} (b off c : Nat) (xs : List Int) (w : World) (hn : xs.length = n) (h : Rd w (some ⟨b, off, none⟩) c xs) (hl : n ≤ 1099511627776) :
    Calls Try.prog 157 #[.slice (some ⟨b, off, none⟩) n c] w (OutIs w xs) := by
  subst hn; exact Clone_any b off c xs w h hl
theorem nextBids_n {n : Nat} (B g c : Nat) (xs : List Int) (top : Int) (w : World) (hn : xs.length = n) (h : Own w B (some ⟨g, 0, none⟩) c xs) (hl : n ≤ 1048576) (ht0 : 0 ≤ top) (ht1 : top ≤ 1048576) (hb : ∀ x ∈ xs, 0 ≤ x ∧ x ≤ top) :
    Calls Try.prog 158 #[.slice (some ⟨g, 0, none⟩) n c, .int .i64 top] w (NextIn w B g c xs top) := by
  subst hn; exact nextBids_any B g c xs top w h hl ht0 ht1 hb
theorem roundsLeft_n {w : World} {B g c n : Nat} {zs : List Int} {top : Int} (hn : zs.length = n) (h : Own w B (some ⟨g, 0, none⟩) c zs) (h1 : 1 ≤ n) : roundsLeft top w (.slice (some ⟨g, 0, none⟩) n c) = leftF zs top + 1 := by
  subst hn; exact roundsLeft_own h h1

set_option maxRecDepth 100000 in
set_option maxHeartbeats 2000000 in
theorem allBids1_iter (top n bn bt : Nat) (w0 : World) (hn1 : 1 ≤ n) (hn : n ≤ 3) (ht : top ≤ 5) (hcn : w0.cell? ⟨bn, 0, none⟩ = some (.int .i64 n)) (hct : w0.cell? ⟨bt, 0, none⟩ = some (.int .i64 top)) :
    IterB Try.prog 156 #[.pointer (some ⟨bn, 0, none⟩), .pointer (some ⟨bt, 0, none⟩)] top n bt w0 := by
  intro l J Jx W hW hJ hJx hY h0
  have hbt0 := World.block_lt_of_cell? w0 _ hct
  have cn := (hW.cell (p := ⟨bn, 0, none⟩) (World.block_lt_of_cell? w0 _ hcn)).trans hcn
  have ct := (hW.cell (p := ⟨bt, 0, none⟩) hbt0).trans hct
  have hbt1 : bt < W.heap.size := Nat.lt_of_lt_of_le hbt0 hW.size
  clear hcn hct hbt0
  have hY' := Lib.hid hY
  have hJ' := Lib.hid hJ
  have hJx' := Lib.hid hJx
  clear hY hJ hJx hW
  refine callsIn_of_wp Try.func156 rfl trivial ?_ rfl
  simp only [Try.ntmps156, List.size_toArray, List.length_cons, List.length_nil, Nat.reduceAdd, Nat.reduceSub, Array.replicate_succ, Array.replicate_zero, List.push_toArray, List.append_toArray, List.nil_append, List.cons_append]
  gi_wp2_with (gi_at_make; refine wpListIn_make_ints rfl _ _ rfl W.heap.size n rfl rfl (by omega) (Nat.le_refl _) ?_; intro w1 ho hg)
  have hs1 : W.heap.size < w1.heap.size := ho.lt
  have h1 := hJ'.out _ _ _ h0 (hg.but _)
  have ct1 := (hg.cell_far ⟨bt, 0, none⟩ hbt1 (by simp)).trans ct
  clear cn ct h0 hg
  gi_loopw [15] (fun _ wr => ∃ ys, Own wr W.heap.size (some ⟨W.heap.size, 0, none⟩) n ys ∧ Hid (Fit top n ys) ∧ Hid (J (some ys) wr) ∧ wr.cell? ⟨bt, 0, none⟩ = some (.int .i64 top))
    (fun _ wr => roundsLeft top wr (.slice (some ⟨W.heap.size, 0, none⟩) n n))
  case atStart => exact ⟨List.replicate n 0, ho, Lib.hid (Fit.zero top n), Lib.hid h1, ct1⟩
  case round =>
    obtain ⟨ys, hor, HF, HJ, hct⟩ := hrel
    have HL := Lib.hid (roundsLeft_n (top := top) HF.out.1 hor hn1)
    gi_wp2_with (refine ⟨trivial, ?_⟩; gi_at_call 157; refine (callsIn_wide.2 (Clone_n _ _ _ _ _ HF.out.1 hor.rd (by omega))).mono ?_; rintro e w2 ⟨g, c1, rfl, o2, b2⟩)
    have hgb : W.heap.size < g := Nat.lt_of_lt_of_le hor.lt o2.ge
    have hor2 := hor.below b2
    have hct2 := (b2.cell (p := ⟨bt, 0, none⟩) (Nat.lt_trans hbt1 hor.lt)).trans hct
    obtain ⟨fn, tmps, assign, body, hy, hR⟩ := hY'.out ys g c1 wr w2 HJ.out b2 o2.ge HF.out hgb (o2.base (Nat.le_of_lt hor.lt))
    clear hct o2 hgb
    gi_wp2
    rw [hy]
    gi_wp2
    refine hR.mono ?_
    rintro e w3 (⟨rfl, hJ3, hk3⟩ | ⟨rfl, hJx3⟩)
    · have hor3 := hor2.same (hk3 _ (.inr rfl))
      have hct3 := cell_same hct2 (hk3 _ (.inl rfl))
      have HJ3 := Lib.hid hJ3
      clear hJ3 hk3 hor2 hct2 hy hR
      gi_wp2_with (refine ⟨trivial, ?_⟩; gi_at_call 158; refine (callsIn_wide.2 (nextBids_n _ _ _ _ _ _ HF.out.1 hor3 (by omega) (by omega) (by omega) HF.out.2)).mono ?_; rintro e w4 (⟨zs, HN, hzl, rfl, o4, gr4⟩ | ⟨HN, rfl, gr4⟩))
      · have HJ4 := HJ3.out
        rw [HN] at HJ4
        have HJ5 := Lib.hid (hJ'.out _ _ _ HJ4 gr4)
        obtain ⟨hf4, hl4⟩ := HF.out.next HN
        have HF4 := Lib.hid hf4
        have HL4 := Lib.hid hl4
        have hct4 := (gr4.cell_far ⟨bt, 0, none⟩ (Nat.lt_trans hbt1 hor3.lt) (by simp; omega)).trans hct3
        clear HN HJ4 hf4 hl4 hzl
        gi_wp2
        go_roundw
        case rel => exact ⟨zs, o4, HF4, HJ5, hct4⟩
        case measure => rw [HL.out, roundsLeft_n HF4.out.1 o4 hn1]; have := HL4.out; omega
      · have HJ4 := HJ3.out
        rw [HN] at HJ4
        have HJ5 := Lib.hid (hJ'.out _ _ _ HJ4 gr4)
        clear HN HJ4
        gi_wp2
        go_end0
        exact ⟨⟨_, rfl⟩, .inl HJ5.out⟩
    · have HX := Lib.hid hJx3
      clear hJx3 hor2 hct2 hy hR
      gi_wp2
      refine ⟨trivial, ?_⟩
      gi_wp2
      go_end0
      exact ⟨⟨_, rfl⟩, .inr HX.out⟩

set_option maxHeartbeats 1000000 in
theorem allBids_in (n top : Int) (w : World) :
    CallsIn Fence.wide 4 Try.prog 96 #[.int .i64 n, .int .i64 top] w fun e w' =>
      e = .returned (.func (.func 156) #[] #[.pointer (some ⟨w.heap.size, 0, none⟩), .pointer (some ⟨w.heap.size + 1, 0, none⟩)]) ∧ w' = (w.alloc (.cells #[.int .i64 n] 3)).alloc (.cells #[.int .i64 top] 3) := by
  refine callsIn_of_wp Try.func96 rfl trivial ?_ rfl
  simp only [Try.ntmps96, List.size_toArray, List.length_cons, List.length_nil, Nat.reduceAdd, Nat.reduceSub, Array.replicate_succ, Array.replicate_zero, List.push_toArray, List.append_toArray, List.nil_append, List.cons_append]
  gi_wp2
  go_ret
  exact ⟨rfl, rfl⟩

end Go.Proofs.Ytnojlapjkdihmaa
