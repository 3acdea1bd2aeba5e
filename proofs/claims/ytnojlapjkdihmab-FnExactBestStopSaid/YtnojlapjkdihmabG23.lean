/-
  Chapter 1, the program: the contract of allBids, an iterator over all bids.
-/
import Derived.Test.YtnojlapjkdihmabG22
import Derived.Deep.AppendLies
import Derived.Test.YtnojlapjkdihmabG17
import Derived.Test.YtnojlapjkdihmabG05
import Derived.Test.YtnojlapjkdihmabG10
namespace Go.Proofs.Ytnojlapjkdihmab
open Go.RowKit Go.Shelf
attribute [local go_sem] Oper.semAt_some

theorem wpListIn_make_ints {F : Fence} {m : Nat} {ops : Array Oper} {rest : List Oper} {o : Oper} {a : Act} {w : World} {Q : Exit → Act → World → Prop} (hg : o.guard = none) (l c : Operand)
    (hop : o.op = Op.makeSlice 39 l c) (base n : Nat) (hl : a.eval l = .int .i64 (n : Int)) (hc : a.eval c = .int .i64 (n : Int)) (hn : n ≤ 1099511627776) (hb : base ≤ w.heap.size)
    (hK : ∀ w', Own w' base (some ⟨w.heap.size, 0, none⟩) n (List.replicate n 0) → w.grownBy w' none → wpListIn F m Try.prog ops Q rest (a.put o.dst (.slice (some ⟨w.heap.size, 0, none⟩) n n)) w') :
    wpListIn F m Try.prog ops Q (o :: rest) a w := by
  obtain ⟨i0, hi, hz0, hz1, hz2⟩ := info_parts int_info
  refine wpListIn_plain hg fun K hK' => ?_
  obtain ⟨w', hrun, r1, r2⟩ := run_make_full (P := Try.prog) w base 39 3 i0 (.int .i64 0) 1 Try.underlying39 hi hz0 hz1 .i64 .i64 n (by rw [hz2]; omega) (by unfold maxLen; omega) hb
  have ho : Own w' base (some ⟨w.heap.size, 0, none⟩) n (List.replicate n 0) := by
    unfold Own
    simpa [toList_madeCells_one, Value.cells] using r1
  unfold Oper.wpIn
  refine ⟨by simp [Oper.about, hop], ?_⟩
  rw [Oper.semAt_plain F _ _ (by rw [hop]; intro c hc'; cases hc')]
  simp [execOp, hop, hl, hc, hrun, Result.andThen]
  exact hK' _ _ (hK w' ho r2)

theorem Own.same {w w' : World} {B g c : Nat} {zs : List Int} (h : Own w B (some ⟨g, 0, none⟩) c zs) (he : w'.heap[g]? = w.heap[g]?) : Own w' B (some ⟨g, 0, none⟩) c zs := by
  refine ⟨h.1, ?_⟩
  rcases h.2 with h2 | ⟨g', cap, cur, hv, hg, hh, r⟩
  · exact .inl h2
  · have hv' := hv
    injection hv' with hA _ _
    injection hA with hA
    injection hA with hA
    subst hA
    exact .inr ⟨g, cap, cur, hv, hg, he.trans hh, r⟩
theorem cell_same {w w' : World} {b : Nat} {v : Value} (h : w.cell? ⟨b, 0, none⟩ = some v) (he : w'.heap[b]? = w.heap[b]?) : w'.cell? ⟨b, 0, none⟩ = some v := by
  rw [← h]; unfold World.cell?; rw [he]
theorem grown_of_below {w w' : World} (h : Below w.heap.size w w') (r : Option Nat) : w.grownBy w' r := ⟨h.os, h.tape, h.output, h.size, fun i hi _ => h.block i hi⟩

theorem roundsLeft_n {w : World} {B g c n : Nat} {zs : List Int} {top : Int} (hn : zs.length = n) (h : Own w B (some ⟨g, 0, none⟩) c zs) (h1 : 1 ≤ n) : roundsLeft top w (.slice (some ⟨g, 0, none⟩) n c) = leftF zs top + 1 := by
  subst hn; exact roundsLeft_own h h1

end Go.Proofs.Ytnojlapjkdihmab

/-
  A region that draws its order inside a round of a loop over an iterator: what serves outside serves inside.
-/
namespace Go.Proofs.Ytnojlapjkdihmab
open Go.RowKit

/-- Q, where nothing but the plain end is borne. -/
def Calm (Q : Exit → Act → World → Prop) : Exit → Act → World → Prop
  | .normal, a, w => Q .normal a w
  | _, _, _ => False
theorem calm_out {Q : Exit → Act → World → Prop} : ¬ LetsOut (Calm Q) := fun ⟨_, _, h⟩ => h

/-- No operation defers. -/
def noDefer (ops : Array Oper) : Bool := ops.all fun o => match o.op with
  | .defer _ => false
  | _ => true
theorem noDefer_at {ops : Array Oper} (h : noDefer ops = true) {i : Nat} {o : Oper} (ho : ops[i]? = some o) : ∀ c, o.op ≠ .defer c := by
  intro c hc
  obtain ⟨hi, rfl⟩ := Array.getElem?_eq_some_iff.1 ho
  unfold noDefer at h
  have := (Array.all_eq_true.1 h) i hi
  rw [hc] at this
  cases this

theorem rows_in {P : Program} {n : Nat} {row : String} {args : Array Value} {w : World} {R : Value → World → Prop} (h : Rows P row args w R) (l : Nat) : RowsIn (Fence.wide.inRound l) n P row args w R :=
  fun c cs _ => let ⟨v, w', r, s⟩ := h c cs; ⟨v, w', r, stepsIn_wide.2 s⟩

theorem oper_in {P : Program} {o : Oper} {a : Act} {w : World} {K : Act → World → Prop} {Q : Exit → Act → World → Prop} (l n : Nat) (hd : ∀ c, o.op ≠ .defer c) (h : o.wp P a w K (Calm Q)) :
    o.wpIn (Fence.wide.inRound l) n P a w K Q := by
  unfold Oper.wp at h
  unfold Oper.wpIn
  rw [Fence.inRound_round, Oper.semAt_some l _ _ hd]
  refine ⟨fun f _ => trivial, ?_⟩
  generalize (execOp a.eval o).run P w = r at *
  have hn : (Fence.wide.inRound l).depth.isSome = true → 1 ≤ n := fun hh => by cases hh
  cases r with
  | ok x w' =>
    cases x with
    | enter f args =>
      refine ⟨hn, (CallsIn.inRound l (callsIn_wide.2 h)).mono fun e w'' he => ?_⟩
      cases e with
      | returned v => exact he
      | panicked ch => exact he.elim
      | outgrown => exact absurd he calm_out
    | row r args => exact ⟨hn, rows_in h l⟩
    | round l' f tmps assign body => exact h.elim
    | value v => exact h
    | skip => exact h
    | «defer» d => exact h
    | _ => exact h.elim
  | halt x w' => cases x <;> exact h.elim

theorem any_in {P : Program} {md : Region.Mode} {ops : Array Oper} {Q : Exit → Act → World → Prop} (l n : Nat) (hd : noDefer ops = true) : ∀ (k : Nat) (listed : Array Bool) (a : Act) (w : World),
    wpAny P md ops (Calm Q) k listed a w → wpAnyIn (Fence.wide.inRound l) n P md ops Q k listed a w
  | 0, _, _, _, h => h
  | k + 1, listed, a, w, h => by
    refine ⟨h.1, fun i hi => ?_⟩
    have hw := h.2 i hi
    unfold wpOp at hw
    unfold wpOpIn
    cases ho : ops[i]? with
    | none => rw [ho] at hw; exact any_in l n hd k _ _ _ hw
    | some o =>
      rw [ho] at hw
      simp only at hw ⊢
      split
      · rename_i hwt
      
        rw [if_pos hwt] at hw
        rcases hw with hw | hw
        · exact Oper.wpIn_mono (fun a' w' hh => any_in l n hd k _ a' w' hh) (oper_in l n (noDefer_at hd ho) hw)
        · exact absurd hw.2 calm_out
      · rename_i hwt
        rw [if_neg hwt] at hw
        exact ⟨fun f _ => trivial, any_in l n hd k _ _ _ hw⟩

end Go.Proofs.Ytnojlapjkdihmab
