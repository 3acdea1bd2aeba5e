/-
  A region that draws its order inside a round of a loop over an iterator: what serves outside serves inside.
-/
import Derived.Test.YtnojlapjkdihmaaG18
import Derived.Test.YtnojlapjkdihmaaG22
import Derived.Deep.AppendLies
namespace Go.Proofs.Ytnojlapjkdihmaa
open Go.RowKit

/-- Q, where nothing but the plain end is borne. -/
def Calm (Q : Exit → Act → World → Prop) : Exit → Act → World → Prop
  | .normal, a, w => Q .normal a w
  | _, _, _ => False
theorem calm_out {Q : Exit → Act → World → Prop} : ¬ LetsOut (Calm Q) := fun ⟨_, _, h⟩ => h

/-- No operation defers. -/
def noDefer (ops : Array Oper) : Bool := ops.all fun o => match o.op with
  | .defer _ => false
  | _ => true
theorem noDefer_at {ops : Array Oper} (h : noDefer ops = true) {i : Nat} {o : Oper} (ho : ops[i]? = some o) : ∀ c, o.op ≠ .defer c := by
  intro c hc
  obtain ⟨hi, rfl⟩ := Array.getElem?_eq_some_iff.1 ho
  unfold noDefer at h
  have := (Array.all_eq_true.1 h) i hi
  rw [hc] at this
  cases this

theorem rows_in {P : Program} {n : Nat} {row : String} {args : Array Value} {w : World} {R : Value → World → Prop} (h : Rows P row args w R) (l : Nat) : RowsIn (Fence.wide.inRound l) n P row args w R :=
  fun c cs _ => let ⟨v, w', r, s⟩ := h c cs; ⟨v, w', r, stepsIn_wide.2 s⟩

theorem oper_in {P : Program} {o : Oper} {a : Act} {w : World} {K : Act → World → Prop} {Q : Exit → Act → World → Prop} (l n : Nat) (hd : ∀ c, o.op ≠ .defer c) (h : o.wp P a w K (Calm Q)) :
    o.wpIn (Fence.wide.inRound l) n P a w K Q := by
  unfold Oper.wp at h
  unfold Oper.wpIn
  rw [Fence.inRound_round, Oper.semAt_some l _ _ hd]
  refine ⟨fun f _ => trivial, ?_⟩
  generalize (execOp a.eval o).run P w = r at *
  have hn : (Fence.wide.inRound l).depth.isSome = true → 1 ≤ n := fun hh => by cases hh
  cases r with
  | ok x w' =>
    cases x with
    | enter f args =>
      refine ⟨hn, (CallsIn.inRound l (callsIn_wide.2 h)).mono fun e w'' he => ?_⟩
      cases e with
      | returned v => exact he
      | panicked ch => exact he.elim
      | outgrown => exact absurd he calm_out
    | row r args => exact ⟨hn, rows_in h l⟩
    | round l' f tmps assign body => exact h.elim
    | value v => exact h
    | skip => exact h
    | «defer» d => exact h
    | _ => exact h.elim
  | halt x w' => cases x <;> exact h.elim

theorem any_in {P : Program} {md : Region.Mode} {ops : Array Oper} {Q : Exit → Act → World → Prop} (l n : Nat) (hd : noDefer ops = true) : ∀ (k : Nat) (listed : Array Bool) (a : Act) (w : World),
    wpAny P md ops (Calm Q) k listed a w → wpAnyIn (Fence.wide.inRound l) n P md ops Q k listed a w
  | 0, _, _, _, h => h
  | k + 1, listed, a, w, h => by
    refine ⟨h.1, fun i hi => ?_⟩
    have hw := h.2 i hi
    unfold wpOp at hw
    unfold wpOpIn
    cases ho : ops[i]? with
    | none => rw [ho] at hw; exact any_in l n hd k _ _ _ hw
    | some o =>
      rw [ho] at hw
      simp only at hw ⊢
      split
      · rename_i hwt
      
        rw [if_pos hwt] at hw
        rcases hw with hw | hw
        · exact Oper.wpIn_mono (fun a' w' hh => any_in l n hd k _ a' w' hh) (oper_in l n (noDefer_at hd ho) hw)
        · exact absurd hw.2 calm_out
      · rename_i hwt
        rw [if_neg hwt] at hw
        exact ⟨fun f _ => trivial, any_in l n hd k _ _ _ hw⟩

end Go.Proofs.Ytnojlapjkdihmaa

/-
  Chapter 2, the program: the contract of termsOf at whole numbers.
-/
namespace Go.Proofs.Ytnojlapjkdihmaa
open Go.RowKit Go.Shelf
attribute [local go_sem] Oper.semAt_some

theorem row_isCells {w : World} {B e size n r : Nat} {v : Value} {vs : List Value} (h : w.ownsRow B e size v n vs) (hv : v.ownBlock = some r) : ∃ o, w.heap[r]? = some o ∧ o.isCells = true := by
  rcases h.2 with ⟨rfl, _⟩ | ⟨g, cap, cur, rfl, _, hh, _⟩
  · simp [Value.ownBlock] at hv
  · obtain rfl : g = r := by simpa [Value.ownBlock] using hv
    exact ⟨_, hh, rfl⟩

/-- How many are still to come is bounded. -/
def CountL (top k : Nat) : Option (List Int) → Prop
  | some ys => k + (leftF ys top + 1) ≤ 1000
  | none => True
theorem CountL.next {top n k : Nat} {ys : List Int} (h : CountL top k (some ys)) (hf : Fit top n ys) : CountL top (k + 1) (nextF ys top) := by
  have h : k + (leftF ys top + 1) ≤ 1000 := h
  cases hn : nextF ys top with
  | none => trivial
  | some zs =>
    have := (hf.next hn).2
    show k + 1 + (leftF zs top + 1) ≤ 1000
    omega

/-- What a loop over all values has collected: the list in its box, its elements beyond R; what lay below the box lies as it lay. -/
structure Coll {α : Type} (bt e size : Nat) (enc : List α → List Value) (t : List Int → α) (total : List α) (W0 : World) (p8 R top : Nat) (v : Value) (zs : List α) (s : Option (List Int)) (W : World) : Prop where
  box : Boxed W p8 bt v
  row : W.ownsRow R e size v zs.length (enc zs)
  at_ : total = zs ++ restOf t top s
  count : CountL top zs.length s
  below : Below p8 W0 W

theorem Coll.kept {α : Type} {bt e size : Nat} {enc : List α → List Value} {t : List Int → α} {total : List α} {W0 A C : World} {p8 R top r : Nat} {v : Value} {zs : List α} {s : Option (List Int)} (h : Coll bt e size enc t total W0 p8 R top v zs s A)
    (hp0 : p8 ≤ W0.heap.size) (hg : A.grownBy C (some r)) (hp : p8 < r) (hr : r < R ∨ ∃ o, A.heap[r]? = some o ∧ o.isCells = false) : Coll bt e size enc t total W0 p8 R top v zs s C := by
  refine ⟨h.box.kept hg (fun e => by cases e; omega), World.ownsRow.kept h.row hg ?_, h.at_, h.count, h.below.grown hg (Nat.le_trans hp0 h.below.size) (fun k e => by cases e; omega)⟩
  by_cases hv : v.ownBlock = none
  · exact .inl hv
  · refine .inr fun e => ?_
    rcases hr with hr | ⟨o, ho, hc⟩
    · have := (World.ownsRow.lt h.row r e).1
      omega
    · obtain ⟨o', ho', hc'⟩ := row_isCells h.row e
      rw [ho] at ho'
      cases ho'
      rw [hc] at hc'
      cases hc'

theorem keeps_below' {W W' : World} (h : Below W.heap.size W W') : KeepsOthers W W' := KeepsOthers.of_grownBy (grown_of_below h none) (by simp)

def ints (zs : List Int) : List Value := zs.map (Value.int .i64)

end Go.Proofs.Ytnojlapjkdihmaa
