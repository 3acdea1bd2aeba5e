/-
  Chapter 2, the model: the contract of IronedOf.
-/
import Derived.Test.YtnojlapjkdihmaaG20
import Derived.Test.YtnojlapjkdihmaaG16
import Derived.Test.YtnojlapjkdihmaaG15
import Derived.Test.YtnojlapjkdihmaaG09
namespace Go.Proofs.Ytnojlapjkdihmaa
open Go.RowKit

/-- P from a up to u and from h on, noughts elsewhere. -/
def MidIs (P : List (Int × Int)) (a u h : Nat) (ps : List (Int × Int)) : Prop := ps.length = P.length ∧ ∀ j, j < P.length → ps[j]? = if (a ≤ j ∧ j < u) ∨ h ≤ j then P[j]? else some (0, 0)
theorem lateF_at (P : List (Int × Int)) (h j : Nat) : (lateF P h)[j]? = if h ≤ j then P[j]? else some (0, 0) := by
  unfold lateF
  rw [List.getElem?_append, List.length_replicate]
  by_cases c : j < h
  · rw [if_pos c, if_neg (by omega), List.getElem?_replicate, if_pos c]
  · rw [if_neg c, if_pos (by omega), List.getElem?_drop]; congr 1; omega
theorem MidIs.start {P : List (Int × Int)} {a h : Nat} (hh : h ≤ P.length) : MidIs P a a h (lateF P h) := by
  refine ⟨lateF_len P h hh, fun j hj => ?_⟩
  rw [lateF_at P h j]
  by_cases c : h ≤ j
  · rw [if_pos c, if_pos (.inr c)]
  · rw [if_neg c, if_neg (by omega)]
theorem MidIs.step {P : List (Int × Int)} {a u h : Nat} {ps : List (Int × Int)} {x : Int × Int} (hm : MidIs P a u h ps) (ha : a ≤ u) (hx : P[u]? = some x) : MidIs P a (u + 1) h (ps.set u x) := by
  have hu := (List.getElem?_eq_some_iff.1 hx).1
  refine ⟨by rw [List.length_set]; exact hm.1, fun j hj => ?_⟩
  by_cases c : u = j
  · subst c
    rw [List.getElem?_set_self (by rw [hm.1]; exact hu), if_pos (.inl ⟨ha, by omega⟩), hx]
  · rw [List.getElem?_set_ne c, hm.2 j hj]
    by_cases d : (a ≤ j ∧ j < u) ∨ h ≤ j
    · rw [if_pos d, if_pos (by omega)]
    · rw [if_neg d, if_neg (by omega)]
theorem MidIs.done {P : List (Int × Int)} {a h : Nat} {ps : List (Int × Int)} (hm : MidIs P a h h ps) (ha : a ≤ h) (hh : h ≤ P.length) : ps = lateF P a := by
  apply List.ext_getElem?
  intro j
  by_cases hj : j < P.length
  · rw [hm.2 j hj, lateF_at P a j]
    by_cases d : a ≤ j
    · rw [if_pos (by omega), if_pos d]
    · rw [if_neg (by omega), if_neg d]
  · rw [List.getElem?_eq_none (by rw [hm.1]; omega), List.getElem?_eq_none (by rw [lateF_len P a (by omega)]; omega)]

end Go.Proofs.Ytnojlapjkdihmaa

/-
  Chapter 2: at whatever weights the program's VirtualOf and IronedOf answer as the model's.
-/
namespace Go.Proofs.Ytnojlapjkdihmaa
open Go.RowKit

/-- The pairs of an answer, none of nil. -/
def psOf (o : Option (List Rat)) : List (Int × Int) := match o with
  | none => []
  | some qs => frL qs
theorem OutF.own {w : World} {o : Option (List Rat)} {e : Ending} {w' : World} (h : OutF w o e w') :
    ∃ A c, e = .returned (.slice A (psOf o).length c) ∧ OwnF w' w.heap.size A c (psOf o) ∧ Below w.heap.size w w' := by
  obtain ⟨hb, ⟨rfl, rfl⟩ | ⟨qs, g, c, rfl, rfl, ho⟩⟩ := h
  · exact ⟨none, 0, rfl, World.ownsRow_nil _ _ _ _, hb⟩
  · exact ⟨_, c, rfl, ho, hb⟩

theorem rows_apart {wa wb : World} {B1 B2 T1 T2 s1 s2 n1 n2 c1 c2 : Nat} {A1 A2 : Option Addr} {xs ys : List Value} (h1 : wa.ownsRow B1 T1 s1 (.slice A1 n1 c1) n1 xs) (h2 : wb.ownsRow B2 T2 s2 (.slice A2 n2 c2) n2 ys) (hlt : wa.heap.size ≤ B2) :
    (ofA A1 = none ∨ ofA A1 ≠ ofA A2) ∧ (ofA A2 = none ∨ ofA A2 ≠ ofA A1) := by
  have e : ∀ k, ofA A1 = some k → ofA A2 = some k → False := by
    intro k hk1 hk2
    have l1 := (World.ownsRow.lt h1 k (by rw [own_block]; exact hk1)).2
    have l2 := (World.ownsRow.lt h2 k (by rw [own_block]; exact hk2)).1
    omega
  constructor
  · rcases hA : ofA A1 with _ | k
    · exact .inl rfl
    · exact .inr (fun h => e k hA h.symm)
  · rcases hA : ofA A2 with _ | k
    · exact .inl rfl
    · exact .inr (fun h => e k h.symm hA)
theorem OwnF.kept_ {w w' : World} {B : Nat} {A A2 : Option Addr} {c : Nat} {ps : List (Int × Int)} (h : OwnF w B A c ps) (hg : w.grownBy w' (ofA A2)) (hne : ofA A = none ∨ ofA A ≠ ofA A2) : OwnF w' B A c ps :=
  World.ownsRow.kept h hg (by rw [own_block]; exact hne)
theorem OwnF.grownBelow {w w' wa : World} {B B2 : Nat} {A2 : Option Addr} {c2 : Nat} {ps : List (Int × Int)} (hb : Below B wa w) (h2 : OwnF w B2 A2 c2 ps) (hB : B ≤ B2) (hs : B ≤ w.heap.size) (hg : w.grownBy w' (ofA A2)) : Below B wa w' :=
  hb.grown hg hs (fun k hk => Nat.le_trans hB (World.ownsRow.lt h2 k (by rw [own_block]; exact hk)).1)

/-- Fractions in a block of the call's own. -/
def OutP (w : World) (ps : List (Int × Int)) (e : Ending) (w' : World) : Prop := ∃ A c, e = .returned (.slice A ps.length c) ∧ OwnF w' w.heap.size A c ps ∧ Below w.heap.size w w'

theorem psOf_len {xs : List Int} {qs : List Rat} (hv : vW xs = true) (h : qs.length = xs.length) : (frL qs).length ≤ 6 := by rw [frL_len, h]; exact (vW_le hv).2

end Go.Proofs.Ytnojlapjkdihmaa

/-
  Chapter 2, the model: the product of weights, valid crowds, the least value with which the thing is had; sums over all values.
-/
namespace Go.Proofs.Ytnojlapjkdihmaa
open Go.RowKit

theorem below_dM {a w : World} {B n : Nat} (h : Below B a w) : Below B a (w.drewN n) := ⟨h.os, h.tape, h.output, h.size, h.block⟩

/-- What is still to come. -/
def restOf {α : Type} (t : List Int → α) (top : Nat) : Option (List Int) → List α
  | none => []
  | some ys => (allF top ys).map t
theorem restOf_next {α : Type} {t : List Int → α} {top n : Nat} {ys : List Int} (h : Fit top n ys) : restOf t top (some ys) = t ys :: restOf t top (nextF ys top) := by
  cases hn : nextF ys top with
  | none => simp [restOf, allF_last hn]
  | some zs => simp [restOf, allF_next (by omega) h.2 hn]

theorem Fit.inV {xs : List Int} {n : Nat} {ys : List Int} (h : Fit (xs.length - 1) n ys) (h1 : 1 ≤ xs.length) : InV xs ys := fun v hv => by have := h.2 v hv; omega
theorem InV.at_ {xs ys : List Int} (h : InV xs ys) {k : Nat} {x : Int} (hx : ys[k]? = some x) : ∃ v : Nat, x = (v : Int) ∧ v < xs.length := by
  have := h x (List.mem_of_getElem? hx)
  exact ⟨x.toNat, by omega, by omega⟩
theorem InV.take {xs ys : List Int} (h : InV xs ys) (k : Nat) : InV xs (ys.take k) := fun v hv => h v (List.mem_of_mem_take hv)
theorem ways_step {xs ys : List Int} {k v : Nat} (hx : ys[k]? = some (v : Int)) : waysF xs (ys.take (k + 1)) = waysF xs (ys.take k) * wt xs v := by
  rw [List.take_add_one, hx]
  exact waysF_snoc xs _ _
theorem wt_at {xs : List Int} {v : Nat} (h : v < xs.length) : xs[v]? = some (wt xs v) := by
  unfold wt
  rw [List.getD_eq_getElem?_getD, List.getElem?_eq_getElem h]; rfl

/-- A crowd is valid. -/
def crowdB (xs : List Int) (n r : Int) : Bool := vW xs && inR n 1 3 && inR r 0 6

theorem first_is : KindIs ⟨#[102, 105, 114, 115, 116]⟩ 1 := .inl ⟨rfl, rfl⟩

end Go.Proofs.Ytnojlapjkdihmaa
