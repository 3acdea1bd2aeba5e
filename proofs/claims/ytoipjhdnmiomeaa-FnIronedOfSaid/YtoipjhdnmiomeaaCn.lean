/-
  Chapter 2: at whatever weights the program's VirtualOf and IronedOf answer as the model's.
-/
import Derived.Test.YtoipjhdnmiomeaaCm
namespace Go.Proofs.Ytoipjhdnmiomeaa
open Go.RowKit

/-- The pairs of an answer, none of nil. -/
def psOf (o : Option (List Rat)) : List (Int × Int) := match o with
  | none => []
  | some qs => frL qs
theorem OutF.own {w : World} {o : Option (List Rat)} {e : Ending} {w' : World} (h : OutF w o e w') :
    ∃ A c, e = .returned (.slice A (psOf o).length c) ∧ OwnF w' w.heap.size A c (psOf o) ∧ Below w.heap.size w w' := by
  obtain ⟨hb, ⟨rfl, rfl⟩ | ⟨qs, g, c, rfl, rfl, ho⟩⟩ := h
  · exact ⟨none, 0, rfl, World.ownsRow_nil _ _ _ _, hb⟩
  · exact ⟨_, c, rfl, ho, hb⟩

theorem rows_apart {wa wb : World} {B1 B2 T1 T2 s1 s2 n1 n2 c1 c2 : Nat} {A1 A2 : Option Addr} {xs ys : List Value} (h1 : wa.ownsRow B1 T1 s1 (.slice A1 n1 c1) n1 xs) (h2 : wb.ownsRow B2 T2 s2 (.slice A2 n2 c2) n2 ys) (hlt : wa.heap.size ≤ B2) :
    (ofA A1 = none ∨ ofA A1 ≠ ofA A2) ∧ (ofA A2 = none ∨ ofA A2 ≠ ofA A1) := by
  have e : ∀ k, ofA A1 = some k → ofA A2 = some k → False := by
    intro k hk1 hk2
    have l1 := (World.ownsRow.lt h1 k (by rw [own_block]; exact hk1)).2
    have l2 := (World.ownsRow.lt h2 k (by rw [own_block]; exact hk2)).1
    omega
  constructor
  · rcases hA : ofA A1 with _ | k
    · exact .inl rfl
    · exact .inr (fun h => e k hA h.symm)
  · rcases hA : ofA A2 with _ | k
    · exact .inl rfl
    · exact .inr (fun h => e k h.symm hA)
theorem OwnF.kept_ {w w' : World} {B : Nat} {A A2 : Option Addr} {c : Nat} {ps : List (Int × Int)} (h : OwnF w B A c ps) (hg : w.grownBy w' (ofA A2)) (hne : ofA A = none ∨ ofA A ≠ ofA A2) : OwnF w' B A c ps :=
  World.ownsRow.kept h hg (by rw [own_block]; exact hne)
theorem OwnF.grownBelow {w w' wa : World} {B B2 : Nat} {A2 : Option Addr} {c2 : Nat} {ps : List (Int × Int)} (hb : Below B wa w) (h2 : OwnF w B2 A2 c2 ps) (hB : B ≤ B2) (hs : B ≤ w.heap.size) (hg : w.grownBy w' (ofA A2)) : Below B wa w' :=
  hb.grown hg hs (fun k hk => Nat.le_trans hB (World.ownsRow.lt h2 k (by rw [own_block]; exact hk)).1)

/-- Fractions in a block of the call's own. -/
def OutP (w : World) (ps : List (Int × Int)) (e : Ending) (w' : World) : Prop := ∃ A c, e = .returned (.slice A ps.length c) ∧ OwnF w' w.heap.size A c ps ∧ Below w.heap.size w w'

theorem psOf_len {xs : List Int} {qs : List Rat} (hv : vW xs = true) (h : qs.length = xs.length) : (frL qs).length ≤ 6 := by rw [frL_len, h]; exact (vW_le hv).2

theorem VirtualOf_both (xs : List Int) (hl : xs.length ≤ 1048576) : ∃ ps : List (Int × Int), ps.length ≤ 6 ∧
    (∀ A c w, Rd w A c xs → Calls Try.prog 25 #[.slice A xs.length c] w (OutP w ps)) ∧
    (∀ A c w, Rd w A c xs → xs.length ≤ c → Calls Try.prog 18 #[.slice A xs.length c] w (OutP w ps)) := by
  refine ⟨psOf (virtO xs), ?_, fun A c w h => (SVirtualOf_any A c xs w h hl).mono fun _ _ h => h.own, fun A c w h hc => (VirtualOf_any A c xs w h hc hl).mono fun _ _ h => h.own⟩
  unfold virtO
  split
  · rename_i hv; exact psOf_len hv (virtL_len xs)
  · simp [psOf]
theorem IronedOf_both (xs : List Int) (hl : xs.length ≤ 1048576) : ∃ ps : List (Int × Int), ps.length ≤ 6 ∧
    (∀ A c w, Rd w A c xs → Calls Try.prog 30 #[.slice A xs.length c] w (OutP w ps)) ∧
    (∀ A c w, Rd w A c xs → xs.length ≤ c → Calls Try.prog 22 #[.slice A xs.length c] w (OutP w ps)) := by
  refine ⟨psOf (ironO xs), ?_, fun A c w h => (SIronedOf_any A c xs w h hl).mono fun _ _ h => h.own, fun A c w h hc => (IronedOf_any A c xs w h hc hl).mono fun _ _ h => h.own⟩
  unfold ironO
  split
  · rename_i hv; exact psOf_len hv (ironed_len xs)
  · simp [psOf]
end Go.Proofs.Ytoipjhdnmiomeaa
