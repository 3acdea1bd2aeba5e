/-
  The exact laws' helpers on fractions: that two lists that are the same are found so, that one is marked, and that the marks are held.
-/
import Derived.Test.YtnojlapjkdihmaaG19
import Derived.Test.YtnojlapjkdihmaaG01
namespace Go.Proofs.Ytnojlapjkdihmaa
open Go.RowKit

/-- k, one more, and so on, two by two. -/
def upP (k : Int) (n : Nat) : List (Int × Int) := (List.range n).map (fun i => (k + 2 * (i : Nat), k + 2 * (i : Nat) + 1))
theorem upP_len (k : Int) (n : Nat) : (upP k n).length = n := by simp [upP]
theorem upP_at (k : Int) (n i : Nat) (h : i < n) : (upP k n)[i]? = some (k + 2 * i, k + 2 * i + 1) := by simp [upP, h]
def markP (k : Int) (ps : List (Int × Int)) (j : Nat) : List (Int × Int) := upP k j ++ ps.drop j
theorem markP_len (k : Int) (ps : List (Int × Int)) (j : Nat) (hj : j ≤ ps.length) : (markP k ps j).length = ps.length := by simp [markP, upP_len]; omega
theorem markP_zero (k : Int) (ps : List (Int × Int)) : markP k ps 0 = ps := by simp [markP, upP]
theorem markP_all (k : Int) (ps : List (Int × Int)) : markP k ps ps.length = upP k ps.length := by simp [markP]
theorem markP_set (k : Int) (ps : List (Int × Int)) (j : Nat) (hj : j < ps.length) : (markP k ps j).set j (k + 2 * j, k + 2 * j + 1) = markP k ps (j + 1) := by
  unfold markP
  rw [List.set_append, if_neg (by rw [upP_len]; omega), upP_len, Nat.sub_self]
  rw [List.drop_eq_getElem_cons hj, List.set_cons_zero]
  simp [upP, List.range_succ]

theorem ownF_addr {w : World} {B : Nat} {A : Option Addr} {c : Nat} {ps : List (Int × Int)} (h : OwnF w B A c ps) (hp : 0 < ps.length) : ∃ g, A = some ⟨g, 0, none⟩ := by
  rcases ownF_shape h with ⟨_, ⟨hv, hz⟩ | ⟨g, c', hv⟩⟩
  · subst hz; simp at hp
  · injection hv with hA; exact ⟨g, hA⟩
theorem OwnF.half {w : World} {B g c : Nat} {ps : List (Int × Int)} (h : OwnF w B (some ⟨g, 0, none⟩) c ps) (i : Nat) (u : Value) {x y : Int} (hx : ps[i]? = some (x, y)) :
    (w.setCell ⟨g, i * 2, none⟩ u).cell? ⟨g, i * 2 + 1, none⟩ = some (.int .i64 y) ∧ (w.setCell ⟨g, i * 2, none⟩ u).frozen? ⟨g, i * 2 + 1, none⟩ = false := by
  have h1 := (World.ownsRow.stored h (i * 2) u).1
  refine ⟨?_, World.ownsRow.frozenAt h1 _⟩
  rw [World.cell?_setCell_other w ⟨g, i * 2, none⟩ ⟨g, i * 2 + 1, none⟩ _ (fun e => by injection e with _ e2; omega)]
  exact (h.cell hx).2

end Go.Proofs.Ytnojlapjkdihmaa

/-
  Chapter 2: the contracts of IsRegular, of the program and of the model.
-/
namespace Go.Proofs.Ytnojlapjkdihmaa
open Go.RowKit

/-- Up to k no virtual value is less than the one ahead of it. -/
def regUp (xs : List Int) (k : Nat) : Bool := (List.range k).all fun v => decide (v = 0) || !decide (virtQ xs v < virtQ xs (v - 1))
/-- What IsRegular hands back. -/
def regB (xs : List Int) : Bool := vW xs && regUp xs xs.length
theorem regUp_one (xs : List Int) : regUp xs 1 = true := by simp [regUp]
theorem regUp_yes {xs : List Int} {k : Nat} (h : regUp xs k = true) (h2 : ¬ virtQ xs k < virtQ xs (k - 1)) : regUp xs (k + 1) = true := by
  unfold regUp at *
  rw [List.range_succ, List.all_append, h]
  simp [h2]
theorem regUp_no {xs : List Int} {k : Nat} (hk : 1 ≤ k) (hl : k < xs.length) (h2 : virtQ xs k < virtQ xs (k - 1)) : regB xs = false := by
  have : regUp xs xs.length = false := by
    unfold regUp
    rw [List.all_eq_false]
    exact ⟨k, List.mem_range.2 hl, by simp [h2]; omega⟩
  unfold regB; rw [this]; simp
theorem regB_yes {xs : List Int} (hv : vW xs = true) (h : regUp xs xs.length = true) : regB xs = true := by unfold regB; rw [hv, h]; rfl
theorem regB_bad {xs : List Int} (hv : vW xs = false) : regB xs = false := by unfold regB; rw [hv]; rfl
theorem regB_reg {xs : List Int} (h : regB xs = true) : regW xs := by
  intro v hv
  simp only [regB, regUp, Bool.and_eq_true, List.all_eq_true] at h
  have := h.2 (v + 1) (List.mem_range.2 hv)
  simp at this
  exact Rat.not_lt.1 this

theorem virt_bd {xs : List Int} {v : Nat} {n d : Int} (hv : vW xs = true) (hlt : v < xs.length) (hq : FrIs (virtQ xs v) n d) : -36 ≤ n ∧ n ≤ 36 ∧ 1 ≤ d ∧ d ≤ 6 := by
  obtain ⟨p1, p2, p3, p4, p5⟩ := virt_parts hv (List.getElem?_eq_getElem hlt) hq
  obtain ⟨t1, t2⟩ := rev_b hv (v + 1)
  have := fq_le p2 p1
  omega

end Go.Proofs.Ytnojlapjkdihmaa

/-
  Chapter 2, the program: the contract of IronedOf.
-/
namespace Go.Proofs.Ytnojlapjkdihmaa
open Go.RowKit

/-- Noughts up to v, ps from there on. -/
def lateF (ps : List (Int × Int)) (v : Nat) : List (Int × Int) := List.replicate v (0, 0) ++ ps.drop v
theorem lateF_len (ps : List (Int × Int)) (v : Nat) (hv : v ≤ ps.length) : (lateF ps v).length = ps.length := by simp [lateF]; omega
theorem lateF_all (ps : List (Int × Int)) : lateF ps ps.length = List.replicate ps.length (0, 0) := by simp [lateF]
theorem lateF_zero (ps : List (Int × Int)) : lateF ps 0 = ps := by simp [lateF]
theorem lateF_set (ps : List (Int × Int)) (u : Nat) (x : Int × Int) (hx : ps[u]? = some x) : (lateF ps (u + 1)).set u x = lateF ps u := by
  obtain ⟨hu, rfl⟩ := List.getElem?_eq_some_iff.1 hx
  unfold lateF
  rw [List.replicate_succ', List.append_assoc, List.set_append, if_neg (by simp), List.length_replicate, Nat.sub_self, List.singleton_append, List.set_cons_zero, List.drop_eq_getElem_cons hu]

theorem PairAt.kept2 {w : World} {B C : Nat} {x y : Int} (h : PairAt w B x y) (hne : B ≠ C) (i j : Nat) (u v : Value) : PairAt ((w.setCell ⟨C, i, none⟩ u).setCell ⟨C, j, none⟩ v) B x y := by
  unfold PairAt at *
  rw [Below.heap_setCell _ _ _ _ (by exact hne), Below.heap_setCell _ _ _ _ (by exact hne)]
  exact h

/-- Up to v the ironed values are those of the lesser part. -/
def IronTo (xs : List Int) (v : Nat) : Prop := (ironed xs).take v = ironL xs v v
theorem IronTo.start (xs : List Int) : IronTo xs xs.length := by
  unfold IronTo; rw [List.take_of_length_le (by rw [ironed_len]; omega)]; rfl
theorem IronTo.step {xs : List Int} {v a : Nat} {s : Rat} (h : IronTo xs v) (h1 : 1 ≤ v) (ha : (steep xs v).1 = a) (hs : (steep xs v).2 = s) :
    IronTo xs a ∧ a < v ∧ ∀ u, a ≤ u → u < v → (ironed xs)[u]? = some s := by
  obtain ⟨a1, _⟩ := steep_is xs h1
  rw [ha] at a1
  have e : ironL xs v v = ironL xs (v - 1) a ++ List.replicate (v - a) s := by
    have := ironL_at (w := xs) (f := v - 1) h1
    rw [show v - 1 + 1 = v by omega, ha, hs] at this
    exact this
  have hlen := ironL_len xs (v - 1) a (by omega)
  unfold IronTo at h ⊢
  refine ⟨?_, a1, fun u hu hv => ?_⟩
  · have : (ironed xs).take a = ((ironed xs).take v).take a := by rw [List.take_take, Nat.min_eq_left (by omega)]
    rw [this, h, e, List.take_append_of_le_length (by omega), List.take_of_length_le (by omega)]
    exact ironL_fuel xs _ _ _ (by omega) (Nat.le_refl _)
  · have : (ironed xs)[u]? = ((ironed xs).take v)[u]? := by rw [List.getElem?_take_of_lt hv]
    rw [this, h, e, List.getElem?_append_right (by omega), hlen, List.getElem?_replicate, if_pos (by omega)]

def ironO (xs : List Int) : Option (List Rat) := if vW xs = true then some (ironed xs) else none

theorem steep_bd {xs : List Int} {v : Nat} {n d : Int} (hv : vW xs = true) (h1 : 1 ≤ v) (hl : v ≤ xs.length) (hq : FrIs (steep xs v).2 n d) : -216 ≤ n ∧ n ≤ 216 ∧ 1 ≤ d ∧ d ≤ 36 := by
  obtain ⟨a1, a2, _⟩ := steep_is xs h1
  rw [a2] at hq
  obtain ⟨_, _, h3⟩ := slope_parts hv a1 hl hq
  exact h3

end Go.Proofs.Ytnojlapjkdihmaa
