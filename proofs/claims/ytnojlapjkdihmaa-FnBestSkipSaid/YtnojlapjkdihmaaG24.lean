/-
  The program: the contract of the step from one list of numbers to the next.
-/
import Derived.Test.YtnojlapjkdihmaaG14
import Derived.Test.YtnojlapjkdihmaaRestB
namespace Go.Proofs.Ytnojlapjkdihmaa
open Go.RowKit

theorem grow_set (W : World) (g j : Nat) (v : Value) : W.grownBy (W.setCell ⟨g, j, none⟩ v) (some g) :=
  ⟨rfl, rfl, rfl, by show W.heap.size ≤ (W.heap.modify _ _).size; rw [Array.size_modify]; exact Nat.le_refl _, fun i _ hi => Below.heap_setCell W _ v i (fun e => hi (by rw [e]))⟩

/-- What nextBids does: the bids in their own block turned to those that follow. -/
def NextIn (w : World) (B g c : Nat) (xs : List Int) (top : Int) (e : Ending) (w' : World) : Prop :=
  (∃ zs, nextF xs top = some zs ∧ zs.length = xs.length ∧ e = .returned (.bool true) ∧ Own w' B (some ⟨g, 0, none⟩) c zs ∧ w.grownBy w' (some g)) ∨
  (nextF xs top = none ∧ e = .returned (.bool false) ∧ w.grownBy w' (some g))

set_option maxHeartbeats 800000 in
theorem nextBids_any (B g c : Nat) (xs : List Int) (top : Int) (w : World) (h : Own w B (some ⟨g, 0, none⟩) c xs) (hl : xs.length ≤ 1048576) (ht0 : 0 ≤ top) (ht1 : top ≤ 1048576) (hb : ∀ x ∈ xs, 0 ≤ x ∧ x ≤ top) :
    Calls Try.prog 158 #[.slice (some ⟨g, 0, none⟩) xs.length c, .int .i64 top] w (NextIn w B g c xs top) := by
  have HB := Lib.hid hb
  clear hb
  go_enter Try.func158, Try.ntmps158
  go_wp2
  go_loopw [5] (fun i wr => ∃ j : Nat, j ≤ xs.length ∧ i = .int .i64 ((j : Int) - 1) ∧ Own wr B (some ⟨g, 0, none⟩) c (tailed xs j) ∧ w.grownBy wr (some g) ∧ Hid (NextIs xs top j))
    (fun i _ => (intOf i + 1).toNat)
  case atStart => exact ⟨xs.length, Nat.le_refl _, rfl, by rw [tailed_all]; exact h, World.grownBy.refl _ _, Lib.hid (NextIs.start xs top)⟩
  case round =>
    obtain ⟨j, hj, rfl, hor, hbr, HN⟩ := hrel
    cases j with
    | zero =>
      have HE := Lib.hid HN.out.none_
      go_wp2
      go_ret
      exact .inr ⟨HE.out, rfl, hbr⟩
    | succ j =>
      have hjl : j < xs.length := by omega
      have e1 : (((j + 1 : Nat) : Int) - 1) = (j : Int) := by omega
      rw [e1]
      obtain ⟨x, hx⟩ := at_some hjl
      have hxb := HB.out x (List.mem_of_getElem? hx)
      have hx0 := hxb.1
      have hx1 := hxb.2
      have hc := hor.cell (tailed_at hx)
      have hf := hor.free j
      by_cases hlt : x < top
      · have HE := Lib.hid (HN.out.up hx hlt)
        have HS := Lib.hid (hor.set_ j (x + 1))
        have HL : Hid (((tailed xs (j + 1)).set j (x + 1)).length = xs.length) := Lib.hid (by rw [List.length_set, tailed_len xs (j + 1) hj])
        have HB2 := Lib.hid (hbr.trans (grow_set wr g j (.int .i64 (x + 1))))
        clear hx hxb hor e1
        go_wp2
        go_ret
        exact .inl ⟨_, HE.out, HL.out, rfl, HS.out, HB2.out⟩
      · have HE := Lib.hid (HN.out.down hx hlt)
        have HS : Hid (Own (wr.setCell ⟨g, j, none⟩ (.int .i64 0)) B (some ⟨g, 0, none⟩) c (tailed xs j)) := Lib.hid (by
          have := hor.set_ j 0
          rwa [tailed_zero hjl] at this)
        have HB2 := Lib.hid (hbr.trans (grow_set wr g j (.int .i64 0)))
        clear hx hxb hor e1
        go_wp2
        go_roundw
        case rel => exact ⟨j, by omega, rfl, HS.out, HB2.out, HE⟩
        case measure => simp [intOf]


end Go.Proofs.Ytnojlapjkdihmaa

/-
  Chapter 1, the program: the contracts of nextBids, isTop and allRest.
-/
namespace Go.Proofs.Ytnojlapjkdihmaa
open Go.RowKit

theorem restF_bad2 {kd : Nat} {vs xs : List Int} {i T : Nat} {v now most : Int} (hi : i < xs.length) (hv : vs[i]? = some v) (hn : now = gainF kd xs i v 0) (hq : most = (bestF (gB kd xs i v 0) T).2) (hlt : now < most) : restF kd vs xs T = false := by
  refine range_bad hi ?_
  rw [restAt_best, getD_of hv, ← hn, ← hq, decide_eq_false_iff_not]
  omega
theorem restAt_good {kd : Nat} {vs xs : List Int} {i T : Nat} {v now most : Int} (hv : vs[i]? = some v) (hn : now = gainF kd xs i v 0) (hq : most = (bestF (gB kd xs i v 0) T).2) (hle : ¬ now < most) : restAt kd vs xs T i = true := by
  rw [restAt_best, getD_of hv, ← hn, ← hq, decide_eq_true_eq]
  omega
end Go.Proofs.Ytnojlapjkdihmaa

/-
  Chapter 1, the model: the contract of IsTrue.
-/
namespace Go.Proofs.Ytnojlapjkdihmaa
open Go.RowKit

/-- Whether by the kind no bid is better than the value, at any bids. -/
def isTrueF (kd n top : Nat) : Bool := (allF top (List.replicate n 0)).all (fun b => restF kd b b (top + 1))
theorem Fit.small {top n : Nat} {ys : List Int} (h : Fit top n ys) (ht : top ≤ 1048576) : Small ys := fun x hx => by have := h.2 x hx; omega

end Go.Proofs.Ytnojlapjkdihmaa
