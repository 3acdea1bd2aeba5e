/-
  Chapter 1, the model: the contracts of honest and calm.
-/
import Derived.Test.YtnojlapjkdihmaaG12
import Derived.Test.YtnojlapjkdihmaaG14
namespace Go.Proofs.Ytnojlapjkdihmaa
open Go.RowKit

theorem Rd.cell {w : World} {b off c : Nat} {zs : List Int} (h : Rd w (some ⟨b, off, none⟩) c zs) {k : Nat} {x : Int} (hx : zs[k]? = some x) : w.cell? ⟨b, off + k, none⟩ = some (.int .i64 x) := by
  obtain ⟨b', off', e, hc⟩ := h.open_ (by have := (List.getElem?_eq_some_iff.1 hx).1; omega)
  injection e with e
  injection e with e1 e2
  subst e1 e2
  exact hc k x hx

/-- Of the bids up to m none is better. -/
def AllLow (kd : Nat) (xs : List Int) (i : Nat) (v now : Int) (m : Nat) : Prop := (List.range m).all (fun b => decide (gB kd xs i v 0 b ≤ now)) = true
theorem AllLow.zero (kd : Nat) (xs : List Int) (i : Nat) (v now : Int) : AllLow kd xs i v now 0 := rfl
theorem AllLow.up {kd : Nat} {xs : List Int} {i : Nat} {v now q : Int} {m : Nat} (h : AllLow kd xs i v now m) (hq : q = gB kd xs i v 0 m) (hle : ¬ now < q) : AllLow kd xs i v now (m + 1) :=
  range_step h (by rw [decide_eq_true_eq, ← hq]; omega)
theorem AllLow.done {kd : Nat} {vs xs : List Int} {i T : Nat} {v now : Int} (h : AllLow kd xs i v now (T + 1)) (hv : vs[i]? = some v) (hn : now = gainF kd xs i v 0) : restAt kd vs xs T i = true := by
  unfold restAt
  rw [getD_of hv, ← hn]
  exact h
theorem restF_bad {kd : Nat} {vs xs : List Int} {i T m : Nat} {v now q : Int} (hi : i < xs.length) (hm : m < T + 1) (hv : vs[i]? = some v) (hn : now = gainF kd xs i v 0) (hq : q = gB kd xs i v 0 m) (hlt : now < q) : restF kd vs xs T = false := by
  refine range_bad hi (range_bad hm ?_)
  rw [getD_of hv, ← hn, decide_eq_false_iff_not, ← hq]
  omega
/-- Of the first k all rest. -/
def RestTo (kd : Nat) (vs xs : List Int) (T k : Nat) : Prop := (List.range k).all (restAt kd vs xs T) = true
theorem RestTo.up {kd : Nat} {vs xs : List Int} {T k : Nat} (h : RestTo kd vs xs T k) (hr : restAt kd vs xs T k = true) : RestTo kd vs xs T (k + 1) := range_step h hr

end Go.Proofs.Ytnojlapjkdihmaa

/-
  The program: the contract of the step from one list of numbers to the next.
-/
namespace Go.Proofs.Ytnojlapjkdihmaa
open Go.RowKit

theorem grow_set (W : World) (g j : Nat) (v : Value) : W.grownBy (W.setCell ⟨g, j, none⟩ v) (some g) :=
  ⟨rfl, rfl, rfl, by show W.heap.size ≤ (W.heap.modify _ _).size; rw [Array.size_modify]; exact Nat.le_refl _, fun i _ hi => Below.heap_setCell W _ v i (fun e => hi (by rw [e]))⟩

/-- What nextBids does: the bids in their own block turned to those that follow. -/
def NextIn (w : World) (B g c : Nat) (xs : List Int) (top : Int) (e : Ending) (w' : World) : Prop :=
  (∃ zs, nextF xs top = some zs ∧ zs.length = xs.length ∧ e = .returned (.bool true) ∧ Own w' B (some ⟨g, 0, none⟩) c zs ∧ w.grownBy w' (some g)) ∨
  (nextF xs top = none ∧ e = .returned (.bool false) ∧ w.grownBy w' (some g))

set_option maxHeartbeats 800000 in
theorem nextBids_any (B g c : Nat) (xs : List Int) (top : Int) (w : World) (h : Own w B (some ⟨g, 0, none⟩) c xs) (hl : xs.length ≤ 1048576) (ht0 : 0 ≤ top) (ht1 : top ≤ 1048576) (hb : ∀ x ∈ xs, 0 ≤ x ∧ x ≤ top) :
    Calls Try.prog 158 #[.slice (some ⟨g, 0, none⟩) xs.length c, .int .i64 top] w (NextIn w B g c xs top) := by
  have HB := Lib.hid hb
  clear hb
  go_enter Try.func158, Try.ntmps158
  go_wp2
  go_loopw [5] (fun i wr => ∃ j : Nat, j ≤ xs.length ∧ i = .int .i64 ((j : Int) - 1) ∧ Own wr B (some ⟨g, 0, none⟩) c (tailed xs j) ∧ w.grownBy wr (some g) ∧ Hid (NextIs xs top j))
    (fun i _ => (intOf i + 1).toNat)
  case atStart => exact ⟨xs.length, Nat.le_refl _, rfl, by rw [tailed_all]; exact h, World.grownBy.refl _ _, Lib.hid (NextIs.start xs top)⟩
  case round =>
    obtain ⟨j, hj, rfl, hor, hbr, HN⟩ := hrel
    cases j with
    | zero =>
      have HE := Lib.hid HN.out.none_
      go_wp2
      go_ret
      exact .inr ⟨HE.out, rfl, hbr⟩
    | succ j =>
      have hjl : j < xs.length := by omega
      have e1 : (((j + 1 : Nat) : Int) - 1) = (j : Int) := by omega
      rw [e1]
      obtain ⟨x, hx⟩ := at_some hjl
      have hxb := HB.out x (List.mem_of_getElem? hx)
      have hx0 := hxb.1
      have hx1 := hxb.2
      have hc := hor.cell (tailed_at hx)
      have hf := hor.free j
      by_cases hlt : x < top
      · have HE := Lib.hid (HN.out.up hx hlt)
        have HS := Lib.hid (hor.set_ j (x + 1))
        have HL : Hid (((tailed xs (j + 1)).set j (x + 1)).length = xs.length) := Lib.hid (by rw [List.length_set, tailed_len xs (j + 1) hj])
        have HB2 := Lib.hid (hbr.trans (grow_set wr g j (.int .i64 (x + 1))))
        clear hx hxb hor e1
        go_wp2
        go_ret
        exact .inl ⟨_, HE.out, HL.out, rfl, HS.out, HB2.out⟩
      · have HE := Lib.hid (HN.out.down hx hlt)
        have HS : Hid (Own (wr.setCell ⟨g, j, none⟩ (.int .i64 0)) B (some ⟨g, 0, none⟩) c (tailed xs j)) := Lib.hid (by
          have := hor.set_ j 0
          rwa [tailed_zero hjl] at this)
        have HB2 := Lib.hid (hbr.trans (grow_set wr g j (.int .i64 0)))
        clear hx hxb hor e1
        go_wp2
        go_roundw
        case rel => exact ⟨j, by omega, rfl, HS.out, HB2.out, HE⟩
        case measure => simp [intOf]


end Go.Proofs.Ytnojlapjkdihmaa

/-
  Chapter 1, the program: the contracts of nextBids, isTop and allRest.
-/
namespace Go.Proofs.Ytnojlapjkdihmaa
open Go.RowKit

theorem restF_bad2 {kd : Nat} {vs xs : List Int} {i T : Nat} {v now most : Int} (hi : i < xs.length) (hv : vs[i]? = some v) (hn : now = gainF kd xs i v 0) (hq : most = (bestF (gB kd xs i v 0) T).2) (hlt : now < most) : restF kd vs xs T = false := by
  refine range_bad hi ?_
  rw [restAt_best, getD_of hv, ← hn, ← hq, decide_eq_false_iff_not]
  omega
theorem restAt_good {kd : Nat} {vs xs : List Int} {i T : Nat} {v now most : Int} (hv : vs[i]? = some v) (hn : now = gainF kd xs i v 0) (hq : most = (bestF (gB kd xs i v 0) T).2) (hle : ¬ now < most) : restAt kd vs xs T i = true := by
  rw [restAt_best, getD_of hv, ← hn, ← hq, decide_eq_true_eq]
  omega
end Go.Proofs.Ytnojlapjkdihmaa

/-
  Chapter 1, the model: the contract of IsTrue.
-/
namespace Go.Proofs.Ytnojlapjkdihmaa
open Go.RowKit

/-- Whether by the kind no bid is better than the value, at any bids. -/
def isTrueF (kd n top : Nat) : Bool := (allF top (List.replicate n 0)).all (fun b => restF kd b b (top + 1))
theorem Fit.small {top n : Nat} {ys : List Int} (h : Fit top n ys) (ht : top ≤ 1048576) : Small ys := fun x hx => by have := h.2 x hx; omega

end Go.Proofs.Ytnojlapjkdihmaa
