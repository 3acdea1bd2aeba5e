/-
  Chapter 1, the program: the contracts of nextBids, isTop and allRest.
-/
import Derived.Test.YtcbhjcbbjegmiaaRestB
namespace Go.Proofs.Ytcbhjcbbjegmiaa
open Go.RowKit

theorem grow_set (W : World) (g j : Nat) (v : Value) : W.grownBy (W.setCell ⟨g, j, none⟩ v) (some g) :=
  ⟨rfl, rfl, rfl, by show W.heap.size ≤ (W.heap.modify _ _).size; rw [Array.size_modify]; exact Nat.le_refl _, fun i _ hi => Below.heap_setCell W _ v i (fun e => hi (by rw [e]))⟩

/-- What nextBids does: the bids in their own block turned to those that follow. -/
def NextIn (w : World) (B g c : Nat) (xs : List Int) (top : Int) (e : Ending) (w' : World) : Prop :=
  (∃ zs, nextF xs top = some zs ∧ zs.length = xs.length ∧ e = .returned (.bool true) ∧ Own w' B (some ⟨g, 0, none⟩) c zs ∧ w.grownBy w' (some g)) ∨
  (nextF xs top = none ∧ e = .returned (.bool false) ∧ w.grownBy w' (some g))

set_option maxHeartbeats 800000 in
theorem nextBids_any (B g c : Nat) (xs : List Int) (top : Int) (w : World) (h : Own w B (some ⟨g, 0, none⟩) c xs) (hl : xs.length ≤ 1048576) (ht0 : 0 ≤ top) (ht1 : top ≤ 1048576) (hb : ∀ x ∈ xs, 0 ≤ x ∧ x ≤ top) :
    Calls Try.prog 75 #[.slice (some ⟨g, 0, none⟩) xs.length c, .int .i64 top] w (NextIn w B g c xs top) := by
  have HB := Lib.hid hb
  clear hb
  go_enter Try.func75, Try.ntmps75
  go_wp2
  go_loopw [5] (fun i wr => ∃ j : Nat, j ≤ xs.length ∧ i = .int .i64 ((j : Int) - 1) ∧ Own wr B (some ⟨g, 0, none⟩) c (tailed xs j) ∧ w.grownBy wr (some g) ∧ Hid (NextIs xs top j))
    (fun i _ => (intOf i + 1).toNat)
  case atStart => exact ⟨xs.length, Nat.le_refl _, rfl, by rw [tailed_all]; exact h, World.grownBy.refl _ _, Lib.hid (NextIs.start xs top)⟩
  case round =>
    obtain ⟨j, hj, rfl, hor, hbr, HN⟩ := hrel
    cases j with
    | zero =>
      have HE := Lib.hid HN.out.none_
      go_wp2
      go_ret
      exact .inr ⟨HE.out, rfl, hbr⟩
    | succ j =>
      have hjl : j < xs.length := by omega
      have e1 : (((j + 1 : Nat) : Int) - 1) = (j : Int) := by omega
      rw [e1]
      obtain ⟨x, hx⟩ := at_some hjl
      have hxb := HB.out x (List.mem_of_getElem? hx)
      have hx0 := hxb.1
      have hx1 := hxb.2
      have hc := hor.cell (tailed_at hx)
      have hf := hor.free j
      by_cases hlt : x < top
      · have HE := Lib.hid (HN.out.up hx hlt)
        have HS := Lib.hid (hor.set_ j (x + 1))
        have HL : Hid (((tailed xs (j + 1)).set j (x + 1)).length = xs.length) := Lib.hid (by rw [List.length_set, tailed_len xs (j + 1) hj])
        have HB2 := Lib.hid (hbr.trans (grow_set wr g j (.int .i64 (x + 1))))
        clear hx hxb hor e1
        go_wp2
        go_ret
        exact .inl ⟨_, HE.out, HL.out, rfl, HS.out, HB2.out⟩
      · have HE := Lib.hid (HN.out.down hx hlt)
        have HS : Hid (Own (wr.setCell ⟨g, j, none⟩ (.int .i64 0)) B (some ⟨g, 0, none⟩) c (tailed xs j)) := Lib.hid (by
          have := hor.set_ j 0
          rwa [tailed_zero hjl] at this)
        have HB2 := Lib.hid (hbr.trans (grow_set wr g j (.int .i64 0)))
        clear hx hxb hor e1
        go_wp2
        go_roundw
        case rel => exact ⟨j, by omega, rfl, HS.out, HB2.out, HE⟩
        case measure => simp [intOf]

theorem isTop_any (n : Int) (w : World) :
    Calls Try.prog 62 #[.int .i64 n] w fun e w' => e = .returned (.bool (inR n 0 5)) ∧ w = w' := by
  by_cases h1 : 0 ≤ n <;> by_cases h2 : n ≤ 5 <;>
  · go_enter Try.func62, Try.ntmps62
    go_wp2
    go_ret
    simp [inR, h1, h2]

theorem restF_bad2 {kd : Nat} {vs xs : List Int} {i T : Nat} {v now most : Int} (hi : i < xs.length) (hv : vs[i]? = some v) (hn : now = gainF kd xs i v 0) (hq : most = (bestF (gB kd xs i v 0) T).2) (hlt : now < most) : restF kd vs xs T = false := by
  refine range_bad hi ?_
  rw [restAt_best, getD_of hv, ← hn, ← hq, decide_eq_false_iff_not]
  omega
theorem restAt_good {kd : Nat} {vs xs : List Int} {i T : Nat} {v now most : Int} (hv : vs[i]? = some v) (hn : now = gainF kd xs i v 0) (hq : most = (bestF (gB kd xs i v 0) T).2) (hle : ¬ now < most) : restAt kd vs xs T i = true := by
  rw [restAt_best, getD_of hv, ← hn, ← hq, decide_eq_true_eq]
  omega
theorem bestUpTo_is {p q : Int} (top : Nat) (f : Value) (kd : Nat) (b off c : Nat) (xs : List Int) (i : Nat) (v r : Int) (w : World) (hp : p = (bestF (gB kd xs i v r) top).1) (hq : q = (bestF (gB kd xs i v r) top).2) (ht : top ≤ 1048576) (hf : FnIs w f kd) (h : Rd w (some ⟨b, off, none⟩) c xs) (h1 : 1 ≤ xs.length) (hl : xs.length ≤ 1048576) (hi : i < xs.length)
    (hsm : Small xs) (hv0 : -2147483648 ≤ v) (hv1 : v ≤ 2147483647) (hr0 : -2147483648 ≤ r) (hr1 : r ≤ 2147483647) :
    Calls Try.prog 61 #[.int .i64 top, f, .slice (some ⟨b, off, none⟩) xs.length c, .int .i64 i, .int .i64 v, .int .i64 r] w (PairIs w p q) := by
  rw [hp, hq]; exact bestUpTo_any top f kd b off c xs i v r w ht hf h h1 hl hi hsm hv0 hv1 hr0 hr1

set_option maxHeartbeats 1000000 in
theorem allRest_any (f : Value) (kd : Nat) (bv offv cv b off c : Nat) (vs xs : List Int) (top : Nat) (w : World) (hf : FnIs w f kd) (hv : Rd w (some ⟨bv, offv, none⟩) cv vs) (hvl : vs.length = xs.length) (h : Rd w (some ⟨b, off, none⟩) c xs) (h1 : 1 ≤ xs.length) (hl : xs.length ≤ 1048576) (ht : top ≤ 1048576) (hsm : Small xs) (hsv : Small vs) :
    Calls Try.prog 64 #[.int .i64 top, f, .slice (some ⟨b, off, none⟩) xs.length c, .slice (some ⟨bv, offv, none⟩) vs.length cv] w fun e w' => e = .returned (.bool (restF kd vs xs top)) ∧ Below w.heap.size w w' := by
  have HSM := Lib.hid hsm
  have HSV := Lib.hid hsv
  have HVL := Lib.hid hvl
  have hvl2 : vs.length ≤ 1048576 := by omega
  clear hsm hsv hvl
  go_enter Try.func64, Try.ntmps64
  go_wp2
  go_loopw [9, 10, 11, 12, 15] (fun _ _ _ _ i wr => ∃ k : Nat, k ≤ vs.length ∧ i = .int .i64 k ∧ Below w.heap.size w wr ∧ Hid (RestTo kd vs xs top k))
    (fun _ _ _ _ i _ => vs.length - (intOf i).toNat)
  case atStart => exact ⟨0, Nat.zero_le _, rfl, Below.refl _ _, Lib.hid rfl⟩
  case round =>
    obtain ⟨k, hkl, rfl, hb, HE⟩ := hrel
    by_cases hlt : k < vs.length
    · have hkx : k < xs.length := by have := HVL.out; omega
      obtain ⟨v, hvv⟩ := at_some (xs := vs) (k := k) hlt
      have hvs := HSV.out.at_ hvv
      have hv0 := hvs.1
      have hv1 := hvs.2
      have hx := h.below hb
      have hcv := (hv.below hb).cell hvv
      obtain ⟨now, hn⟩ : ∃ now, now = gainF kd xs k v 0 := ⟨_, rfl⟩
      obtain ⟨p, hp⟩ : ∃ p : Int, p = (bestF (gB kd xs k v 0) top).1 := ⟨_, rfl⟩
      obtain ⟨most, hq⟩ : ∃ q, q = (bestF (gB kd xs k v 0) top).2 := ⟨_, rfl⟩
      have HV := Lib.hid hvv
      have HN := Lib.hid hn
      have HP := Lib.hid hp
      have HQ := Lib.hid hq
      clear hvv hvs hn hp hq
      go_wp2_with fail
      refine (bestUpTo_is top f kd _ _ _ xs k v 0 _ HP.out HQ.out ht (hf.below hb) hx h1 hl hkx HSM.out hv0 hv1 (by decide) (by decide)).mono ?_
      rintro e w1 ⟨rfl, b1⟩
      have B1 := hb.trans (b1.mono hb.size)
      have hx1 := h.below B1
      clear hx hcv
      go_wp2_with fail
      refine (gainBy_is f kd _ _ xs k v 0 _ rfl HN.out (hf.below B1) hx1 h1 hl hkx HSM.out hv0 hv1 (by decide) (by decide)).mono ?_
      rintro e w2 ⟨rfl, b2⟩
      have B2 := B1.trans (b2.mono B1.size)
      by_cases hqq : now < most
      · have HF := Lib.hid (restF_bad2 hkx HV.out HN.out HQ.out hqq)
        go_wp2
        go_ret
        exact ⟨by rw [HF.out]; rfl, B2⟩
      · have HA := Lib.hid (HE.out.up (restAt_good HV.out HN.out HQ.out hqq))
        go_wp2
        go_roundw
        case rel => exact ⟨k + 1, by omega, by go_num, B2, HA⟩
        case measure => simp [intOf]; omega
    · obtain rfl : k = vs.length := by omega
      have HF : Hid (restF kd vs xs top = true) := Lib.hid (by unfold restF; rw [← HVL.out]; exact HE.out)
      go_wp2
      go_ret
      exact ⟨by rw [HF.out]; rfl, hb⟩

end Go.Proofs.Ytcbhjcbbjegmiaa
