/-
  Chapter 1: the contracts of BestBid, of the model and of the program.
-/
import Derived.Test.YtcbhjcbbjegmiabGain
namespace Go.Proofs.Ytcbhjcbbjegmiab
open Go.RowKit

/-- What the bidder i gains by the bid b. -/
def gB (kd : Nat) (xs : List Int) (i : Nat) (v r : Int) (b : Nat) : Int := gainF kd (xs.set i b) i v r

theorem best_up {g : Nat → Int} {k : Nat} {p : Nat} {q q' : Int} (h : bestF g k = (p, q)) (hq : q' = g (k + 1)) (hlt : q < q') : bestF g (k + 1) = (k + 1, q') := by
  rw [bestF, h, if_pos (by rw [← hq]; exact hlt), hq]
theorem best_keep {g : Nat → Int} {k : Nat} {p : Nat} {q q' : Int} (h : bestF g k = (p, q)) (hq : q' = g (k + 1)) (hlt : ¬ q < q') : bestF g (k + 1) = (p, q) := by
  rw [bestF, h, if_neg (by rw [← hq]; exact hlt)]

theorem Sgain_is {q : Int} (s : ByteArray) (kd : Nat) (A : Option Addr) (c : Nat) (xs : List Int) (i : Nat) (v r : Int) (w : World) (hq : q = gainF kd xs i v r) (hk : KindIs s kd) (h : Rd w A c xs) (h1 : 1 ≤ xs.length) (hl : xs.length ≤ 1048576) (hi : i < xs.length)
    (hsm : Small xs) (hv0 : -2147483648 ≤ v) (hv1 : v ≤ 2147483647) (hr0 : -2147483648 ≤ r) (hr1 : r ≤ 2147483647) :
    Calls Try.prog 27 #[.string s, .slice A xs.length c, .int .i64 i, .int .i64 v, .int .i64 r] w fun e w' => e = .returned (.int .i64 q) ∧ Below w.heap.size w w' := by
  rw [hq]; exact Sgain_any s kd A c xs i v r w hk h h1 hl hi hsm hv0 hv1 hr0 hr1

theorem gainBy_is {q : Int} {n : Nat} (f : Value) (kd : Nat) (A : Option Addr) (c : Nat) (xs : List Int) (i : Nat) (v r : Int) (w : World) (hn : xs.length = n) (hq : q = gainF kd xs i v r) (hk : FnIs w f kd) (h : Rd w A c xs) (h1 : 1 ≤ n) (hl : n ≤ 1048576) (hi : i < n)
    (hsm : Small xs) (hv0 : -2147483648 ≤ v) (hv1 : v ≤ 2147483647) (hr0 : -2147483648 ≤ r) (hr1 : r ≤ 2147483647) :
    Calls Try.prog 35 #[f, .slice A n c, .int .i64 i, .int .i64 v, .int .i64 r] w fun e w' => e = .returned (.int .i64 q) ∧ Below w.heap.size w w' := by
  subst hn hq; exact gainBy_any f kd A c xs i v r w hk h h1 hl hi hsm hv0 hv1 hr0 hr1

/-- Three results: two numbers and a bool. -/
def ThreeIs (w : World) (m n : Int) (b : Bool) (e : Ending) (w' : World) : Prop := e = .returned (.tuple #[.int .i64 m, .int .i64 n, .bool b]) ∧ Below w.heap.size w w'
/-- Two numbers. -/
def PairIs (w : World) (m n : Int) (e : Ending) (w' : World) : Prop := e = .returned (.tuple #[.int .i64 m, .int .i64 n]) ∧ Below w.heap.size w w'

set_option maxHeartbeats 1000000 in
theorem bestUpTo_any (top : Nat) (f : Value) (kd : Nat) (b off c : Nat) (xs : List Int) (i : Nat) (v r : Int) (w : World) (ht : top ≤ 1048576) (hf : FnIs w f kd) (h : Rd w (some ⟨b, off, none⟩) c xs) (h1 : 1 ≤ xs.length) (hl : xs.length ≤ 1048576) (hi : i < xs.length)
    (hsm : Small xs) (hv0 : -2147483648 ≤ v) (hv1 : v ≤ 2147483647) (hr0 : -2147483648 ≤ r) (hr1 : r ≤ 2147483647) :
    Calls Try.prog 34 #[.int .i64 top, f, .slice (some ⟨b, off, none⟩) xs.length c, .int .i64 i, .int .i64 v, .int .i64 r] w (PairIs w (bestF (gB kd xs i v r) top).1 (bestF (gB kd xs i v r) top).2) := by
  have hl2 : xs.length ≤ 1099511627776 := by omega
  have HSM := Lib.hid hsm
  clear hsm
  obtain ⟨q0, hq0⟩ : ∃ q0, q0 = gB kd xs i v r 0 := ⟨_, rfl⟩
  have HQ0 := Lib.hid hq0
  clear hq0
  go_enter Try.func34, Try.ntmps34
  go_wp2_with fail
  refine (Clone_any _ _ _ _ _ h hl2).mono ?_
  rintro e w1 ⟨g, c1, rfl, o1, b1⟩
  obtain ⟨x, hx⟩ := at_some hi
  have hc := o1.cell hx
  have hfz := o1.free i
  have HO1 := Lib.hid (o1.set_ i 0)
  have b2 := b1.setCell o1.ge (p := ⟨g, i, none⟩) (.int .i64 0)
  clear hx
  go_wp2_with fail
  refine (gainBy_is f kd _ _ (xs.set i 0) i v r _ List.length_set HQ0.out (hf.below b2) HO1.out.rd h1 hl hi (HSM.out.set_ (by decide) (by decide)) hv0 hv1 hr0 hr1).mono ?_
  rintro e w2 ⟨rfl, b3⟩
  have o2 := HO1.out.below b3
  have B2 := b2.trans (b3.mono b2.size)
  clear o1 hc hfz b1 b2 b3 HO1
  go_wp2_with fail
  go_loopw [15, 16, 17] (fun p q t wr => ∃ (k pn : Nat) (qn : Int) (ys : List Int), 1 ≤ k ∧ k ≤ top + 1 ∧ t = .int .i64 k ∧ p = .int .i64 pn ∧ q = .int .i64 qn ∧ Own wr w.heap.size (some ⟨g, 0, none⟩) c1 ys ∧ Below w.heap.size w wr ∧ Hid (ButAt xs ys i) ∧ Hid (bestF (gB kd xs i v r) (k - 1) = (pn, qn)))
    (fun _ _ t _ => top + 1 - (intOf t).toNat)
  case atStart => exact ⟨1, 0, q0, xs.set i 0, Nat.le_refl _, by omega, rfl, rfl, rfl, o2, B2, Lib.hid ((ButAt.refl xs i).set_ (v := 0) rfl).1, Lib.hid (by rw [HQ0.out]; rfl)⟩
  case round =>
    obtain ⟨k, pn, qn, ys, hk1, hk, rfl, rfl, rfl, ho, hb, HB, HE⟩ := hrel
    by_cases hlt : k ≤ top
    · obtain ⟨zs, hZ⟩ : ∃ zs, zs = xs.set i k := ⟨_, rfl⟩
      obtain ⟨q, hq⟩ : ∃ q, q = gainF kd zs i v r := ⟨_, rfl⟩
      have hqk : q = gB kd xs i v r (k - 1 + 1) := by rw [hq, hZ, Nat.sub_add_cancel hk1]; rfl
      obtain ⟨hB2, hset⟩ := HB.out.set_ hZ
      have hiy : i < ys.length := by rw [HB.out.1]; exact hi
      obtain ⟨x, hx⟩ := at_some hiy
      have hc := ho.cell hx
      have hfz := ho.free i
      have ho2 := ho.set_ i k
      rw [hset] at ho2
      have hzs : Small zs := by rw [hZ]; exact HSM.out.set_ (by omega) (by omega)
      have HO := Lib.hid ho2
      have HB2 := Lib.hid hB2
      have HQ := Lib.hid hq
      have HQK := Lib.hid hqk
      have HZS := Lib.hid hzs
      have b2 := hb.setCell ho.ge (p := ⟨g, i, none⟩) (.int .i64 (k : Int))
      clear ho2 hB2 hZ hx hset hiy ho hq hqk hzs
      have hki : (k : Int) ≤ (top : Int) := by omega
      go_wp2_with fail
      refine (gainBy_is f kd _ _ zs i v r _ HB2.out.1 HQ.out (hf.below b2) HO.out.rd h1 hl hi HZS.out hv0 hv1 hr0 hr1).mono ?_
      rintro e w2 ⟨rfl, b3⟩
      have o3 := HO.out.below b3
      have B3 := b2.trans (b3.mono b2.size)
      by_cases hqq : qn < q
      · have HF : Hid (bestF (gB kd xs i v r) (k + 1 - 1) = (k, q)) := Lib.hid (by
          have := best_up HE.out HQK.out hqq
          rw [Nat.sub_add_cancel hk1] at this
          exact this)
        go_wp2
        go_roundw
        case rel => exact ⟨k + 1, k, q, zs, by omega, by omega, by go_num, rfl, rfl, o3, B3, HB2, HF⟩
        case measure => simp [intOf]; omega
      · have HF : Hid (bestF (gB kd xs i v r) (k + 1 - 1) = (pn, qn)) := Lib.hid (by
          have := best_keep HE.out HQK.out hqq
          rw [Nat.sub_add_cancel hk1] at this
          exact this)
        go_wp2
        go_roundw
        case rel => exact ⟨k + 1, pn, qn, zs, by omega, by omega, by go_num, rfl, rfl, o3, B3, HB2, HF⟩
        case measure => simp [intOf]; omega
    · obtain rfl : k = top + 1 := by omega
      have HF : Hid (bestF (gB kd xs i v r) top = (pn, qn)) := HE
      go_wp2
      go_ret2
      exact ⟨by rw [HF.out]; rfl, hb⟩

end Go.Proofs.Ytcbhjcbbjegmiab
