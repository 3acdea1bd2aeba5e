/-
  Chapter 1: the contracts of LeastToWin, of the model and of the program.
-/
import Derived.Test.YtoipjhdnmiomeaaImplD
namespace Go.Proofs.Ytoipjhdnmiomeaa
open Go.RowKit

/-- Two results, a number and a bool. -/
def TwoIs (w : World) (n : Int) (b : Bool) (e : Ending) (w' : World) : Prop := e = .returned (.tuple #[.int .i64 n, .bool b]) ∧ Below w.heap.size w w'

theorem withBid_is {ys : List Int} (A : Option Addr) (c : Nat) (xs : List Int) (i : Nat) (bid : Int) (w : World) (hy : ys = xs.set i bid) (h : Rd w A c xs) (hi : i < xs.length) (hl : xs.length ≤ 1099511627776) :
    Calls Try.prog 92 #[.slice A xs.length c, .int .i64 i, .int .i64 bid] w (OutIs w ys) := by
  rw [hy]; exact withBid_any A c xs i bid w h hi hl

theorem winnerOf_n {n : Nat} {a : Int} (A : Option Addr) (c : Nat) (xs : List Int) (r : Int) (w : World) (hn : xs.length = n) (ha : a = atOf xs r) (h : Rd w A c xs) (h1 : 1 ≤ n) (hl : n ≤ 1099511627776) :
    Calls Try.prog 63 #[.slice A n c, .int .i64 r] w fun e w' => e = .returned (.int .i64 a) ∧ w = w' := by
  subst hn ha; exact winnerOf_any A c xs r w h h1 hl

/-- The sale at another letter for who has the thing. -/
theorem sale_is {a : Int} (s : ByteArray) (kd : Nat) (A : Option Addr) (c : Nat) (xs : List Int) (r : Int) (w : World) (ha : a = atOf xs r) (hk : KindIs s kd) (h : Rd w A c xs) (h1 : 1 ≤ xs.length) (hl : xs.length ≤ 1048576) :
    Calls Try.prog 69 #[.string s, .slice A xs.length c, .int .i64 r] w fun e w' =>
      ∃ g c', e = .returned (.tuple #[.int .i64 a, .slice (some ⟨g, 0, none⟩) xs.length c']) ∧ Own w' w.heap.size (some ⟨g, 0, none⟩) c' (payOf kd xs r) ∧ Below w.heap.size w w' := by
  rw [ha]; exact sale_any s kd A c xs r w hk h h1 hl

theorem winB_yes {xs : List Int} {i : Nat} {r a : Int} {b : Nat} {ys : List Int} (hy : ys = xs.set i b) (ha : a = atOf ys r) (h : a = (i : Int)) : winB xs i r b = true := by
  unfold winB; rw [← hy, ← ha]; simpa using h
theorem winB_no {xs : List Int} {i : Nat} {r a : Int} {b : Nat} {ys : List Int} (hy : ys = xs.set i b) (ha : a = atOf ys r) (h : a ≠ (i : Int)) : winB xs i r b = false := by
  unfold winB; rw [← hy, ← ha]; simpa using h

theorem wB_le {xs : List Int} {i : Int} (h : wB xs i = true) : vB xs = true ∧ 0 ≤ i ∧ i < xs.length ∧ 1 ≤ xs.length ∧ xs.length ≤ 6 := by
  simp only [wB, Bool.and_eq_true, inR_true] at h
  have := vB_le h.1
  exact ⟨h.1, by omega, by omega, this.1, this.2⟩
theorem wB_yes {xs : List Int} {i : Int} (hv : vB xs = true) (h0 : 0 ≤ i) (h1 : i < xs.length) : wB xs i = true := by
  simp only [wB, hv, Bool.true_and, inR_true]; omega
theorem wB_bad {xs : List Int} {i : Int} (hv : vB xs = false) : wB xs i = false := by simp only [wB, hv, Bool.false_and]
theorem wB_out {xs : List Int} {i : Int} (h : ¬ (0 ≤ i ∧ i < xs.length)) : wB xs i = false := by
  rw [wB]
  have : inR i 0 (xs.length - 1) = false := inR_false.2 (by omega)
  rw [this, Bool.and_false]

theorem isBidder_any (A : Option Addr) (c : Nat) (xs : List Int) (i : Int) (w : World) (h : Rd w A c xs) (hl : xs.length ≤ 1048576) :
    Calls Try.prog 87 #[.slice A xs.length c, .int .i64 i] w fun e w' => e = .returned (.bool (wB xs i)) ∧ w = w' := by
  have hl2 : xs.length ≤ 1099511627776 := by omega
  cases hv : vB xs with
  | false =>
    have HE := Lib.hid (wB_bad (i := i) hv)
    go_enter Try.func87, Try.ntmps87
    go_wp2_with fail
    refine (ValidBids_any _ _ _ _ h hl2).mono ?_
    rw [hv]
    clear hv
    rintro e w1 ⟨rfl, rfl⟩
    go_wp2
    go_ret
    exact ⟨by rw [HE.out]; rfl, rfl⟩
  | true =>
    by_cases h0 : 0 ≤ i
    · by_cases h1 : i < xs.length
      · have HE := Lib.hid (wB_yes hv h0 h1)
        go_enter Try.func87, Try.ntmps87
        go_wp2_with fail
        refine (ValidBids_any _ _ _ _ h hl2).mono ?_
        rw [hv]
        clear hv
        rintro e w1 ⟨rfl, rfl⟩
        go_wp2
        go_ret
        exact ⟨by rw [HE.out]; rfl, rfl⟩
      · have HE := Lib.hid (wB_out (xs := xs) (i := i) (by omega))
        have hd : decide (i < (xs.length : Int)) = false := by simpa using h1
        go_enter Try.func87, Try.ntmps87
        go_wp2_with fail
        refine (ValidBids_any _ _ _ _ h hl2).mono ?_
        rw [hv]
        clear hv
        rintro e w1 ⟨rfl, rfl⟩
        go_wp2
        go_ret
        exact ⟨by rw [HE.out]; rfl, rfl⟩
    · have HE := Lib.hid (wB_out (xs := xs) (i := i) (by omega))
      go_enter Try.func87, Try.ntmps87
      go_wp2_with fail
      refine (ValidBids_any _ _ _ _ h hl2).mono ?_
      rw [hv]
      clear hv
      rintro e w1 ⟨rfl, rfl⟩
      go_wp2
      go_ret
      exact ⟨by rw [HE.out]; rfl, rfl⟩

/-- ys is xs but for the place i. -/
def ButAt (xs ys : List Int) (i : Nat) : Prop := ys.length = xs.length ∧ ∀ v, ys.set i v = xs.set i v
theorem ButAt.refl (xs : List Int) (i : Nat) : ButAt xs xs i := ⟨rfl, fun _ => rfl⟩
theorem ButAt.set_ {xs ys zs : List Int} {i : Nat} {v : Int} (h : ButAt xs ys i) (hz : zs = xs.set i v) : ButAt xs zs i ∧ ys.set i v = zs := by
  subst hz
  exact ⟨⟨List.length_set, fun u => List.set_set _⟩, h.2 v⟩

set_option maxHeartbeats 1000000 in
theorem Least_yes (A : Option Addr) (c : Nat) (xs : List Int) (i : Nat) (r : Int) (w : World) (h : Rd w A c xs) (hw : wB xs i = true) (hr : inR r 0 30 = true) (hl : xs.length ≤ 1048576) (hi : i < xs.length) :
    Calls Try.prog 64 #[.slice A xs.length c, .int .i64 i, .int .i64 r] w (TwoIs w (optN (leastF xs i r)) (leastF xs i r).isSome) := by
  have HW := Lib.hid hw
  have HR := Lib.hid hr
  have hl2 : xs.length ≤ 1099511627776 := by omega
  have h1 : 1 ≤ xs.length := by omega
  clear hw hr
  obtain ⟨b, off, rfl, _⟩ := h.open_ h1
  go_enter Try.func64, Try.ntmps64
  go_wp2_with fail
  refine (isBidder_any _ _ _ _ _ h hl).mono ?_
  rw [HW.out]
  rintro e w1 ⟨rfl, rfl⟩
  go_wp2_with fail
  refine (isBid_any _ _).mono ?_
  rw [HR.out]
  rintro e w1 ⟨rfl, rfl⟩
  go_wp2_with fail
  refine (Clone_any _ _ _ _ _ h hl2).mono ?_
  rintro e w1 ⟨g, c1, rfl, o1, b1⟩
  go_wp2_with fail
  go_loopw [21] (fun q wr => ∃ (k : Nat) (ys : List Int), k ≤ 31 ∧ q = .int .i64 k ∧ Own wr w.heap.size (some ⟨g, 0, none⟩) c1 ys ∧ Below w.heap.size w wr ∧ Hid (ButAt xs ys i) ∧ Hid (leastF xs i r = findF (winB xs i r) (31 - k) k))
    (fun q _ => 31 - (intOf q).toNat)
  case atStart => exact ⟨0, xs, by omega, rfl, o1, b1, Lib.hid (ButAt.refl _ _), Lib.hid rfl⟩
  case round =>
    obtain ⟨k, ys, hk, rfl, ho, hb, HB, HE⟩ := hrel
    by_cases hlt : k < 31
    · obtain ⟨zs, hZ⟩ : ∃ zs, zs = xs.set i k := ⟨_, rfl⟩
      obtain ⟨a, hA⟩ : ∃ a, a = atOf zs r := ⟨_, rfl⟩
      obtain ⟨hB2, hset⟩ := HB.out.set_ hZ
      have hiy : i < ys.length := by rw [HB.out.1]; exact hi
      obtain ⟨x, hx⟩ := at_some hiy
      have hc := ho.cell hx
      have hf := ho.free i
      have ho2 := ho.set_ i k
      rw [hset] at ho2
      have HO := Lib.hid ho2
      have HB2 := Lib.hid hB2
      have HZ := Lib.hid hZ
      have HA := Lib.hid hA
      have b2 := hb.setCell ho.ge (p := ⟨g, i, none⟩) (.int .i64 (k : Int))
      clear ho2 hB2 hZ hA hx hset hiy ho
      go_wp2_with fail
      refine (winnerOf_n _ _ zs _ _ HB2.out.1 HA.out HO.out.rd h1 hl2).mono ?_
      rintro e w2 ⟨rfl, rfl⟩
      by_cases hai : a = (i : Int)
      · have HF : Hid (leastF xs i r = some k) := Lib.hid (by rw [HE.out, show 31 - k = (30 - k) + 1 by omega, findF_yes (winB_yes HZ.out HA.out hai)])
        have he : (a == (i : Int)) = true := by simpa using hai
        clear hai
        go_wp2
        go_ret2
        exact ⟨by rw [HF.out]; rfl, b2⟩
      · have HF : Hid (leastF xs i r = findF (winB xs i r) (31 - (k + 1)) (k + 1)) := Lib.hid (by rw [HE.out, show 31 - k = (31 - (k + 1)) + 1 by omega, findF_no (winB_no HZ.out HA.out hai)])
        have he : (a == (i : Int)) = false := by simpa using hai
        clear hai
        go_wp2
        go_roundw
        case rel => exact ⟨k + 1, zs, by omega, by go_num, HO.out, b2, HB2, HF⟩
        case measure => simp [intOf]; omega
    · obtain rfl : k = 31 := by omega
      have HF : Hid (leastF xs i r = none) := Lib.hid (by rw [HE.out]; rfl)
      go_wp2
      go_ret2
      exact ⟨by rw [HF.out]; rfl, hb⟩

theorem Least_no {vb rb : Bool} (A : Option Addr) (c : Nat) (xs : List Int) (i r : Int) (w : World) (h : Rd w A c xs) (hl : xs.length ≤ 1048576) (hw : wB xs i = vb) (hr : inR r 0 30 = rb) (hno : (vb && rb) = false) :
    Calls Try.prog 64 #[.slice A xs.length c, .int .i64 i, .int .i64 r] w (TwoIs w 0 false) := by
  have HV := Lib.hid ((isBidder_any A c xs i w h hl).mono (R' := fun e w' => e = .returned (.bool vb) ∧ w = w') (by rw [hw]; exact fun _ _ h => h))
  have HR := Lib.hid ((isBid_any r w).mono (R' := fun e w' => e = .returned (.bool rb) ∧ w = w') (by rw [hr]; exact fun _ _ h => h))
  clear hw hr h
  cases vb <;> cases rb <;> first
    | (exact absurd hno (by decide))
    | (clear hno
       go_enter Try.func64, Try.ntmps64
       go_wp2_with (first
         | (go_at_call 87; refine HV.out.mono ?_; rintro e w1 ⟨rfl, rfl⟩)
         | (go_at_call 88; refine HR.out.mono ?_; rintro e w1 ⟨rfl, rfl⟩))
       go_ret2
       exact ⟨rfl, Below.refl _ _⟩)

end Go.Proofs.Ytoipjhdnmiomeaa
