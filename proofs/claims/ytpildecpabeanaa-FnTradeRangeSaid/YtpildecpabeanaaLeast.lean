/-
  Chapter 1: the contracts of LeastToWin, of the model and of the program.
-/
import Derived.Test.YtpildecpabeanaaImplD
namespace Go.Proofs.Ytpildecpabeanaa
open Go.RowKit

/-- Two results, a number and a bool. -/
def TwoIs (w : World) (n : Int) (b : Bool) (e : Ending) (w' : World) : Prop := e = .returned (.tuple #[.int .i64 n, .bool b]) ∧ Below w.heap.size w w'

theorem withBid_is {ys : List Int} (A : Option Addr) (c : Nat) (xs : List Int) (i : Nat) (bid : Int) (w : World) (hy : ys = xs.set i bid) (h : Rd w A c xs) (hi : i < xs.length) (hl : xs.length ≤ 1099511627776) :
    Calls Try.prog 70 #[.slice A xs.length c, .int .i64 i, .int .i64 bid] w (OutIs w ys) := by
  rw [hy]; exact withBid_any A c xs i bid w h hi hl

theorem winB_yes {xs : List Int} {i : Nat} {r a : Int} {b : Nat} {ys : List Int} (hy : ys = xs.set i b) (ha : a = atOf ys r) (h : a = (i : Int)) : winB xs i r b = true := by
  unfold winB; rw [← hy, ← ha]; simpa using h
theorem winB_no {xs : List Int} {i : Nat} {r a : Int} {b : Nat} {ys : List Int} (hy : ys = xs.set i b) (ha : a = atOf ys r) (h : a ≠ (i : Int)) : winB xs i r b = false := by
  unfold winB; rw [← hy, ← ha]; simpa using h

theorem wB_le {xs : List Int} {i : Int} (h : wB xs i = true) : vB xs = true ∧ 0 ≤ i ∧ i < xs.length ∧ 1 ≤ xs.length ∧ xs.length ≤ 6 := by
  simp only [wB, Bool.and_eq_true, inR_true] at h
  have := vB_le h.1
  exact ⟨h.1, by omega, by omega, this.1, this.2⟩
theorem wB_yes {xs : List Int} {i : Int} (hv : vB xs = true) (h0 : 0 ≤ i) (h1 : i < xs.length) : wB xs i = true := by
  simp only [wB, hv, Bool.true_and, inR_true]; omega
theorem wB_bad {xs : List Int} {i : Int} (hv : vB xs = false) : wB xs i = false := by simp only [wB, hv, Bool.false_and]
theorem wB_out {xs : List Int} {i : Int} (h : ¬ (0 ≤ i ∧ i < xs.length)) : wB xs i = false := by
  rw [wB]
  have : inR i 0 (xs.length - 1) = false := inR_false.2 (by omega)
  rw [this, Bool.and_false]

theorem isBidder_any (A : Option Addr) (c : Nat) (xs : List Int) (i : Int) (w : World) (h : Rd w A c xs) (hl : xs.length ≤ 1048576) :
    Calls Try.prog 64 #[.slice A xs.length c, .int .i64 i] w fun e w' => e = .returned (.bool (wB xs i)) ∧ w = w' := by
  have hl2 : xs.length ≤ 1099511627776 := by omega
  cases hv : vB xs with
  | false =>
    have HE := Lib.hid (wB_bad (i := i) hv)
    go_enter Try.func64, Try.ntmps64
    go_wp2_with fail
    refine (ValidBids_any _ _ _ _ h hl2).mono ?_
    rw [hv]
    clear hv
    rintro e w1 ⟨rfl, rfl⟩
    go_wp2
    go_ret
    exact ⟨by rw [HE.out]; rfl, rfl⟩
  | true =>
    by_cases h0 : 0 ≤ i
    · by_cases h1 : i < xs.length
      · have HE := Lib.hid (wB_yes hv h0 h1)
        go_enter Try.func64, Try.ntmps64
        go_wp2_with fail
        refine (ValidBids_any _ _ _ _ h hl2).mono ?_
        rw [hv]
        clear hv
        rintro e w1 ⟨rfl, rfl⟩
        go_wp2
        go_ret
        exact ⟨by rw [HE.out]; rfl, rfl⟩
      · have HE := Lib.hid (wB_out (xs := xs) (i := i) (by omega))
        have hd : decide (i < (xs.length : Int)) = false := by simpa using h1
        go_enter Try.func64, Try.ntmps64
        go_wp2_with fail
        refine (ValidBids_any _ _ _ _ h hl2).mono ?_
        rw [hv]
        clear hv
        rintro e w1 ⟨rfl, rfl⟩
        go_wp2
        go_ret
        exact ⟨by rw [HE.out]; rfl, rfl⟩
    · have HE := Lib.hid (wB_out (xs := xs) (i := i) (by omega))
      go_enter Try.func64, Try.ntmps64
      go_wp2_with fail
      refine (ValidBids_any _ _ _ _ h hl2).mono ?_
      rw [hv]
      clear hv
      rintro e w1 ⟨rfl, rfl⟩
      go_wp2
      go_ret
      exact ⟨by rw [HE.out]; rfl, rfl⟩

/-- ys is xs but for the place i. -/
def ButAt (xs ys : List Int) (i : Nat) : Prop := ys.length = xs.length ∧ ∀ v, ys.set i v = xs.set i v
theorem ButAt.refl (xs : List Int) (i : Nat) : ButAt xs xs i := ⟨rfl, fun _ => rfl⟩
theorem ButAt.set_ {xs ys zs : List Int} {i : Nat} {v : Int} (h : ButAt xs ys i) (hz : zs = xs.set i v) : ButAt xs zs i ∧ ys.set i v = zs := by
  subst hz
  exact ⟨⟨List.length_set, fun u => List.set_set _⟩, h.2 v⟩

end Go.Proofs.Ytpildecpabeanaa
