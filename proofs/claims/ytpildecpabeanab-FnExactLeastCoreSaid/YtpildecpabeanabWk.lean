/-
  Chapter 4: the contracts of IsSum and of IsOne, and of the models'.
-/
import Derived.Test.YtpildecpabeanabG08
import Derived.Test.YtpildecpabeanabG05
import Derived.Test.YtpildecpabeanabG17
namespace Go.Proofs.Ytpildecpabeanab
open Go.RowKit

/-- Whether each set of a table is worth what V tells. -/
noncomputable def byB (t : List Int) (V : Nat → Int) : Bool := @decide (VT t ∧ ∀ s, s < 8 → T t s = V s) (Classical.propDecidable _)
theorem byB_true {t : List Int} {V : Nat → Int} (h : VT t) (hm : ∀ s, s < 8 → T t s = V s) : byB t V = true := by unfold byB; simp only [decide_eq_true_eq]; exact ⟨h, hm⟩
theorem byB_false {t : List Int} {V : Nat → Int} (h : ¬ (VT t ∧ ∀ s, s < 8 → T t s = V s)) : byB t V = false := by unfold byB; simp only [decide_eq_false_iff_not]; exact h
/-- Of the first k sets. -/
def ByTo (t : List Int) (V : Nat → Int) (k : Nat) : Prop := ∀ s, s < k → T t s = V s
theorem ByTo.zero (t : List Int) (V : Nat → Int) : ByTo t V 0 := fun s h => absurd h (by omega)
theorem ByTo.next {t : List Int} {V : Nat → Int} {s : Nat} (h : ByTo t V s) (hu : T t s = V s) : ByTo t V (s + 1) := fun x hx => by
  rcases Nat.lt_or_ge x s with h1 | h1
  · exact h x h1
  · rw [show x = s by omega]; exact hu
/-- What the first i things of a set are worth alone. -/
def alnUp (t : List Int) (s i : Nat) : List Int := ((th s).take i).map (fun j => T t (2 ^ j.toNat))
theorem alnUp_zero (t : List Int) (s : Nat) : alnUp t s 0 = [] := by simp [alnUp]
theorem alnUp_step (t : List Int) {s i j : Nat} (h : (th s)[i]? = some (j : Int)) : alnUp t s (i + 1) = alnUp t s i ++ [T t (2 ^ j)] := by
  unfold alnUp
  rw [List.take_add_one, h, List.map_append]
  simp
theorem alnUp_all (t : List Int) (s : Nat) : alnUp t s (th s).length = alone t s := by unfold alnUp alone; rw [List.take_length]
theorem alnUp_len (t : List Int) {s i : Nat} (h : i ≤ (th s).length) : (alnUp t s i).length = i := by simp [alnUp]; omega
theorem alone_bd {t : List Int} (h : VT t) (s : Nat) : ∀ x ∈ alone t s, 0 ≤ x ∧ x ≤ 30 := by
  intro x hx
  obtain ⟨j, hj, rfl⟩ := List.mem_map.1 hx
  obtain ⟨i, rfl, hi, _⟩ := thTo_mem hj
  have : i = 0 ∨ i = 1 ∨ i = 2 := by omega
  rcases this with rfl | rfl | rfl
  · exact h.bd (s := 1) (by omega)
  · exact h.bd (s := 2) (by omega)
  · exact h.bd (s := 4) (by omega)

/-- The greatest of numbers. -/
theorem mxl_step {xs : List Int} {k : Nat} {x : Int} (h : xs[k]? = some x) : (xs.take (k + 1)).foldl max 0 = max ((xs.take k).foldl max 0) x := by
  rw [List.take_add_one, h, List.foldl_append]; rfl

set_option maxHeartbeats 400000 in
theorem Max_any (A : Option Addr) (c n : Nat) (xs : List Int) (w : World) (hn : xs.length = n) (h : Rd w A c xs) (h1 : 1 ≤ n) (hl : n ≤ 1048576) (h0 : ∀ x ∈ xs, 0 ≤ x) :
    Calls Try.prog 61 #[.slice A n c] w fun e w' => e = .returned (.int .i64 (xs.foldl max 0)) ∧ w = w' := by
  subst hn
  obtain ⟨b, off, x0, rfl, _, hx0, hc0⟩ := h.at_ (k := 0) (by omega)
  rw [Nat.add_zero] at hc0
  have hx00 := h0 x0 (List.mem_of_getElem? hx0.out)
  have HX0 : Hid ((xs.take 1).foldl max 0 = x0) := Lib.hid (by rw [show (1 : Nat) = 0 + 1 from rfl, mxl_step hx0.out]; simp; omega)
  have hl1 : decide ((xs.length : Int) < 1) = false := by simp; omega
  clear hx0 hx00
  go_enter Try.func61, Try.ntmps61
  go_wp2
  go_loop [3, 4] (fun m i => ∃ k : Nat, 1 ≤ k ∧ k ≤ xs.length ∧ i = .int .i64 k ∧ ∃ v, m = .int .i64 v ∧ Hid (v = (xs.take k).foldl max 0)) (fun _ i => xs.length - (intOf i).toNat)
  case atStart => exact ⟨1, Nat.le_refl _, h1, rfl, x0, rfl, Lib.hid HX0.out.symm⟩
  case round =>
    obtain ⟨k, hk1, hk, rfl, v, rfl, HV⟩ := hrel
    by_cases hlt : k < xs.length
    · obtain ⟨b2, off2, x, hA, _, hx, hc⟩ := h.at_ hlt
      cases hA
      have HV' : Hid ((if v < x then x else v) = (xs.take (k + 1)).foldl max 0) := Lib.hid (by rw [mxl_step hx.out, ← HV.out]; split <;> omega)
      clear hx
      go_wp2
      go_round
      case rel => exact ⟨k + 1, by omega, by omega, by go_num, _, rfl, HV'⟩
      case measure => simp [intOf]; omega
    · obtain rfl : k = xs.length := by omega
      have HE : Hid (v = xs.foldl max 0) := Lib.hid (by rw [HV.out, List.take_length])
      go_wp2
      go_ret
      exact ⟨by rw [HE.out]; rfl, rfl⟩

theorem pow8 {i : Nat} (h : i < 3) : 2 ^ i < 8 := by
  have : i = 0 ∨ i = 1 ∨ i = 2 := by omega
  rcases this with rfl | rfl | rfl <;> decide
theorem grown_al (w : World) (o : Obj) (r : Option Nat) : w.grownBy (w.alloc o) r := ⟨rfl, rfl, rfl, by simp, fun i hi _ => Below.heap_alloc w o i hi⟩
theorem grown_then {a b c : World} {r : Option Nat} (h : a.grownBy b r) (k : b.grownBy c r) : a.grownBy c r :=
  ⟨k.os.trans h.os, k.tape.trans h.tape, k.output.trans h.output, Nat.le_trans h.size k.size, fun i hi hr => (k.block i (Nat.lt_of_lt_of_le hi h.size) hr).trans (h.block i hi hr)⟩

end Go.Proofs.Ytpildecpabeanab
