/-
  Chapter 2: the contracts of less, plus and times of fractions.
-/
import Derived.Test.YtoipjhdnmiomeaaCe
namespace Go.Proofs.Ytoipjhdnmiomeaa
open Go.RowKit

/-- Whether the fraction a/b is less than c/d. -/
def lessF (a b c d : Int) : Bool := decide (a * d < c * b)
theorem lessF_is {p q : Rat} {a b c d : Int} (hp : FrIs p a b) (hq : FrIs q c d) : lessF a b c d = decide (p < q) := by
  unfold lessF
  obtain ⟨rfl, rfl⟩ := hp
  obtain ⟨rfl, rfl⟩ := hq
  rw [Bool.eq_iff_iff, decide_eq_true_iff, decide_eq_true_iff, Rat.lt_iff]

set_option maxHeartbeats 600000 in
theorem less_any (a b c d : Int) (l : Bool) (w : World) (hl : lessF a b c d = l) (h1 : -4611686018427387904 ≤ a * d) (h2 : a * d ≤ 4611686018427387903) (h3 : -4611686018427387904 ≤ c * b) (h4 : c * b ≤ 4611686018427387903) :
    Calls Try.prog 59 #[frV a b, frV c d] w fun e w' => e = .returned (.bool l) ∧ Below w.heap.size w w' := by
  have HL := Lib.hid hl
  clear hl
  unfold frV
  go_enter Try.func59, Try.ntmps59
  go_wp2
  go_ret
  exact ⟨by rw [← HL.out]; rfl, ((below_al _ _).alloc (by simp) _)⟩

set_option maxHeartbeats 600000 in
theorem Sless_any (a b c d : Int) (l : Bool) (w : World) (hl : lessF a b c d = l) (h1 : -4611686018427387904 ≤ a * d) (h2 : a * d ≤ 4611686018427387903) (h3 : -4611686018427387904 ≤ c * b) (h4 : c * b ≤ 4611686018427387903) :
    Calls Try.prog 82 #[frV a b, frV c d] w fun e w' => e = .returned (.bool l) ∧ Below w.heap.size w w' := by
  have HL := Lib.hid hl
  clear hl
  unfold frV
  go_enter Try.func82, Try.ntmps82
  go_wp2
  go_ret
  exact ⟨by rw [← HL.out]; rfl, ((below_al _ _).alloc (by simp) _)⟩

set_option maxHeartbeats 600000 in
theorem lessOf_any (a b c d : Int) (l : Bool) (w : World) (hl : lessF a b c d = l) (h1 : -4611686018427387904 ≤ a * d) (h2 : a * d ≤ 4611686018427387903) (h3 : -4611686018427387904 ≤ c * b) (h4 : c * b ≤ 4611686018427387903) :
    Calls Try.prog 26 #[frV a b, frV c d] w fun e w' => e = .returned (.bool l) ∧ Below w.heap.size w w' := by
  have HL := Lib.hid hl
  clear hl
  unfold frV
  go_enter Try.func26, Try.ntmps26
  go_wp2
  go_ret
  exact ⟨by rw [← HL.out]; rfl, ((below_al _ _).alloc (by simp) _)⟩

set_option maxHeartbeats 600000 in
theorem plus_any (a b c d n m : Int) (w : World) (hq : FrIs (fq (a * d + c * b) (b * d)) n m) (h1 : -2305843009213693951 ≤ a * d) (h2 : a * d ≤ 2305843009213693951) (h3 : -2305843009213693951 ≤ c * b) (h4 : c * b ≤ 2305843009213693951) (h5 : 1 ≤ b * d) (h6 : b * d ≤ 4611686018427387903) :
    Calls Try.prog 77 #[frV a b, frV c d] w fun e w' => e = .returned (frV n m) ∧ Below w.heap.size w w' := by
  have HC := Lib.hid (fun w => fracOf_any _ _ _ _ w hq h5 (by omega) (by omega) h6)
  clear hq
  unfold frV
  go_enter Try.func77, Try.ntmps77
  go_wp2_with fail
  refine (HC.out _).mono ?_
  rintro e w' ⟨rfl, hb⟩
  have hk := pair_in (B := w.heap.size + 1 + 1) hb (by simp)
  obtain ⟨c0, c1, f0, f1⟩ := pair_facts hk
  unfold frV
  go_wp2
  obtain ⟨e0, e1, _, _⟩ := pair_facts (pair_set (.int .i64 n) (.int .i64 m) hk)
  have hB := pair_below (.int .i64 n) (.int .i64 m) (B := w.heap.size + 1 + 1) hb (by simp)
  refine bodyPost_ret (v := frV n m) (by simp [results, Try.results77, go_sem, frV, e0, e1]) rfl ⟨rfl, ?_⟩
  exact below_up (below_al _ _) (below_up (below_al _ _) hB)

set_option maxHeartbeats 600000 in
theorem Splus_any (a b c d n m : Int) (w : World) (hq : FrIs (fq (a * d + c * b) (b * d)) n m) (h1 : -2305843009213693951 ≤ a * d) (h2 : a * d ≤ 2305843009213693951) (h3 : -2305843009213693951 ≤ c * b) (h4 : c * b ≤ 2305843009213693951) (h5 : 1 ≤ b * d) (h6 : b * d ≤ 4611686018427387903) :
    Calls Try.prog 80 #[frV a b, frV c d] w fun e w' => e = .returned (frV n m) ∧ Below w.heap.size w w' := by
  have HC := Lib.hid (fun w => Sfrac_any _ _ _ _ w hq h5 (by omega) (by omega) h6)
  clear hq
  unfold frV
  go_enter Try.func80, Try.ntmps80
  go_wp2_with fail
  refine (HC.out _).mono ?_
  rintro e w' ⟨rfl, hb⟩
  have hk := pair_in (B := w.heap.size + 1 + 1) hb (by simp)
  obtain ⟨c0, c1, f0, f1⟩ := pair_facts hk
  unfold frV
  go_wp2
  obtain ⟨e0, e1, _, _⟩ := pair_facts (pair_set (.int .i64 n) (.int .i64 m) hk)
  have hB := pair_below (.int .i64 n) (.int .i64 m) (B := w.heap.size + 1 + 1) hb (by simp)
  refine bodyPost_ret (v := frV n m) (by simp [results, Try.results80, go_sem, frV, e0, e1]) rfl ⟨rfl, ?_⟩
  exact below_up (below_al _ _) (below_up (below_al _ _) hB)

set_option maxHeartbeats 600000 in
theorem times_any (a b k n m : Int) (w : World) (hq : FrIs (fq (a * k) b) n m) (h1 : -4611686018427387904 < a * k) (h2 : a * k ≤ 4611686018427387903) (h5 : 1 ≤ b) (h6 : b ≤ 4611686018427387903) :
    Calls Try.prog 75 #[frV a b, .int .i64 k] w fun e w' => e = .returned (frV n m) ∧ Below w.heap.size w w' := by
  have HC := Lib.hid (fun w => fracOf_any _ _ _ _ w hq h5 (by omega) (by omega) h6)
  clear hq
  unfold frV
  go_enter Try.func75, Try.ntmps75
  go_wp2_with fail
  refine (HC.out _).mono ?_
  rintro e w' ⟨rfl, hb⟩
  have hk := pair_in (B := w.heap.size + 1) hb (by simp)
  obtain ⟨c0, c1, f0, f1⟩ := pair_facts hk
  unfold frV
  go_wp2
  obtain ⟨e0, e1, _, _⟩ := pair_facts (pair_set (.int .i64 n) (.int .i64 m) hk)
  have hB := pair_below (.int .i64 n) (.int .i64 m) (B := w.heap.size + 1) hb (by simp)
  refine bodyPost_ret (v := frV n m) (by simp [results, Try.results75, go_sem, frV, e0, e1]) rfl ⟨rfl, ?_⟩
  exact below_up (below_al _ _) hB

set_option maxHeartbeats 600000 in
theorem Stimes_any (a b c d n m : Int) (w : World) (hq : FrIs (fq (a * c) (b * d)) n m) (h1 : -2305843009213693951 ≤ a * c) (h2 : a * c ≤ 2305843009213693951) (h5 : 1 ≤ b * d) (h6 : b * d ≤ 4611686018427387903) :
    Calls Try.prog 81 #[frV a b, frV c d] w fun e w' => e = .returned (frV n m) ∧ Below w.heap.size w w' := by
  have HC := Lib.hid (fun w => Sfrac_any _ _ _ _ w hq h5 (by omega) (by omega) h6)
  clear hq
  unfold frV
  go_enter Try.func81, Try.ntmps81
  go_wp2_with fail
  refine (HC.out _).mono ?_
  rintro e w' ⟨rfl, hb⟩
  have hk := pair_in (B := w.heap.size + 1 + 1) hb (by simp)
  obtain ⟨c0, c1, f0, f1⟩ := pair_facts hk
  unfold frV
  go_wp2
  obtain ⟨e0, e1, _, _⟩ := pair_facts (pair_set (.int .i64 n) (.int .i64 m) hk)
  have hB := pair_below (.int .i64 n) (.int .i64 m) (B := w.heap.size + 1 + 1) hb (by simp)
  refine bodyPost_ret (v := frV n m) (by simp [results, Try.results81, go_sem, frV, e0, e1]) rfl ⟨rfl, ?_⟩
  exact below_up (below_al _ _) (below_up (below_al _ _) hB)
end Go.Proofs.Ytoipjhdnmiomeaa
