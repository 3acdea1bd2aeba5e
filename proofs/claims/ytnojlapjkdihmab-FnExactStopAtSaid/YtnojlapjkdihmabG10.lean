/-
  Chapter 2: the contracts of less, plus and times of fractions.
-/
import Derived.Test.YtnojlapjkdihmabG09
import Derived.Deep.RegionWith
import Derived.StillTailTactics
namespace Go.Proofs.Ytnojlapjkdihmab
open Go.RowKit

/-- Whether the fraction a/b is less than c/d. -/
def lessF (a b c d : Int) : Bool := decide (a * d < c * b)
theorem lessF_is {p q : Rat} {a b c d : Int} (hp : FrIs p a b) (hq : FrIs q c d) : lessF a b c d = decide (p < q) := by
  unfold lessF
  obtain ⟨rfl, rfl⟩ := hp
  obtain ⟨rfl, rfl⟩ := hq
  rw [Bool.eq_iff_iff, decide_eq_true_iff, decide_eq_true_iff, Rat.lt_iff]

set_option maxHeartbeats 600000 in
theorem less_any (a b c d : Int) (l : Bool) (w : World) (hl : lessF a b c d = l) (h1 : -4611686018427387904 ≤ a * d) (h2 : a * d ≤ 4611686018427387903) (h3 : -4611686018427387904 ≤ c * b) (h4 : c * b ≤ 4611686018427387903) :
    Calls Try.prog 82 #[frV a b, frV c d] w fun e w' => e = .returned (.bool l) ∧ Below w.heap.size w w' := by
  have HL := Lib.hid hl
  clear hl
  unfold frV
  go_enter Try.func82, Try.ntmps82
  go_wp2
  go_ret
  exact ⟨by rw [← HL.out]; rfl, ((below_al _ _).alloc (by simp) _)⟩

set_option maxHeartbeats 600000 in
theorem Sless_any (a b c d : Int) (l : Bool) (w : World) (hl : lessF a b c d = l) (h1 : -4611686018427387904 ≤ a * d) (h2 : a * d ≤ 4611686018427387903) (h3 : -4611686018427387904 ≤ c * b) (h4 : c * b ≤ 4611686018427387903) :
    Calls Try.prog 68 #[frV a b, frV c d] w fun e w' => e = .returned (.bool l) ∧ Below w.heap.size w w' := by
  have HL := Lib.hid hl
  clear hl
  unfold frV
  go_enter Try.func68, Try.ntmps68
  go_wp2
  go_ret
  exact ⟨by rw [← HL.out]; rfl, ((below_al _ _).alloc (by simp) _)⟩

set_option maxHeartbeats 600000 in
theorem plus_any (a b c d n m : Int) (w : World) (hq : FrIs (fq (a * d + c * b) (b * d)) n m) (h1 : -2305843009213693951 ≤ a * d) (h2 : a * d ≤ 2305843009213693951) (h3 : -2305843009213693951 ≤ c * b) (h4 : c * b ≤ 2305843009213693951) (h5 : 1 ≤ b * d) (h6 : b * d ≤ 4611686018427387903) :
    Calls Try.prog 79 #[frV a b, frV c d] w fun e w' => e = .returned (frV n m) ∧ Below w.heap.size w w' := by
  have HC := Lib.hid (fun w => fracOf_any _ _ _ _ w hq h5 (by omega) (by omega) h6)
  clear hq
  unfold frV
  go_enter Try.func79, Try.ntmps79
  go_wp2_with fail
  refine (HC.out _).mono ?_
  rintro e w' ⟨rfl, hb⟩
  have hk := pair_in (B := w.heap.size + 1 + 1) hb (by simp)
  obtain ⟨c0, c1, f0, f1⟩ := pair_facts hk
  unfold frV
  go_wp2
  obtain ⟨e0, e1, _, _⟩ := pair_facts (pair_set (.int .i64 n) (.int .i64 m) hk)
  have hB := pair_below (.int .i64 n) (.int .i64 m) (B := w.heap.size + 1 + 1) hb (by simp)
  refine bodyPost_ret (v := frV n m) (by simp [results, Try.results79, go_sem, frV, e0, e1]) rfl ⟨rfl, ?_⟩
  exact below_up (below_al _ _) (below_up (below_al _ _) hB)

set_option maxHeartbeats 600000 in
theorem Splus_any (a b c d n m : Int) (w : World) (hq : FrIs (fq (a * d + c * b) (b * d)) n m) (h1 : -2305843009213693951 ≤ a * d) (h2 : a * d ≤ 2305843009213693951) (h3 : -2305843009213693951 ≤ c * b) (h4 : c * b ≤ 2305843009213693951) (h5 : 1 ≤ b * d) (h6 : b * d ≤ 4611686018427387903) :
    Calls Try.prog 62 #[frV a b, frV c d] w fun e w' => e = .returned (frV n m) ∧ Below w.heap.size w w' := by
  have HC := Lib.hid (fun w => Sfrac_any _ _ _ _ w hq h5 (by omega) (by omega) h6)
  clear hq
  unfold frV
  go_enter Try.func62, Try.ntmps62
  go_wp2_with fail
  refine (HC.out _).mono ?_
  rintro e w' ⟨rfl, hb⟩
  have hk := pair_in (B := w.heap.size + 1 + 1) hb (by simp)
  obtain ⟨c0, c1, f0, f1⟩ := pair_facts hk
  unfold frV
  go_wp2
  obtain ⟨e0, e1, _, _⟩ := pair_facts (pair_set (.int .i64 n) (.int .i64 m) hk)
  have hB := pair_below (.int .i64 n) (.int .i64 m) (B := w.heap.size + 1 + 1) hb (by simp)
  refine bodyPost_ret (v := frV n m) (by simp [results, Try.results62, go_sem, frV, e0, e1]) rfl ⟨rfl, ?_⟩
  exact below_up (below_al _ _) (below_up (below_al _ _) hB)

set_option maxHeartbeats 600000 in
theorem times_any (a b k n m : Int) (w : World) (hq : FrIs (fq (a * k) b) n m) (h1 : -4611686018427387904 < a * k) (h2 : a * k ≤ 4611686018427387903) (h5 : 1 ≤ b) (h6 : b ≤ 4611686018427387903) :
    Calls Try.prog 77 #[frV a b, .int .i64 k] w fun e w' => e = .returned (frV n m) ∧ Below w.heap.size w w' := by
  have HC := Lib.hid (fun w => fracOf_any _ _ _ _ w hq h5 (by omega) (by omega) h6)
  clear hq
  unfold frV
  go_enter Try.func77, Try.ntmps77
  go_wp2_with fail
  refine (HC.out _).mono ?_
  rintro e w' ⟨rfl, hb⟩
  have hk := pair_in (B := w.heap.size + 1) hb (by simp)
  obtain ⟨c0, c1, f0, f1⟩ := pair_facts hk
  unfold frV
  go_wp2
  obtain ⟨e0, e1, _, _⟩ := pair_facts (pair_set (.int .i64 n) (.int .i64 m) hk)
  have hB := pair_below (.int .i64 n) (.int .i64 m) (B := w.heap.size + 1) hb (by simp)
  refine bodyPost_ret (v := frV n m) (by simp [results, Try.results77, go_sem, frV, e0, e1]) rfl ⟨rfl, ?_⟩
  exact below_up (below_al _ _) hB

set_option maxHeartbeats 600000 in
theorem Stimes_any (a b c d n m : Int) (w : World) (hq : FrIs (fq (a * c) (b * d)) n m) (h1 : -2305843009213693951 ≤ a * c) (h2 : a * c ≤ 2305843009213693951) (h5 : 1 ≤ b * d) (h6 : b * d ≤ 4611686018427387903) :
    Calls Try.prog 63 #[frV a b, frV c d] w fun e w' => e = .returned (frV n m) ∧ Below w.heap.size w w' := by
  have HC := Lib.hid (fun w => Sfrac_any _ _ _ _ w hq h5 (by omega) (by omega) h6)
  clear hq
  unfold frV
  go_enter Try.func63, Try.ntmps63
  go_wp2_with fail
  refine (HC.out _).mono ?_
  rintro e w' ⟨rfl, hb⟩
  have hk := pair_in (B := w.heap.size + 1 + 1) hb (by simp)
  obtain ⟨c0, c1, f0, f1⟩ := pair_facts hk
  unfold frV
  go_wp2
  obtain ⟨e0, e1, _, _⟩ := pair_facts (pair_set (.int .i64 n) (.int .i64 m) hk)
  have hB := pair_below (.int .i64 n) (.int .i64 m) (B := w.heap.size + 1 + 1) hb (by simp)
  refine bodyPost_ret (v := frV n m) (by simp [results, Try.results63, go_sem, frV, e0, e1]) rfl ⟨rfl, ?_⟩
  exact below_up (below_al _ _) (below_up (below_al _ _) hB)
end Go.Proofs.Ytnojlapjkdihmab

/-
  Chapter 2: the contracts of the model's virtual and of the program's slopeOf.
-/
namespace Go.Proofs.Ytnojlapjkdihmab
open Go.RowKit

/-- A region that draws, all but its last operations quiet. -/
theorem region_tail {P : Program} {id : Nat} {Q : Exit → Act → World → Prop} {a : Act} {w : World} {l : List Oper} (n : Nat) (hm : P.follows .mixedOrders = true) (hB : Region.lexTailB .any l.toArray n = true)
    (h : wpStill P l.toArray w.drew (fun a' => wpList P l.toArray Q (l.drop n) a' w.drew) (l.take n) a) : (Code.region id l.toArray true).wp P Q a w := wp_region_still_tail n hm hB h

theorem virt_parts {xs : List Int} {v : Nat} {x n d : Int} (hv : vW xs = true) (hx : xs[v]? = some x) (hq : FrIs (virtQ xs v) n d) :
    FrIs (fq (v * x - tailW xs (v + 1)) x) n d ∧ 1 ≤ x ∧ x ≤ 6 ∧ 0 ≤ (v : Int) * x ∧ (v : Int) * x ≤ 36 := by
  have hlt := (List.getElem?_eq_some_iff.1 hx).1
  have hx1 := vW_mem hv x (List.mem_of_getElem? hx)
  have hw : wt xs v = x := by unfold wt; rw [List.getD_eq_getElem?_getD, hx]; rfl
  have h6 := (vW_le hv).2
  refine ⟨?_, hx1.1, hx1.2, Int.mul_nonneg (by omega) (by omega), ?_⟩
  · unfold virtQ at hq
    rw [hw] at hq
    exact hq
  · have := Int.mul_le_mul (show (v : Int) ≤ 6 by omega) hx1.2 (by omega) (by omega)
    omega

end Go.Proofs.Ytnojlapjkdihmab

/-
  Chapter 2, the program: the contracts of slopeOf and steepestFrom.
-/
namespace Go.Proofs.Ytnojlapjkdihmab
open Go.RowKit

theorem slope_parts {xs : List Int} {u v : Nat} {n d : Int} (hv : vW xs = true) (huv : u < v) (hvl : v ≤ xs.length) (hq : FrIs (slopeQ xs u v) n d) :
    FrIs (fq (u * tailW xs u - v * tailW xs v) (tailW xs u - tailW xs v)) n d ∧ 1 ≤ tailW xs u - tailW xs v ∧ -216 ≤ n ∧ n ≤ 216 ∧ 1 ≤ d ∧ d ≤ 36 := by
  have h1 := tailW_lt (vW_valid hv) huv hvl
  have l6 := (vW_le hv).2
  have r1 := revW_le hv (show u ≤ 6 by omega)
  have r2 := revW_le hv (show v ≤ 6 by omega)
  have r3 := revW_nn hv u
  have r4 := revW_nn hv v
  have t1 := rev_b hv u
  have t2 := rev_b hv v
  have hf := fq_le (up := revW xs u - revW xs v) (dn := tailW xs u - tailW xs v) (by omega) hq
  exact ⟨hq, by omega, by omega, by omega, by omega, by omega⟩

theorem mul_bd {a d A D : Int} (h1 : -A ≤ a) (h2 : a ≤ A) (h3 : 1 ≤ d) (h4 : d ≤ D) (hA : 0 ≤ A) : -(A * D) ≤ a * d ∧ a * d ≤ A * D := by
  have e1 : A * d ≤ A * D := Int.mul_le_mul_of_nonneg_left h4 hA
  have e2 : a * d ≤ A * d := Int.mul_le_mul_of_nonneg_right h2 (by omega)
  have e3 : -A * d ≤ a * d := Int.mul_le_mul_of_nonneg_right h1 (by omega)
  have e4 : -A * d = -(A * d) := Int.neg_mul _ _
  constructor <;> omega

/-- The pair x, y lies in the block B, and nothing else. -/
def PairAt (w : World) (B : Nat) (x y : Int) : Prop := w.heap[B]? = some (.cells #[.int .i64 x, .int .i64 y] 28 (0, 0))
theorem PairAt.lt {w : World} {B : Nat} {x y : Int} (h : PairAt w B x y) : B < w.heap.size := (Array.getElem?_eq_some_iff.1 h).1
theorem PairAt.below {w w' : World} {B : Nat} {x y : Int} (h : PairAt w B x y) (hb : Below w.heap.size w w') : PairAt w' B x y := (hb.block _ h.lt).trans h
theorem PairAt.new {w : World} {x y : Int} : PairAt (w.alloc (.cells #[.int .i64 x, .int .i64 y] 28)) w.heap.size x y := pair_new w _
theorem PairAt.old {w : World} {B : Nat} {x y : Int} (h : PairAt w B x y) (o : Obj) : PairAt (w.alloc o) B x y := h.below (below_al w o)
theorem PairAt.set_ {w : World} {B : Nat} {x y : Int} (h : PairAt w B x y) (u v : Int) : PairAt ((w.setCell ⟨B, 0, none⟩ (.int .i64 u)).setCell ⟨B, 1, none⟩ (.int .i64 v)) B u v := pair_set _ _ h
theorem PairAt.other {w : World} {B C : Nat} {x y : Int} (h : PairAt w B x y) (hne : B ≠ C) (u v : Value) : PairAt ((w.setCell ⟨C, 0, none⟩ u).setCell ⟨C, 1, none⟩ v) B x y := by
  unfold PairAt at *
  rw [Below.heap_setCell _ _ _ _ (by exact hne), Below.heap_setCell _ _ _ _ (by exact hne)]
  exact h
theorem PairAt.facts {w : World} {B : Nat} {x y : Int} (h : PairAt w B x y) : w.cell? ⟨B, 0, none⟩ = some (.int .i64 x) ∧ w.cell? ⟨B, 1, none⟩ = some (.int .i64 y) ∧ w.frozen? ⟨B, 0, none⟩ = false ∧ w.frozen? ⟨B, 1, none⟩ = false := pair_facts h
theorem below_set2 {a w : World} {B : Nat} (h : Below a.heap.size a w) (hB : a.heap.size ≤ B) (u v : Value) : Below a.heap.size a ((w.setCell ⟨B, 0, none⟩ u).setCell ⟨B, 1, none⟩ v) := (h.setCell hB u).setCell hB v

theorem steepTo_less {w : List Int} {h u : Nat} {s : Nat × Rat} (hl : slopeQ w u h < s.2) : steepTo w h (u + 1) s = steepTo w h u s := by rw [steepTo, if_pos hl]
theorem steepTo_more {w : List Int} {h u : Nat} {s : Nat × Rat} (hl : ¬ slopeQ w u h < s.2) : steepTo w h (u + 1) s = steepTo w h u (u, slopeQ w u h) := by rw [steepTo, if_neg hl]

end Go.Proofs.Ytnojlapjkdihmab
