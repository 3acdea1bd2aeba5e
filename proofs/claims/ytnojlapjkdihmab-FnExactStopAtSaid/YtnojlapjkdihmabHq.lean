/-
  Chapter 11, the model: what is had from stages on.
-/
import Derived.Test.YtnojlapjkdihmabG30
import Derived.Test.YtnojlapjkdihmabG31
import Derived.Test.YtnojlapjkdihmabHp
namespace Go.Proofs.Ytnojlapjkdihmab
open Go.RowKit

set_option maxHeartbeats 600000 in
theorem larger_any (a b c d n m : Int) (p q : Rat) (w : World) (hp : FrIs p a b) (hq : FrIs q c d) (h : FrIs (if p < q then q else p) n m) (h1 : -4611686018427387904 ≤ a * d) (h2 : a * d ≤ 4611686018427387903) (h3 : -4611686018427387904 ≤ c * b) (h4 : c * b ≤ 4611686018427387903) :
    Calls Try.prog 64 #[frV a b, frV c d] w fun e w' => e = .returned (frV n m) ∧ Below w.heap.size w w' := by
  have hl := lessF_is hp hq
  have HL := Lib.hid (fun l w hl => Sless_any a b c d l w hl h1 h2 h3 h4)
  have hB : Below w.heap.size w (((w.alloc (.cells #[.int .i64 a, .int .i64 b] 28)).alloc (.cells #[.int .i64 c, .int .i64 d] 28)).alloc (.cells #[.int .i64 0, .int .i64 0] 28)) :=
    (((Below.refl _ w).alloc (Nat.le_refl _) _).alloc (by simp) _).alloc (by simp; omega) _
  have kA : PairAt (((w.alloc (.cells #[.int .i64 a, .int .i64 b] 28)).alloc (.cells #[.int .i64 c, .int .i64 d] 28)).alloc (.cells #[.int .i64 0, .int .i64 0] 28)) w.heap.size a b := (PairAt.new.old _).old _
  have kB : PairAt (((w.alloc (.cells #[.int .i64 a, .int .i64 b] 28)).alloc (.cells #[.int .i64 c, .int .i64 d] 28)).alloc (.cells #[.int .i64 0, .int .i64 0] 28)) (w.heap.size + 1) c d := by
    have := (PairAt.new (w := w.alloc (.cells #[.int .i64 a, .int .i64 b] 28)) (x := c) (y := d)).old (.cells #[.int .i64 0, .int .i64 0] 28)
    rw [World.size_alloc] at this
    exact this
  have kO : PairAt (((w.alloc (.cells #[.int .i64 a, .int .i64 b] 28)).alloc (.cells #[.int .i64 c, .int .i64 d] 28)).alloc (.cells #[.int .i64 0, .int .i64 0] 28)) (w.heap.size + 1 + 1) 0 0 := by
    have := PairAt.new (w := (w.alloc (.cells #[.int .i64 a, .int .i64 b] 28)).alloc (.cells #[.int .i64 c, .int .i64 d] 28)) (x := 0) (y := 0)
    rw [World.size_alloc, World.size_alloc] at this
    exact this
  obtain ⟨cA0, cA1, _, _⟩ := kA.facts
  obtain ⟨cB0, cB1, _, _⟩ := kB.facts
  by_cases hc : p < q
  · rw [if_pos hc] at h
    obtain ⟨rfl, rfl⟩ := h.same hq
    have HLL := Lib.hid (fun w => HL.out true w (by rw [hl]; exact decide_eq_true hc))
    clear hl hp hq h hc HL
    unfold frV
    go_enter Try.func64, Try.ntmps64
    go_wp2_with fail
    refine (HLL.out _).mono ?_
    rintro e w1 ⟨rfl, b1⟩
    have k1 := kB.below b1
    have kO1 := kO.below b1
    obtain ⟨c0, c1, _, _⟩ := k1.facts
    obtain ⟨d0, d1, g0, g1⟩ := kO1.facts
    have B1 := hB.trans (b1.mono hB.size)
    go_wp2
    obtain ⟨e0, e1, _, _⟩ := (kO1.set_ n m).facts
    have hB7 := below_set2 (B := w.heap.size + 1 + 1) B1 (by omega) (.int .i64 n) (.int .i64 m)
    refine bodyPost_ret (v := frV n m) (by simp [results, Try.results64, go_sem, frV, e0, e1]) rfl ⟨rfl, hB7⟩
  · rw [if_neg hc] at h
    obtain ⟨rfl, rfl⟩ := h.same hp
    have HLL := Lib.hid (fun w => HL.out false w (by rw [hl]; exact decide_eq_false hc))
    clear hl hp hq h hc HL
    unfold frV
    go_enter Try.func64, Try.ntmps64
    go_wp2_with fail
    refine (HLL.out _).mono ?_
    rintro e w1 ⟨rfl, b1⟩
    have k1 := kA.below b1
    have kO1 := kO.below b1
    obtain ⟨c0, c1, _, _⟩ := k1.facts
    obtain ⟨d0, d1, g0, g1⟩ := kO1.facts
    have B1 := hB.trans (b1.mono hB.size)
    go_wp2
    obtain ⟨e0, e1, _, _⟩ := (kO1.set_ n m).facts
    have hB7 := below_set2 (B := w.heap.size + 1 + 1) B1 (by omega) (.int .i64 n) (.int .i64 m)
    refine bodyPost_ret (v := frV n m) (by simp [results, Try.results64, go_sem, frV, e0, e1]) rfl ⟨rfl, hB7⟩

theorem drop_at {rows : List (List Int)} {k : Nat} {r : List Int} (h : rows[k]? = some r) : rows.drop k = r :: rows.drop (k + 1) := by
  obtain ⟨hk, rfl⟩ := List.getElem?_eq_some_iff.1 h
  exact List.drop_eq_getElem_cons hk
theorem VS.drop {rows : List (List Int)} (h : VS rows) (k : Nat) : VS (rows.drop k) := fun x hx => h x (List.mem_of_mem_drop hx)
theorem fr_times' {p : Rat} {k a b n m : Int} (hp : FrIs p a b) (h : FrIs ((k : Rat) * p) n m) : FrIs (fq (k * a) (1 * b)) n m := by
  rw [Int.mul_comm k a, Int.one_mul]; exact fr_times hp h
theorem mul_den {a d A : Int} (h1 : -A ≤ a) (h2 : a ≤ A) (hd : 1 ≤ d) (hd2 : d ≤ 46656) (hA : 0 ≤ A) : -(A * 46656) ≤ a * d ∧ a * d ≤ A * 46656 := by
  have h3 : a * d ≤ A * d := Int.mul_le_mul_of_nonneg_right h2 (by omega)
  have h4 : -A * d ≤ a * d := Int.mul_le_mul_of_nonneg_right h1 (by omega)
  have h5 : A * d ≤ A * 46656 := Int.mul_le_mul_of_nonneg_left hd2 hA
  rw [Int.neg_mul] at h4
  omega

/-- What one value adds at a stage. -/
structure StepIs (xs : List Int) (e q : Rat) (j : Nat) (x y tn td pn pd sn sd wx : Int) : Prop where
  take : FrIs (takeQ e q j) tn td
  term : FrIs (((wx : Int) : Rat) * takeQ e q j) pn pd
  times : FrIs (fq (wx * tn) (1 * td)) pn pd
  sum : FrIs (sumQ ((termL xs e q).take (j + 1))) sn sd
  plus : FrIs (fq (x * pd + pn * y) (y * pd)) sn sd
  t1 : -2305843009213693951 ≤ wx * tn
  t2 : wx * tn ≤ 2305843009213693951
  t3 : 1 ≤ 1 * td
  t4 : 1 * td ≤ 4611686018427387903
  p1 : -2305843009213693951 ≤ x * pd
  p2 : x * pd ≤ 2305843009213693951
  p3 : -2305843009213693951 ≤ pn * y
  p4 : pn * y ≤ 2305843009213693951
  p5 : 1 ≤ y * pd
  p6 : y * pd ≤ 4611686018427387903
theorem step_is {xs : List Int} {e q : Rat} {j : Nat} {x y D : Int} (hv : vW xs = true) (hj : j < xs.length) (hD1 : 1 ≤ D) (hD : D ≤ 46656) (hr : Had D q) (hs : FrIs (sumQ ((termL xs e q).take j)) x y) :
    ∃ tn td pn pd sn sd, StepIs xs e q j x y tn td pn pd sn sd (wt xs j) := by
  have hvw := vW_valid hv
  have hl6 := vW_le hv
  have w1 := validW_lo hvw hj
  have w6 := validW_hi hvw j
  have htk := hr.take (e := e) hD1 (show j ≤ 5 by omega)
  have hts : ∀ u ∈ termL xs e q, Sc D 2176782336 u := fun u hu => by
    obtain ⟨v, hv1, rfl⟩ := List.mem_map.1 hu
    have hlt := List.mem_range.1 hv1
    exact term_sc hr hD1 hD (by omega) (by have := validW_lo hvw hlt; omega) (validW_hi hvw v)
  have hst := sumQ_step (termL_at (e := e) (r := q) hj)
  have b1 := htk.sc.bd hD1 (FrIs.self _)
  have b2 := (hts _ (List.mem_of_getElem? (termL_at hj))).bd hD1 (FrIs.self _)
  have b3 := (sumQ_sc (D := D) (B := 2176782336) (by decide) ((termL xs e q).take j) (fun u hu => hts u (List.mem_of_mem_take hu))).bd hD1 hs
  have hlt : ((List.take j (termL xs e q)).length : Int) ≤ 6 := by rw [List.length_take, termL_len]; omega
  have m1 := mul_six (a := (takeQ e q j).num) (k := wt xs j) b1.1 b1.2.1 (by omega) w6
  have m2 := mul_den (A := 13060694016) (a := x) (d := (((wt xs j : Int) : Rat) * takeQ e q j).den) (by omega) (by omega) b2.2.2.1 (by omega) (by omega)
  have m3 := mul_den (A := 2176782336) (a := (((wt xs j : Int) : Rat) * takeQ e q j).num) (d := y) b2.1 b2.2.1 b3.2.2.1 (by omega) (by omega)
  have m4 := Int.mul_le_mul b3.2.2.1 b2.2.2.1 (by omega) (by omega)
  have m5 := Int.mul_le_mul (Int.le_trans b3.2.2.2 hD) (Int.le_trans b2.2.2.2 hD) (by omega) (by omega)
  refine ⟨(takeQ e q j).num, (takeQ e q j).den, (((wt xs j : Int) : Rat) * takeQ e q j).num, (((wt xs j : Int) : Rat) * takeQ e q j).den, (sumQ ((termL xs e q).take (j + 1))).num, (sumQ ((termL xs e q).take (j + 1))).den,
    FrIs.self _, FrIs.self _, fr_times' (FrIs.self _) (FrIs.self _), FrIs.self _, ?_, ?_, ?_, ?_, ?_, ?_, ?_, ?_, ?_, ?_, ?_⟩
  · refine fr_add hs (FrIs.self _) ?_
    rw [← hst]; exact FrIs.self _
  · rw [Int.mul_comm]; omega
  · rw [Int.mul_comm]; omega
  all_goals omega
end Go.Proofs.Ytnojlapjkdihmab
