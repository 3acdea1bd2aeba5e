/-
  Chapter 6: which things may be moved, by the model: byMoves, SwapsByMoves.
-/
import Derived.Test.YtccbjgajmjcpjabG28
import Derived.Test.YtccbjgajmjcpjabG06
import Derived.WalkMore
import Derived.Deep.LoopGhost
import Derived.Test.YtccbjgajmjcpjabG07
import Derived.StillTailTactics
namespace Go.Proofs.Ytccbjgajmjcpjab
open Go.RowKit

/-- The thing i may be moved from s to x, if it is there and not here. -/
def MvQ (t : List Int) (s x i : Nat) : Prop := s / 2 ^ i % 2 = 1 → x / 2 ^ i % 2 = 0 → MvOne t s x i
def MvI (t : List Int) (s x k : Nat) : Prop := ∀ i, i < k → MvQ t s x i
def MvX (t : List Int) (s k : Nat) : Prop := ∀ x, x < k → MvI t s x 3
def MvS (t : List Int) (k : Nat) : Prop := ∀ s, s < k → MvX t s 8
theorem MvI.zero (t : List Int) (s x : Nat) : MvI t s x 0 := fun i h => absurd h (by omega)
theorem MvX.zero (t : List Int) (s : Nat) : MvX t s 0 := fun i h => absurd h (by omega)
theorem MvS.zero (t : List Int) : MvS t 0 := fun i h => absurd h (by omega)
theorem MvI.next {t : List Int} {s x k : Nat} (h : MvI t s x k) (hk : MvQ t s x k) : MvI t s x (k + 1) := fun i hi => by
  rcases Nat.lt_or_ge i k with h1 | h1
  · exact h i h1
  · rw [show i = k by omega]; exact hk
theorem MvX.next {t : List Int} {s k : Nat} (h : MvX t s k) (hk : MvI t s k 3) : MvX t s (k + 1) := fun i hi => by
  rcases Nat.lt_or_ge i k with h1 | h1
  · exact h i h1
  · rw [show i = k by omega]; exact hk
theorem MvS.next {t : List Int} {k : Nat} (h : MvS t k) (hk : MvX t k 8) : MvS t (k + 1) := fun i hi => by
  rcases Nat.lt_or_ge i k with h1 | h1
  · exact h i h1
  · rw [show i = k by omega]; exact hk
theorem MvS.mv {t : List Int} (h : MvS t 8) : Mv t := fun s hs x hx i hi h1 h2 => h s hs x hx i hi h1 h2

end Go.Proofs.Ytccbjgajmjcpjab

/-
  Chapter 6: the program's movesAll.
-/
namespace Go.Proofs.Ytccbjgajmjcpjab
open Go.RowKit

/-- The thing i moves, and what is told moves back, without loss. -/
def OkB (t : List Int) (s x i b : Nat) : Prop := T t s + T t x ≤ T t (s ^^^ (2 ^ i ||| b)) + T t (x ^^^ (2 ^ i ||| b))
theorem xor_fit {s x i : Nat} (hs : s < 8) (hx : x < 8) (hi : i < 3) (h1 : s / 2 ^ i % 2 = 1) (h0 : x / 2 ^ i % 2 = 0) : s ^^^ (2 ^ i ||| 0) = s - 2 ^ i ∧ x ^^^ (2 ^ i ||| 0) = x + 2 ^ i := by
  have := all2 (p := fun s x => (List.range 3).all fun i => !(s / 2 ^ i % 2 == 1 && x / 2 ^ i % 2 == 0) || (s ^^^ (2 ^ i ||| 0) == s - 2 ^ i && x ^^^ (2 ^ i ||| 0) == x + 2 ^ i)) (by decide +kernel) hs hx
  rw [List.all_eq_true] at this
  have := this i (by simpa using hi)
  simpa [h1, h0] using this
theorem xor_fit2 {s x i j : Nat} (hs : s < 8) (hx : x < 8) (hi : i < 3) (hj : j < 3) (h1 : s / 2 ^ i % 2 = 1) (h0 : x / 2 ^ i % 2 = 0) (g1 : x / 2 ^ j % 2 = 1) (g0 : s / 2 ^ j % 2 = 0) :
    s ^^^ (2 ^ i ||| 2 ^ j) = s - 2 ^ i + 2 ^ j ∧ x ^^^ (2 ^ i ||| 2 ^ j) = x + 2 ^ i - 2 ^ j := by
  have := all2 (p := fun s x => (List.range 3).all fun i => (List.range 3).all fun j => !(s / 2 ^ i % 2 == 1 && x / 2 ^ i % 2 == 0 && x / 2 ^ j % 2 == 1 && s / 2 ^ j % 2 == 0) || (s ^^^ (2 ^ i ||| 2 ^ j) == s - 2 ^ i + 2 ^ j && x ^^^ (2 ^ i ||| 2 ^ j) == x + 2 ^ i - 2 ^ j)) (by decide +kernel) hs hx
  rw [List.all_eq_true] at this
  have := this i (by simpa using hi)
  rw [List.all_eq_true] at this
  have := this j (by simpa using hj)
  simpa [h1, h0, g1, g0] using this
theorem only_bits {s x j : Nat} (hs : s < 8) (hx : x < 8) (hj : j < 3) : (x - (x &&& s)) / 2 ^ j % 2 = 1 ↔ (x / 2 ^ j % 2 = 1 ∧ s / 2 ^ j % 2 = 0) := by
  have : ∀ s, s < 8 → ∀ x, x < 8 → ∀ j, j < 3 → ((x - (x &&& s)) / 2 ^ j % 2 = 1 ↔ (x / 2 ^ j % 2 = 1 ∧ s / 2 ^ j % 2 = 0)) := by decide +kernel
  exact this s hs x hx j hj
/-- What may move back. -/
def backs (s x : Nat) : List Int := on (x - (x &&& s)) ++ [0]
theorem backs_mem {s x : Nat} (hs : s < 8) (hx : x < 8) {y : Int} (h : y ∈ backs s x) : ∃ b : Nat, y = (b : Int) ∧ b < 8 ∧ (b = 0 ∨ ∃ j, j < 3 ∧ b = 2 ^ j ∧ x / 2 ^ j % 2 = 1 ∧ s / 2 ^ j % 2 = 0) := by
  rcases List.mem_append.1 h with h | h
  · obtain ⟨j, hj, hb, rfl⟩ := on_mem h
    obtain ⟨b1, b0⟩ := (only_bits hs hx hj).1 hb
    exact ⟨2 ^ j, rfl, by rcases nat3 hj with rfl | rfl | rfl <;> decide, .inr ⟨j, hj, rfl, b1, b0⟩⟩
  · simp at h
    exact ⟨0, by simpa using h, by omega, .inl rfl⟩
theorem mvOne_back {t : List Int} {s x i : Nat} (hs : s < 8) (hx : x < 8) (hi : i < 3) (h1 : s / 2 ^ i % 2 = 1) (h0 : x / 2 ^ i % 2 = 0) : MvOne t s x i ↔ ∃ b : Nat, (b : Int) ∈ backs s x ∧ OkB t s x i b := by
  constructor
  · rintro (h | ⟨j, hj, g1, g0, h⟩)
    · obtain ⟨e1, e2⟩ := xor_fit hs hx hi h1 h0
      exact ⟨0, by simp [backs], by unfold OkB; rw [e1, e2]; exact h⟩
    · obtain ⟨e1, e2⟩ := xor_fit2 hs hx hi hj h1 h0 g1 g0
      exact ⟨2 ^ j, List.mem_append.2 (.inl (on_has hj ((only_bits hs hx hj).2 ⟨g1, g0⟩))), by unfold OkB; rw [e1, e2]; exact h⟩
  · rintro ⟨b, hb, h⟩
    obtain ⟨c, hc, _, h2⟩ := backs_mem hs hx hb
    obtain rfl : b = c := by omega
    rcases h2 with rfl | ⟨j, hj, rfl, g1, g0⟩
    · obtain ⟨e1, e2⟩ := xor_fit hs hx hi h1 h0
      unfold OkB at h
      rw [e1, e2] at h
      exact .inl h
    · obtain ⟨e1, e2⟩ := xor_fit2 hs hx hi hj h1 h0 g1 g0
      unfold OkB at h
      rw [e1, e2] at h
      exact .inr ⟨j, hj, g1, g0, h⟩
/-- None of the first k ways back will do. -/
def NoB (t : List Int) (s x i k : Nat) : Prop := ∀ b : Nat, (b : Int) ∈ (backs s x).take k → ¬ OkB t s x i b
theorem NoB.zero (t : List Int) (s x i : Nat) : NoB t s x i 0 := fun b h => absurd h (by simp)
theorem NoB.next {t : List Int} {s x i k b : Nat} (h : NoB t s x i k) (hb : (backs s x)[k]? = some (b : Int)) (hn : ¬ OkB t s x i b) : NoB t s x i (k + 1) := fun c hc => by
  rw [List.take_add_one, hb] at hc
  rcases List.mem_append.1 hc with hc | hc
  · exact h c hc
  · simp at hc
    obtain rfl : c = b := by omega
    exact hn
theorem NoB.all {t : List Int} {s x i : Nat} (hs : s < 8) (hx : x < 8) (hi : i < 3) (h1 : s / 2 ^ i % 2 = 1) (h0 : x / 2 ^ i % 2 = 0) (h : NoB t s x i (backs s x).length) : ¬ MvOne t s x i := fun hm => by
  obtain ⟨b, hb, ho⟩ := (mvOne_back hs hx hi h1 h0).1 hm
  exact h b (by rw [List.take_length]; exact hb) ho
/-- The first k things of s alone may be moved to x. -/
def MaTo (t : List Int) (s x k : Nat) : Prop := ∀ i : Nat, i < 3 → ((2 ^ i : Nat) : Int) ∈ (on (s - (s &&& x))).take k → MvOne t s x i
theorem MaTo.zero (t : List Int) (s x : Nat) : MaTo t s x 0 := fun i _ h => absurd h (by simp)
theorem pow_inj3 {i j : Nat} (hi : i < 3) (hj : j < 3) (h : 2 ^ i = 2 ^ j) : i = j := by
  rcases nat3 hi with rfl | rfl | rfl <;> rcases nat3 hj with rfl | rfl | rfl <;> simp at h ⊢
theorem MaTo.next {t : List Int} {s x k i : Nat} (h : MaTo t s x k) (hi : i < 3) (hb : (on (s - (s &&& x)))[k]? = some ((2 ^ i : Nat) : Int)) (hm : MvOne t s x i) : MaTo t s x (k + 1) := fun j hj hc => by
  rw [List.take_add_one, hb] at hc
  rcases List.mem_append.1 hc with hc | hc
  · exact h j hj hc
  · simp at hc
    have e : 2 ^ j = 2 ^ i := by have : ((2 ^ j : Nat) : Int) = ((2 ^ i : Nat) : Int) := by simpa using hc
                                 omega
    rw [pow_inj3 hj hi e]; exact hm
noncomputable def maB (t : List Int) (s x : Nat) : Bool := @decide (MvI t s x 3) (Classical.propDecidable _)
theorem maB_true {t : List Int} {s x : Nat} (h : MvI t s x 3) : maB t s x = true := by unfold maB; simp [h]
theorem maB_false {t : List Int} {s x : Nat} (h : ¬ MvI t s x 3) : maB t s x = false := by unfold maB; simp [h]
theorem maB_iff {t : List Int} {s x : Nat} : maB t s x = true ↔ MvI t s x 3 := by unfold maB; simp
theorem MaTo.all {t : List Int} {s x : Nat} (hs : s < 8) (hx : x < 8) (h : MaTo t s x (on (s - (s &&& x))).length) : maB t s x = true := maB_true (fun i hi h1 h0 => h i hi (by rw [List.take_length]; exact on_has hi ((only_bits hx hs hi).2 ⟨h1, h0⟩)))
theorem maB_no {t : List Int} {s x i : Nat} (hi : i < 3) (h1 : s / 2 ^ i % 2 = 1) (h0 : x / 2 ^ i % 2 = 0) (h : ¬ MvOne t s x i) : maB t s x = false := maB_false (fun hm => h (hm i hi h1 h0))
theorem lit8_at (f : Nat → Int) {k : Nat} (hk : k < 8) : T (lit8 f) k = f k := by rcases nat8 hk with rfl | rfl | rfl | rfl | rfl | rfl | rfl | rfl <;> rfl
theorem only_lt {s x : Nat} (hs : s < 8) : s - (s &&& x) < 8 := Nat.lt_of_le_of_lt (Nat.sub_le _ _) hs
theorem xor_nat {a b : Nat} (ha : a < 8) (hb : b < 8) : bits .xor .i64 (a : Int) (b : Int) = ((a ^^^ b : Nat) : Int) := by
  have : ∀ a, a < 8 → ∀ b, b < 8 → bits .xor .i64 ((a : Nat) : Int) ((b : Nat) : Int) = ((a ^^^ b : Nat) : Int) := by decide
  exact this a ha b hb
theorem xor8 {p r : Nat} (hp : p < 8) (hr : r < 8) : p ^^^ r < 8 := by
  have : ∀ p, p < 8 → ∀ r, r < 8 → p ^^^ r < 8 := by decide
  exact this p hp r hr

set_option maxRecDepth 100000 in
set_option maxHeartbeats 1000000 in
theorem movesAll_any (t : List Int) (s x : Nat) (w : World) (hv : VT t) (hs : s < 8) (hx : x < 8) :
    Calls Try.prog 158 #[ag8 (T t), .int .i64 (s : Int), .int .i64 (x : Int)] w fun e w' => e = .returned (.bool (maB t s x)) ∧ Below w.heap.size w w' := by
  have HB1 := Lib.hid (fun w1 => onesIn_any (x - (x &&& s)) (only_lt hx) w1)
  have HB2 := Lib.hid (fun w1 => onesIn_any (s - (s &&& x)) (only_lt hs) w1)
  have ha1 := andNot_nat hx hs
  have ha2 := andNot_nat hs hx
  have HI := Lib.hid (fun (k : Nat) (hk : k < 8) => idx8 (T t) hk)
  have HBD := Lib.hid (fun s (hs : s < 8) => hv.bd hs)
  have HBL : Hid (on (x - (x &&& s)) ++ [0] = backs s x) := Lib.hid rfl
  have hs0 : (0 : Int) ≤ (s : Int) := by omega
  have hs8 : (s : Int) < 8 := by omega
  have hx0 : (0 : Int) ≤ (x : Int) := by omega
  have hx8 : (x : Int) < 8 := by omega
  obtain ⟨P, hP⟩ : ∃ P, P = x - (x &&& s) := ⟨_, rfl⟩
  obtain ⟨Q, hQ⟩ : ∃ Q, Q = s - (s &&& x) := ⟨_, rfl⟩
  rw [← hP] at HB1 ha1 HBL
  rw [← hQ] at HB2 ha2
  have HQE := Lib.hid hQ
  obtain ⟨M, hM⟩ : ∃ M, M = maB t s x := ⟨_, rfl⟩
  rw [← hM]
  have HMM := Lib.hid hM
  clear hP hQ hM
  unfold ag8
  go_enter Try.func158, Try.ntmps158
  go_wp2_with fail
  go_step3
  go_wp2_with fail
  obtain ⟨wT, hwT⟩ : ∃ wT, wT = w.alloc (.cells #[.int .i64 (T t 0), .int .i64 (T t 1), .int .i64 (T t 2), .int .i64 (T t 3), .int .i64 (T t 4), .int .i64 (T t 5), .int .i64 (T t 6), .int .i64 (T t 7)] 63) := ⟨_, rfl⟩
  rw [← hwT]
  have hpl : (on P).length ≤ 3 := by rw [on_len]; exact th_le P
  refine (HB1.out _).mono ?_
  rintro e w2 ⟨A1, c1, rfl, o1, b1⟩
  have HOL := Lib.hid (own_lit w2 [(0 : Int)] (by simp))
  have HOA : Hid (Own (w2.alloc (.cells #[.int .i64 0] 3)) wT.heap.size A1 c1 (on P)) := Lib.hid (World.ownsRow.alloc o1 _)
  have hbA := b1.alloc b1.size (.cells #[.int .i64 0] 3)
  go_wp2_with (at_builtin; refine wpList_append_any rfl _ _ 26 Try.underlying26 rfl wT.heap.size A1 c1 (on P) (on P).length rfl rfl HOA.out _ _ [(0 : Int)] 1 rfl rfl HOL.out.rd (by omega) hbA.size ?_; intro A4 c4 w4 o4 g4)
  have B4 := Own.grownBelow0 hbA HOA.out hbA.size g4
  rw [HBL.out] at o4
  have HO4 := Lib.hid o4
  clear HOA HOL hbA g4 b1 o1 o4
  go_step3
  go_wp2_with fail
  refine (HB2.out _).mono ?_
  rintro e w5 ⟨A5, c5, rfl, o5, b5⟩
  have h5 : Hid (Rd w5 A5 c5 (on Q)) := Lib.hid o5.rd
  have h4 : Hid (Rd w5 A4 c4 (backs s x)) := Lib.hid (HO4.out.rd.below b5)
  have HAR : Hid (Arr w5 w.heap.size (lit8 (T t))) := Lib.hid (by
    have h1 : Arr wT w.heap.size (lit8 (T t)) := by rw [hwT]; exact Arr.new w (lit8 (T t)) rfl
    exact (h1.keep (B4.block _ h1.lt)).keep (b5.block _ (Nat.lt_of_lt_of_le h1.lt B4.size)))
  have HBF : Hid (Below w.heap.size w w5) := Lib.hid (by
    have h1 : Below w.heap.size w wT := by rw [hwT]; exact (Below.refl _ w).alloc (Nat.le_refl _) _
    exact below_then (below_then h1 B4) b5)
  have hpl1 : (on P).length + 1 = (backs s x).length := by rw [← HBL.out, List.length_append]; rfl
  have hql : (on Q).length ≤ 3 := by rw [on_len]; exact th_le Q
  clear HO4 o5 b5 B4 hwT
  have hcells := fun (k : Nat) (hk : k < 8) => HAR.out.cell hk
  have hcu := hcells s hs
  have hcv := hcells x hx
  have HCELL : Hid (∀ k, k < 8 → w5.cell? ⟨w.heap.size, k, none⟩ = some (.int .i64 (T t k))) := Lib.hid (fun k hk => by rw [hcells k hk, lit8_at _ hk])
  rw [lit8_at _ hs] at hcu
  rw [lit8_at _ hx] at hcv
  have hub := HBD.out s hs
  have hvb := HBD.out x hx
  have HUU : Hid (∀ i b, OkB t s x i b ↔ T t s + T t x ≤ T t (s ^^^ (2 ^ i ||| b)) + T t (x ^^^ (2 ^ i ||| b))) := Lib.hid (fun i b => Iff.rfl)
  obtain ⟨u, hu⟩ : ∃ u, u = T t s := ⟨_, rfl⟩
  obtain ⟨v, hv2⟩ : ∃ v, v = T t x := ⟨_, rfl⟩
  have HMB := Lib.hid (fun (y : Int) (h : y ∈ backs s x) => backs_mem hs hx h)
  have HMQ : Hid (∀ y ∈ on Q, ∃ i : Nat, y = ((2 ^ i : Nat) : Int) ∧ i < 3 ∧ s / 2 ^ i % 2 = 1 ∧ x / 2 ^ i % 2 = 0) := Lib.hid (fun y hy => by
    obtain ⟨i, hi, hb, rfl⟩ := on_mem hy
    rw [HQE.out] at hb
    obtain ⟨h1, h0⟩ := (only_bits hx hs hi).1 hb
    exact ⟨i, rfl, hi, h1, h0⟩)
  have HALL := Lib.hid (fun (h : MaTo t s x (on Q).length) => MaTo.all hs hx (by rw [← HQE.out]; exact h))
  have HNO := Lib.hid (fun (i : Nat) (hi : i < 3) (h1 : s / 2 ^ i % 2 = 1) (h0 : x / 2 ^ i % 2 = 0) (h : NoB t s x i (backs s x).length) => maB_no hi h1 h0 (NoB.all hs hx hi h1 h0 h))
  have HNX := Lib.hid (fun (k i : Nat) (hm : MaTo t s x k) (hi : i < 3) (hb : (on Q)[k]? = some ((2 ^ i : Nat) : Int)) (ho : MvOne t s x i) => hm.next hi (by rw [← HQE.out]; exact hb) ho)
  have HOB := Lib.hid (fun (i b : Nat) (hi : i < 3) (h1 : s / 2 ^ i % 2 = 1) (h0 : x / 2 ^ i % 2 = 0) (hb : (b : Int) ∈ backs s x) (ho : OkB t s x i b) => (mvOne_back hs hx hi h1 h0).2 ⟨b, hb, ho⟩)
  have HX8 := Lib.hid (And.intro hs hx)
  obtain ⟨LB, hLB⟩ : ∃ LB, LB = (backs s x).length := ⟨_, rfl⟩
  obtain ⟨LQ, hLQ⟩ : ∃ LQ, LQ = (on Q).length := ⟨_, rfl⟩
  have HLB := Lib.hid hLB
  have HLQ := Lib.hid hLQ
  have hLB4 : LB ≤ 4 := by omega
  rw [← HMM.out] at HALL HNO
  rw [← hu, ← hv2] at HUU
  rw [← hu] at hcu hub
  rw [← hv2] at hcv hvb
  rw [← hLB] at HNO
  rw [← hLQ] at HALL hql
  have ew : IntKind.i64.wrap (u + v) = u + v := IntWalk.i64_in _ (by omega)
  rw [← hLB] at hpl1
  rw [hpl1, ← hLQ]
  clear HMM hu hv2 hub hvb hLB hLQ hcells hs hx HAR hv HQE HBL hpl1 HB1 HB2 hpl HI ha1 ha2
  go_wp2_with fail
  go_loopg [24] LQ (fun g iv wx => ∃ k n : Nat, k + g = LQ ∧ iv = .int .i64 (k : Int) ∧ wx = w5.drewN n ∧ Hid (MaTo t s x k))
  case atStart => exact ⟨0, 0, by omega, rfl, rfl, Lib.hid (MaTo.zero t s x)⟩
  case round =>
    obtain ⟨k, n, hkg, rfl, rfl, HM⟩ := hrel
    cases gk with
    | zero =>
      obtain rfl : k = LQ := by omega
      have HE := Lib.hid (HALL.out HM.out)
      have hn : ¬ (k : Int) < (k : Int) := by omega
      go_wp2
      try rw [Exit.noGoto_ret]
      go_ret
      exact ⟨by rw [HE.out]; rfl, below_drewN' HBF.out n⟩
    | succ g =>
      have hlt : (k : Int) < (LQ : Int) := by omega
      obtain ⟨b, off, y, rfl, _, hy, hc⟩ := h5.out.at_ (k := k) (by rw [← HLQ.out]; omega)
      obtain ⟨i, rfl, hi, h1, h0⟩ := HMQ.out y (List.mem_of_getElem? hy.out)
      have HNEXT := Lib.hid (fun (ho : MvOne t s x i) => HNX.out k i HM.out hi hy.out ho)
      have HNOO := Lib.hid (fun (h : NoB t s x i LB) => HNO.out i hi h1 h0 h)
      have HOBB := Lib.hid (fun (b : Nat) (hb : (b : Int) ∈ backs s x) (ho : OkB t s x i b) => HOB.out i b hi h1 h0 hb ho)
      have hp8 : 2 ^ i < 8 := by rcases nat3 hi with rfl | rfl | rfl <;> decide
      have HUI := Lib.hid (fun b => HUU.out i b)
      obtain ⟨p, hp⟩ : ∃ p, p = 2 ^ i := ⟨_, rfl⟩
      rw [← hp] at hc hp8 HUI
      clear hp hy h1 h0 hi
      go_wp2_with fail
      go_loopg [30] LB (fun g2 iv wx => ∃ j m : Nat, j + g2 = LB ∧ iv = .int .i64 (j : Int) ∧ wx = w5.drewN m ∧ Hid (NoB t s x i j))
      case atStart => exact ⟨0, n, by omega, rfl, rfl, Lib.hid (NoB.zero t s x i)⟩
      case round =>
        obtain ⟨j, m, hjg, rfl, rfl, HB⟩ := hrel
        cases gk with
        | zero =>
          obtain rfl : j = LB := by omega
          have HE := Lib.hid (HNOO.out HB.out)
          have hn : ¬ (j : Int) < (j : Int) := by omega
          go_wp2
          try rw [Exit.noGoto_ret]
          go_ret
          exact ⟨by rw [HE.out]; rfl, below_drewN' HBF.out m⟩
        | succ g2 =>
          have hjl : (j : Int) < (LB : Int) := by omega
          obtain ⟨b2, off2, z, rfl, _, hz, hc2⟩ := h4.out.at_ (k := j) (by rw [← HLB.out]; omega)
          obtain ⟨bk, rfl, hb8, _⟩ := HMB.out z (List.mem_of_getElem? hz.out)
          have hor := or_nat hp8 hb8
          have ho8 := or8 hp8 hb8
          have hxs := xor_nat HX8.out.1 ho8
          have hxx := xor_nat HX8.out.2 ho8
          have hs8' := xor8 HX8.out.1 ho8
          have hx8' := xor8 HX8.out.2 ho8
          have hcy := HCELL.out _ hs8'
          have hcz := HCELL.out _ hx8'
          have hyb := HBD.out _ hs8'
          have hzb := HBD.out _ hx8'
          have HOK := Lib.hid (HUI.out bk)
          have HMEM := Lib.hid (List.mem_of_getElem? hz.out)
          have HNN := Lib.hid (fun (hn : ¬ OkB t s x i bk) => HB.out.next hz.out hn)
          obtain ⟨mv, hmv⟩ : ∃ mv, mv = p ||| bk := ⟨_, rfl⟩
          rw [← hmv] at hor hxs hxx hcy hcz HOK hs8' hx8' ho8 hyb hzb
          obtain ⟨q, hq⟩ : ∃ q, q = s ^^^ mv := ⟨_, rfl⟩
          obtain ⟨r, hr⟩ : ∃ r, r = x ^^^ mv := ⟨_, rfl⟩
          rw [← hq] at hxs hcy HOK hs8' hyb
          rw [← hr] at hxx hcz HOK hx8' hzb
          obtain ⟨y, hy⟩ : ∃ y, y = T t q := ⟨_, rfl⟩
          obtain ⟨z, hz2⟩ : ∃ z, z = T t r := ⟨_, rfl⟩
          rw [← hy] at hcy HOK hyb
          rw [← hz2] at hcz HOK hzb
          have ew2 : IntKind.i64.wrap (y + z) = y + z := IntWalk.i64_in _ (by omega)
          have hq0 : (0 : Int) ≤ (q : Int) := by omega
          have hq8 : (q : Int) < 8 := by omega
          have hr0 : (0 : Int) ≤ (r : Int) := by omega
          have hr8 : (r : Int) < 8 := by omega
          clear hmv hq hr hy hz2 hz hs8' hx8' ho8 hyb hzb
          by_cases hh : u + v ≤ y + z
          · have HE := Lib.hid (HNEXT.out (HOBB.out bk HMEM.out (HOK.out.2 hh)))
            have hk1 : k + 1 + g = LQ := by omega
            go_wp2_with fail
            go_quiet (fail)
            go_wp2
            go_roundg g
            case rel => exact ⟨k + 1, _, hk1, by go_num, rfl, HE⟩
            case measure => omega
          · have HE := Lib.hid (HNN.out (fun h => hh (HOK.out.1 h)))
            have hj1 : j + 1 + g2 = LB := by omega
            go_wp2_with fail
            go_quiet (fail)
            go_wp2
            go_roundg g2
            case rel => exact ⟨j + 1, _, hj1, by go_num, rfl, HE⟩
            case measure => omega

end Go.Proofs.Ytccbjgajmjcpjab

/-
  Chapter 6: the program's SwapsByMoves; both sides.
-/
namespace Go.Proofs.Ytccbjgajmjcpjab
open Go.RowKit

theorem maB_mv {t : List Int} (h : mvB t = true) {s x : Nat} (hs : s < 8) (hx : x < 8) : maB t s x = true := maB_true (fun i hi h1 h0 => (mvB_iff.1 h).2 s hs x hx i hi h1 h0)
theorem mvB_no {t : List Int} {s x : Nat} (hs : s < 8) (hx : x < 8) (h : maB t s x = false) : mvB t = false := by
  rcases hb : mvB t with _ | _
  · rfl
  · rw [maB_mv hb hs hx] at h; cases h

set_option maxRecDepth 100000 in
set_option maxHeartbeats 1600000 in
theorem SwapsByMoves_any (A : Option Addr) (c : Nat) (t : List Int) (w : World) (h : Rd w A c t) (hl : t.length ≤ 1099511627776) :
    Calls Try.prog 100 #[.slice A t.length c] w fun e w' => e = .returned (.bool (mvB t)) ∧ Below w.heap.size w w' := by
  have HV := Lib.hid (ValidTable_any A c t w h hl)
  by_cases hv : VT t
  · rw [vt_true hv] at HV
    have h8 := hv.1
    obtain ⟨b, off, rfl⟩ := h.some_ h8
    have HM := Lib.hid (fun (s x : Nat) (hs : s < 8) (hx : x < 8) (w1 : World) => movesAll_any t s x w1 hv hs hx)
    have HN := Lib.hid (fun (s x : Nat) (hs : s < 8) (hx : x < 8) (hn : maB t s x = false) => mvB_no hs hx hn)
    have HY := Lib.hid (fun (hm : MvS t 8) => mvB_true hv hm.mv)
    have hap := arr_ptr b off c
    rw [h8] at HV ⊢
    clear hv
    go_enter Try.func100, Try.ntmps100
    go_wp2_with (go_at_call 103; refine HV.out.mono ?_; rintro e w1 ⟨rfl, hb1⟩)
    go_loopw [10] (fun iv wr => ∃ k : Nat, k ≤ 8 ∧ iv = .int .i64 (k : Int) ∧ Below w.heap.size w wr ∧ Hid (MvS t k)) (fun iv _ => 8 - (intOf iv).toNat)
    case atStart => exact ⟨0, by omega, rfl, hb1, Lib.hid (MvS.zero t)⟩
    case round =>
      obtain ⟨s, hs, rfl, hb, HS⟩ := hrel
      by_cases hlt : s < 8
      · have hs8 : (s : Int) < 8 := by omega
        have hs1 : s + 1 ≤ 8 := hlt
        have HLT := Lib.hid hlt
        clear hlt
        go_wp2
        go_loopw [15] (fun iv wr => ∃ k : Nat, k ≤ 8 ∧ iv = .int .i64 (k : Int) ∧ Below w.heap.size w wr ∧ Hid (MvX t s k)) (fun iv _ => 8 - (intOf iv).toNat)
        case atStart => exact ⟨0, by omega, rfl, hb, Lib.hid (MvX.zero t s)⟩
        case round =>
          obtain ⟨x, hx, rfl, hbx, HX⟩ := hrel
          by_cases hlt : x < 8
          · have hx8 : (x : Int) < 8 := by omega
            have hx1 : x + 1 ≤ 8 := hlt
            have HC := Lib.hid (fun w1 => HM.out s x HLT.out hlt w1)
            have HNE := Lib.hid (HN.out s x HLT.out hlt)
            have HYE := Lib.hid (fun (hm : maB t s x = true) => HX.out.next (maB_iff.1 hm))
            obtain ⟨c0, c1, c2, c3, c4, c5, c6, c7⟩ := (h.below hbx).eight h8
            clear hlt
            rcases hmb : maB t s x with _ | _
            · have HE := Lib.hid (HNE.out hmb)
              rw [hmb] at HC
              clear hmb HNE HYE
              go_wp2_with fail
              refine (HC.out _).mono ?_
              rintro e w2 ⟨rfl, hb2⟩
              go_wp2
              go_ret
              exact ⟨by rw [HE.out]; rfl, below_then hbx hb2⟩
            · have HE := Lib.hid (HYE.out hmb)
              rw [hmb] at HC
              clear hmb HNE HYE
              go_wp2_with fail
              refine (HC.out _).mono ?_
              rintro e w2 ⟨rfl, hb2⟩
              go_wp2
              go_roundw
              case rel => exact ⟨x + 1, hx1, by go_num, below_then hbx hb2, HE⟩
              case measure => simp [intOf]; omega
          · obtain rfl : x = 8 := by omega
            have HU := Lib.hid (HS.out.next HX.out)
            go_wp2
            go_roundw
            case rel => exact ⟨s + 1, hs1, by go_num, hbx, HU⟩
            case measure => simp [intOf]; omega
      · obtain rfl : s = 8 := by omega
        have HE := Lib.hid (HY.out HS.out)
        go_wp2
        go_ret
        exact ⟨by rw [HE.out]; rfl, hb⟩
  · rw [vt_false hv] at HV
    have HE := Lib.hid (mvB_false (t := t) (fun h => hv h.1))
    clear hv
    go_enter Try.func100, Try.ntmps100
    go_wp2_with (go_at_call 103; refine HV.out.mono ?_; rintro e w1 ⟨rfl, hb⟩)
    go_ret
    exact ⟨by rw [HE.out]; rfl, hb⟩

end Go.Proofs.Ytccbjgajmjcpjab
