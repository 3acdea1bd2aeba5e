/-
  Chapter 6: which things may be moved, by the model: moves, byMoves, SwapsByMoves.
-/
import Derived.Test.YtpildecpabeanaaG20
import Derived.Test.YtpildecpabeanaaG06
import Derived.WalkMore
import Derived.Deep.LoopGhost
namespace Go.Proofs.Ytpildecpabeanaa
open Go.RowKit

noncomputable def moB (t : List Int) (s x i : Nat) : Bool := @decide (MvOne t s x i) (Classical.propDecidable _)
theorem moB_true {t : List Int} {s x i : Nat} (h : MvOne t s x i) : moB t s x i = true := by unfold moB; simp [h]
theorem moB_false {t : List Int} {s x i : Nat} (h : ¬ MvOne t s x i) : moB t s x i = false := by unfold moB; simp [h]
theorem moB_iff {t : List Int} {s x i : Nat} : moB t s x i = true ↔ MvOne t s x i := by unfold moB; simp
/-- None of the first k things can be moved back. -/
def MvNo (t : List Int) (s x i k : Nat) : Prop := ∀ j, j < k → x / 2 ^ j % 2 = 1 → s / 2 ^ j % 2 = 0 → ¬ T t s + T t x ≤ T t (s - 2 ^ i + 2 ^ j) + T t (x + 2 ^ i - 2 ^ j)
theorem MvNo.zero (t : List Int) (s x i : Nat) : MvNo t s x i 0 := fun j h => absurd h (by omega)
theorem MvNo.next {t : List Int} {s x i k : Nat} (h : MvNo t s x i k) (hk : x / 2 ^ k % 2 = 1 → s / 2 ^ k % 2 = 0 → ¬ T t s + T t x ≤ T t (s - 2 ^ i + 2 ^ k) + T t (x + 2 ^ i - 2 ^ k)) : MvNo t s x i (k + 1) := fun j hj => by
  rcases Nat.lt_or_ge j k with h1 | h1
  · exact h j h1
  · rw [show j = k by omega]; exact hk
theorem moB_all {t : List Int} {s x i : Nat} (h0 : ¬ T t s + T t x ≤ T t (s - 2 ^ i) + T t (x + 2 ^ i)) (h : MvNo t s x i 3) : moB t s x i = false := moB_false (by
  rintro (h1 | ⟨j, hj, h1, h2, h3⟩)
  · exact h0 h1
  · exact h j hj h1 h2 h3)
theorem mv_fit {s x i : Nat} (hs : s < 8) (hx : x < 8) (hi : i < 3) (h1 : s / 2 ^ i % 2 = 1) (h0 : x / 2 ^ i % 2 = 0) : 2 ^ i ≤ s ∧ x + 2 ^ i < 8 ∧ 2 ^ i ≤ 4 := by
  rcases nat3 hi with rfl | rfl | rfl <;> simp at h1 h0 ⊢ <;> omega
theorem mv_fit2 {s x i j : Nat} (hs : s < 8) (hx : x < 8) (hi : i < 3) (hj : j < 3) (h1 : s / 2 ^ i % 2 = 1) (h0 : x / 2 ^ i % 2 = 0) (g1 : x / 2 ^ j % 2 = 1) (g0 : s / 2 ^ j % 2 = 0) : s - 2 ^ i + 2 ^ j < 8 ∧ 2 ^ j ≤ x + 2 ^ i ∧ 2 ^ j ≤ 4 := by
  rcases nat3 hi with rfl | rfl | rfl <;> rcases nat3 hj with rfl | rfl | rfl <;> simp at h1 h0 g1 g0 ⊢ <;> omega

end Go.Proofs.Ytpildecpabeanaa

/-
  Chapter 6: which things may be moved, by the model: byMoves, SwapsByMoves.
-/
namespace Go.Proofs.Ytpildecpabeanaa
open Go.RowKit

/-- The thing i may be moved from s to x, if it is there and not here. -/
def MvQ (t : List Int) (s x i : Nat) : Prop := s / 2 ^ i % 2 = 1 → x / 2 ^ i % 2 = 0 → MvOne t s x i
def MvI (t : List Int) (s x k : Nat) : Prop := ∀ i, i < k → MvQ t s x i
def MvX (t : List Int) (s k : Nat) : Prop := ∀ x, x < k → MvI t s x 3
def MvS (t : List Int) (k : Nat) : Prop := ∀ s, s < k → MvX t s 8
theorem MvI.zero (t : List Int) (s x : Nat) : MvI t s x 0 := fun i h => absurd h (by omega)
theorem MvX.zero (t : List Int) (s : Nat) : MvX t s 0 := fun i h => absurd h (by omega)
theorem MvS.zero (t : List Int) : MvS t 0 := fun i h => absurd h (by omega)
theorem MvI.next {t : List Int} {s x k : Nat} (h : MvI t s x k) (hk : MvQ t s x k) : MvI t s x (k + 1) := fun i hi => by
  rcases Nat.lt_or_ge i k with h1 | h1
  · exact h i h1
  · rw [show i = k by omega]; exact hk
theorem MvX.next {t : List Int} {s k : Nat} (h : MvX t s k) (hk : MvI t s k 3) : MvX t s (k + 1) := fun i hi => by
  rcases Nat.lt_or_ge i k with h1 | h1
  · exact h i h1
  · rw [show i = k by omega]; exact hk
theorem MvS.next {t : List Int} {k : Nat} (h : MvS t k) (hk : MvX t k 8) : MvS t (k + 1) := fun i hi => by
  rcases Nat.lt_or_ge i k with h1 | h1
  · exact h i h1
  · rw [show i = k by omega]; exact hk
theorem MvS.mv {t : List Int} (h : MvS t 8) : Mv t := fun s hs x hx i hi h1 h2 => h s hs x hx i hi h1 h2

end Go.Proofs.Ytpildecpabeanaa

/-
  Chapter 6: the program's movesAll.
-/
namespace Go.Proofs.Ytpildecpabeanaa
open Go.RowKit

/-- The thing i moves, and what is told moves back, without loss. -/
def OkB (t : List Int) (s x i b : Nat) : Prop := T t s + T t x ≤ T t (s ^^^ (2 ^ i ||| b)) + T t (x ^^^ (2 ^ i ||| b))
theorem xor_fit {s x i : Nat} (hs : s < 8) (hx : x < 8) (hi : i < 3) (h1 : s / 2 ^ i % 2 = 1) (h0 : x / 2 ^ i % 2 = 0) : s ^^^ (2 ^ i ||| 0) = s - 2 ^ i ∧ x ^^^ (2 ^ i ||| 0) = x + 2 ^ i := by
  have := all2 (p := fun s x => (List.range 3).all fun i => !(s / 2 ^ i % 2 == 1 && x / 2 ^ i % 2 == 0) || (s ^^^ (2 ^ i ||| 0) == s - 2 ^ i && x ^^^ (2 ^ i ||| 0) == x + 2 ^ i)) (by decide +kernel) hs hx
  rw [List.all_eq_true] at this
  have := this i (by simpa using hi)
  simpa [h1, h0] using this
theorem xor_fit2 {s x i j : Nat} (hs : s < 8) (hx : x < 8) (hi : i < 3) (hj : j < 3) (h1 : s / 2 ^ i % 2 = 1) (h0 : x / 2 ^ i % 2 = 0) (g1 : x / 2 ^ j % 2 = 1) (g0 : s / 2 ^ j % 2 = 0) :
    s ^^^ (2 ^ i ||| 2 ^ j) = s - 2 ^ i + 2 ^ j ∧ x ^^^ (2 ^ i ||| 2 ^ j) = x + 2 ^ i - 2 ^ j := by
  have := all2 (p := fun s x => (List.range 3).all fun i => (List.range 3).all fun j => !(s / 2 ^ i % 2 == 1 && x / 2 ^ i % 2 == 0 && x / 2 ^ j % 2 == 1 && s / 2 ^ j % 2 == 0) || (s ^^^ (2 ^ i ||| 2 ^ j) == s - 2 ^ i + 2 ^ j && x ^^^ (2 ^ i ||| 2 ^ j) == x + 2 ^ i - 2 ^ j)) (by decide +kernel) hs hx
  rw [List.all_eq_true] at this
  have := this i (by simpa using hi)
  rw [List.all_eq_true] at this
  have := this j (by simpa using hj)
  simpa [h1, h0, g1, g0] using this
theorem only_bits {s x j : Nat} (hs : s < 8) (hx : x < 8) (hj : j < 3) : (x - (x &&& s)) / 2 ^ j % 2 = 1 ↔ (x / 2 ^ j % 2 = 1 ∧ s / 2 ^ j % 2 = 0) := by
  have : ∀ s, s < 8 → ∀ x, x < 8 → ∀ j, j < 3 → ((x - (x &&& s)) / 2 ^ j % 2 = 1 ↔ (x / 2 ^ j % 2 = 1 ∧ s / 2 ^ j % 2 = 0)) := by decide +kernel
  exact this s hs x hx j hj
/-- What may move back. -/
def backs (s x : Nat) : List Int := on (x - (x &&& s)) ++ [0]
theorem backs_mem {s x : Nat} (hs : s < 8) (hx : x < 8) {y : Int} (h : y ∈ backs s x) : ∃ b : Nat, y = (b : Int) ∧ b < 8 ∧ (b = 0 ∨ ∃ j, j < 3 ∧ b = 2 ^ j ∧ x / 2 ^ j % 2 = 1 ∧ s / 2 ^ j % 2 = 0) := by
  rcases List.mem_append.1 h with h | h
  · obtain ⟨j, hj, hb, rfl⟩ := on_mem h
    obtain ⟨b1, b0⟩ := (only_bits hs hx hj).1 hb
    exact ⟨2 ^ j, rfl, by rcases nat3 hj with rfl | rfl | rfl <;> decide, .inr ⟨j, hj, rfl, b1, b0⟩⟩
  · simp at h
    exact ⟨0, by simpa using h, by omega, .inl rfl⟩
theorem mvOne_back {t : List Int} {s x i : Nat} (hs : s < 8) (hx : x < 8) (hi : i < 3) (h1 : s / 2 ^ i % 2 = 1) (h0 : x / 2 ^ i % 2 = 0) : MvOne t s x i ↔ ∃ b : Nat, (b : Int) ∈ backs s x ∧ OkB t s x i b := by
  constructor
  · rintro (h | ⟨j, hj, g1, g0, h⟩)
    · obtain ⟨e1, e2⟩ := xor_fit hs hx hi h1 h0
      exact ⟨0, by simp [backs], by unfold OkB; rw [e1, e2]; exact h⟩
    · obtain ⟨e1, e2⟩ := xor_fit2 hs hx hi hj h1 h0 g1 g0
      exact ⟨2 ^ j, List.mem_append.2 (.inl (on_has hj ((only_bits hs hx hj).2 ⟨g1, g0⟩))), by unfold OkB; rw [e1, e2]; exact h⟩
  · rintro ⟨b, hb, h⟩
    obtain ⟨c, hc, _, h2⟩ := backs_mem hs hx hb
    obtain rfl : b = c := by omega
    rcases h2 with rfl | ⟨j, hj, rfl, g1, g0⟩
    · obtain ⟨e1, e2⟩ := xor_fit hs hx hi h1 h0
      unfold OkB at h
      rw [e1, e2] at h
      exact .inl h
    · obtain ⟨e1, e2⟩ := xor_fit2 hs hx hi hj h1 h0 g1 g0
      unfold OkB at h
      rw [e1, e2] at h
      exact .inr ⟨j, hj, g1, g0, h⟩
/-- None of the first k ways back will do. -/
def NoB (t : List Int) (s x i k : Nat) : Prop := ∀ b : Nat, (b : Int) ∈ (backs s x).take k → ¬ OkB t s x i b
theorem NoB.zero (t : List Int) (s x i : Nat) : NoB t s x i 0 := fun b h => absurd h (by simp)
theorem NoB.next {t : List Int} {s x i k b : Nat} (h : NoB t s x i k) (hb : (backs s x)[k]? = some (b : Int)) (hn : ¬ OkB t s x i b) : NoB t s x i (k + 1) := fun c hc => by
  rw [List.take_add_one, hb] at hc
  rcases List.mem_append.1 hc with hc | hc
  · exact h c hc
  · simp at hc
    obtain rfl : c = b := by omega
    exact hn
theorem NoB.all {t : List Int} {s x i : Nat} (hs : s < 8) (hx : x < 8) (hi : i < 3) (h1 : s / 2 ^ i % 2 = 1) (h0 : x / 2 ^ i % 2 = 0) (h : NoB t s x i (backs s x).length) : ¬ MvOne t s x i := fun hm => by
  obtain ⟨b, hb, ho⟩ := (mvOne_back hs hx hi h1 h0).1 hm
  exact h b (by rw [List.take_length]; exact hb) ho
/-- The first k things of s alone may be moved to x. -/
def MaTo (t : List Int) (s x k : Nat) : Prop := ∀ i : Nat, i < 3 → ((2 ^ i : Nat) : Int) ∈ (on (s - (s &&& x))).take k → MvOne t s x i
theorem MaTo.zero (t : List Int) (s x : Nat) : MaTo t s x 0 := fun i _ h => absurd h (by simp)
theorem pow_inj3 {i j : Nat} (hi : i < 3) (hj : j < 3) (h : 2 ^ i = 2 ^ j) : i = j := by
  rcases nat3 hi with rfl | rfl | rfl <;> rcases nat3 hj with rfl | rfl | rfl <;> simp at h ⊢
theorem MaTo.next {t : List Int} {s x k i : Nat} (h : MaTo t s x k) (hi : i < 3) (hb : (on (s - (s &&& x)))[k]? = some ((2 ^ i : Nat) : Int)) (hm : MvOne t s x i) : MaTo t s x (k + 1) := fun j hj hc => by
  rw [List.take_add_one, hb] at hc
  rcases List.mem_append.1 hc with hc | hc
  · exact h j hj hc
  · simp at hc
    have e : 2 ^ j = 2 ^ i := by have : ((2 ^ j : Nat) : Int) = ((2 ^ i : Nat) : Int) := by simpa using hc
                                 omega
    rw [pow_inj3 hj hi e]; exact hm
noncomputable def maB (t : List Int) (s x : Nat) : Bool := @decide (MvI t s x 3) (Classical.propDecidable _)
theorem maB_true {t : List Int} {s x : Nat} (h : MvI t s x 3) : maB t s x = true := by unfold maB; simp [h]
theorem maB_false {t : List Int} {s x : Nat} (h : ¬ MvI t s x 3) : maB t s x = false := by unfold maB; simp [h]
theorem maB_iff {t : List Int} {s x : Nat} : maB t s x = true ↔ MvI t s x 3 := by unfold maB; simp
theorem MaTo.all {t : List Int} {s x : Nat} (hs : s < 8) (hx : x < 8) (h : MaTo t s x (on (s - (s &&& x))).length) : maB t s x = true := maB_true (fun i hi h1 h0 => h i hi (by rw [List.take_length]; exact on_has hi ((only_bits hx hs hi).2 ⟨h1, h0⟩)))
theorem maB_no {t : List Int} {s x i : Nat} (hi : i < 3) (h1 : s / 2 ^ i % 2 = 1) (h0 : x / 2 ^ i % 2 = 0) (h : ¬ MvOne t s x i) : maB t s x = false := maB_false (fun hm => h (hm i hi h1 h0))
theorem lit8_at (f : Nat → Int) {k : Nat} (hk : k < 8) : T (lit8 f) k = f k := by rcases nat8 hk with rfl | rfl | rfl | rfl | rfl | rfl | rfl | rfl <;> rfl
theorem only_lt {s x : Nat} (hs : s < 8) : s - (s &&& x) < 8 := Nat.lt_of_le_of_lt (Nat.sub_le _ _) hs
theorem xor_nat {a b : Nat} (ha : a < 8) (hb : b < 8) : bits .xor .i64 (a : Int) (b : Int) = ((a ^^^ b : Nat) : Int) := by
  have : ∀ a, a < 8 → ∀ b, b < 8 → bits .xor .i64 ((a : Nat) : Int) ((b : Nat) : Int) = ((a ^^^ b : Nat) : Int) := by decide
  exact this a ha b hb
theorem xor8 {p r : Nat} (hp : p < 8) (hr : r < 8) : p ^^^ r < 8 := by
  have : ∀ p, p < 8 → ∀ r, r < 8 → p ^^^ r < 8 := by decide
  exact this p hp r hr

end Go.Proofs.Ytpildecpabeanaa
