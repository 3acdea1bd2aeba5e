/-
  Chapter 7, plain: loads, prices that clear, and what things take when they are missing.
-/
import Derived.Test.YtfjncipekjnbjabJb
namespace Go.Proofs.Ytfjncipekjnbjab

/-- The sum of all surpluses. -/
def suS : List (List Int) → List Int → Int
  | [], _ => 0
  | t :: ts, p => su t p + suS ts p
/-- The load. -/
def lo (ts : List (List Int)) (p : List Int) : Int := pr p 7 + suS ts p
theorem suS_snoc (ts : List (List Int)) (t p : List Int) : suS (ts ++ [t]) p = suS ts p + su t p := by
  induction ts with
  | nil => simp [suS]
  | cons u ts ih => simp only [List.cons_append, suS, ih]; omega
theorem suS_step {ts : List (List Int)} {k : Nat} {t : List Int} (p : List Int) (h : ts[k]? = some t) : suS (ts.take (k + 1)) p = suS (ts.take k) p + su t p := by
  rw [List.take_add_one, h, ← suS_snoc]; rfl
theorem suS_bd {ts : List (List Int)} {p : List Int} (h : ∀ t ∈ ts, VT t) (hp : VP p) : 0 ≤ suS ts p ∧ suS ts p ≤ 30 * ts.length := by
  induction ts with
  | nil => simp [suS]
  | cons t ts ih =>
    have h1 := ih (fun u hu => h u (by simp [hu]))
    have h2 := suTo_bd (h t (by simp)) hp (k := 8) (Nat.le_refl _)
    have h3 : su t p = suTo t p 8 := rfl
    simp only [suS, List.length_cons]
    omega
theorem suS_take_bd {ts : List (List Int)} {p : List Int} (h : ∀ t ∈ ts, VT t) (hp : VP p) (k : Nat) : 0 ≤ suS (ts.take k) p ∧ suS (ts.take k) p ≤ 30 * ts.length := by
  have h1 := suS_bd (ts := ts.take k) (fun t ht => h t (List.mem_of_mem_take ht)) hp
  have h2 : (ts.take k).length ≤ ts.length := by rw [List.length_take]; omega
  omega

/-- Prices of a set and of the rest. -/
theorem pr_sub {p : List Int} {X s : Nat} (hX : X < 8) (hs : s ∈ subs X) : pr p s + pr p (X - s) = pr p X := by
  have hs8 := subs_lt hs
  have ha := subs_and hs
  obtain ⟨v0, v1, v2, v3, v4, v5, v6, v7⟩ := pr_vals p
  rcases nat8 hX with rfl | rfl | rfl | rfl | rfl | rfl | rfl | rfl <;> rcases nat8 hs8 with rfl | rfl | rfl | rfl | rfl | rfl | rfl | rfl <;>
    first
    | (exfalso; revert ha; decide)
    | (simp only [Nat.sub_self, Nat.sub_zero, Nat.reduceSub]; omega)
/-- What is had is no more than what is left, and the prices. -/
theorem got_load {p : List Int} {ts : List (List Int)} (hp : VP p) : ∀ {X : Nat} {v : Int}, X < 8 → Got ts X v → v ≤ suS ts p + pr p X := by
  induction ts with
  | nil => intro X v hX h; simp [Got] at h; simp [suS, h]; exact (hp.bd hX).1
  | cons t ts ih =>
    rintro X v hX ⟨s, hs, u, hu, rfl⟩
    have h1 := ih (sub_lt hX hs) hu
    have h2 := pr_sub (p := p) hX hs
    have h3 := su_le (t := t) (p := p) (subs_lt hs)
    unfold lf at h3
    simp only [suS]
    omega
theorem sv_load {p : List Int} {ts : List (List Int)} (hz : ∀ t ∈ ts, T t 0 = 0) (hp : VP p) {X : Nat} (hX : X < 8) : sv ts X ≤ suS ts p + pr p X := got_load hp hX (got_sv hz X)
/-- Loads are at least what all is worth. -/
theorem lo_ge {p : List Int} {ts : List (List Int)} (hz : ∀ t ∈ ts, T t 0 = 0) (hp : VP p) : sv ts 7 ≤ lo ts p := by
  have := sv_load hz hp (X := 7) (by omega)
  unfold lo; omega

/-- All is sold out of X, each one what is best. -/
def Clr : List (List Int) → List Int → Nat → Prop
  | [], p, X => pr p X = 0
  | t :: ts, p, X => ∃ s, s ∈ subs X ∧ lf t p s = su t p ∧ Clr ts p (X - s)
theorem clr_iff {p : List Int} {ts : List (List Int)} (hz : ∀ t ∈ ts, T t 0 = 0) (hp : VP p) : ∀ {X : Nat}, X < 8 → (Clr ts p X ↔ sv ts X = suS ts p + pr p X) := by
  have key : ∀ (ts : List (List Int)) {X : Nat}, X < 8 → (Clr ts p X ↔ Got ts X (suS ts p + pr p X)) := by
    intro ts
    induction ts with
    | nil => intro X hX; simp only [Clr, Got, suS]; omega
    | cons t ts ih =>
      intro X hX
      constructor
      · rintro ⟨s, hs, h1, h2⟩
        have h3 := pr_sub (p := p) hX hs
        unfold lf at h1
        exact ⟨s, hs, _, (ih (sub_lt hX hs)).1 h2, by simp only [suS]; omega⟩
      · rintro ⟨s, hs, u, hu, he⟩
        have h3 := pr_sub (p := p) hX hs
        have h4 := su_le (t := t) (p := p) (subs_lt hs)
        have h5 := got_load hp (sub_lt hX hs) hu
        simp only [suS] at he
        unfold lf at h4
        have e1 : lf t p s = su t p := by unfold lf; omega
        have e2 : u = suS ts p + pr p (X - s) := by omega
        exact ⟨s, hs, e1, (ih (sub_lt hX hs)).2 (e2 ▸ hu)⟩
  intro X hX
  rw [key ts hX]
  constructor
  · intro h
    exact Int.le_antisymm (sv_load hz hp hX) (got_le h)
  · intro h
    rw [← h]
    exact got_sv hz X
/-- Prices that clear are least loads. -/
theorem clr_load {p : List Int} {ts : List (List Int)} (hz : ∀ t ∈ ts, T t 0 = 0) (hp : VP p) : Clr ts p 7 ↔ lo ts p = sv ts 7 := by
  rw [clr_iff hz hp (by omega)]
  unfold lo
  omega

/-- How much less all is worth without thing j. -/
def mpF (ts : List (List Int)) (j : Nat) : Int := sv ts 7 - sv ts (7 - 2 ^ j)
theorem pow_sub7 {j : Nat} (hj : j < 3) : 7 - 2 ^ j ∈ subs 7 ∧ 2 ^ j ≤ 4 ∧ 7 - 2 ^ j < 8 := by
  rcases nat3 hj with rfl | rfl | rfl <;> decide
theorem mp_nn {ts : List (List Int)} (hz : ∀ t ∈ ts, T t 0 = 0) {j : Nat} (hj : j < 3) : 0 ≤ mpF ts j := by
  have := sv_more hz (X := 7 - 2 ^ j) (Y := 7) (by omega) (pow_sub7 hj).1
  unfold mpF; omega
theorem mp_bd {ts : List (List Int)} (h : ∀ t ∈ ts, VT t) {j : Nat} (hj : j < 3) : 0 ≤ mpF ts j ∧ mpF ts j ≤ 30 * ts.length := by
  have h1 := mp_nn (fun t ht => (h t ht).2.1) hj
  have h2 := sv_bd h 7 (by omega)
  have h3 := sv_nonneg ts (7 - 2 ^ j)
  unfold mpF at h1 ⊢; omega
/-- The greatest worth of thing j alone. -/
def oneF : List (List Int) → Nat → Int
  | [], _ => 0
  | t :: ts, j => max (T t (2 ^ j)) (oneF ts j)
theorem sv_zero {ts : List (List Int)} (hz : ∀ t ∈ ts, T t 0 = 0) : sv ts 0 = 0 := by
  have h := got_sv hz 0
  generalize sv ts 0 = v at h
  induction ts generalizing v with
  | nil => exact h
  | cons t ts ih =>
    obtain ⟨s, hs, u, hu, rfl⟩ := h
    have e : s = 0 := by have := subs_and hs; simp at this; exact this.symm
    subst e
    rw [ih (fun u hu => hz u (by simp [hu])) u hu, hz t (by simp)]
    rfl
theorem sv_single {ts : List (List Int)} (hz : ∀ t ∈ ts, T t 0 = 0) {j : Nat} (hj : j < 3) : sv ts (2 ^ j) ≤ oneF ts j := by
  induction ts with
  | nil => simp [sv, oneF]
  | cons t ts ih =>
    have hz' : ∀ u ∈ ts, T u 0 = 0 := fun u hu => hz u (by simp [hu])
    have h1 := ih hz'
    have h2 := sv_zero hz'
    have h3 := sv_nonneg ts (2 ^ j)
    have h4 := hz t (by simp)
    have e : subs (2 ^ j) = [0, 2 ^ j] := by rcases nat3 hj with rfl | rfl | rfl <;> decide
    simp only [oneF]
    refine mx_le (by omega) (fun s hs => ?_)
    rw [e] at hs
    simp only [List.mem_cons, List.not_mem_nil, or_false] at hs
    rcases hs with rfl | rfl
    · rw [h4, Nat.sub_zero]; omega
    · rw [Nat.sub_self, h2]; omega
/-- Most prices are no more than what things are worth alone to someone, where things may be moved. -/
theorem mp_one {ts : List (List Int)} (h : ∀ t ∈ ts, VT t ∧ Mo (T t)) {j : Nat} (hj : j < 3) : mpF ts j ≤ oneF ts j := by
  have hz : ∀ t ∈ ts, T t 0 = 0 := fun t ht => (h t ht).1.2.1
  have A := sv_mo h
  have h1 := sv_single hz hj
  have a1 := A.m71
  have a2 := A.m72
  have a4 := A.m74
  unfold mpF
  rcases nat3 hj with rfl | rfl | rfl
  · simp only [Nat.reducePow, Nat.reduceSub] at h1 ⊢; omega
  · simp only [Nat.reducePow, Nat.reduceSub] at h1 ⊢; omega
  · simp only [Nat.reducePow, Nat.reduceSub] at h1 ⊢; omega

end Go.Proofs.Ytfjncipekjnbjab
