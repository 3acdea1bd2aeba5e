/-
  Chapter 6, plain: what may be moved stays in demand where prices of other things are raised.
-/
import Derived.Test.YtpildecpabeanabG06
import Derived.Test.YtpildecpabeanabG08
namespace Go.Proofs.Ytpildecpabeanab

/-- What is left of a set by eight numbers and three prices. -/
def lv (f : Nat → Int) (a b c : Int) (s : Nat) : Int := f s - (((s % 2 : Nat) : Int) * a + ((s / 2 % 2 : Nat) : Int) * b + ((s / 4 % 2 : Nat) : Int) * c)
/-- A set is in demand. -/
def Dm (f : Nat → Int) (a b c : Int) (s : Nat) : Prop := s < 8 ∧ ∀ x, x < 8 → lv f a b c x ≤ lv f a b c s
theorem lv_vals (f : Nat → Int) (a b c : Int) : lv f a b c 0 = f 0 ∧ lv f a b c 1 = f 1 - a ∧ lv f a b c 2 = f 2 - b ∧ lv f a b c 3 = f 3 - (a + b) ∧ lv f a b c 4 = f 4 - c ∧ lv f a b c 5 = f 5 - (a + c) ∧ lv f a b c 6 = f 6 - (b + c) ∧ lv f a b c 7 = f 7 - (a + b + c) := by
  simp [lv]
theorem Dm.all {f : Nat → Int} {a b c : Int} {s : Nat} (h : Dm f a b c s) : (f 0 ≤ lv f a b c s) ∧ (f 1 - a ≤ lv f a b c s) ∧ (f 2 - b ≤ lv f a b c s) ∧ (f 3 - (a + b) ≤ lv f a b c s) ∧ (f 4 - c ≤ lv f a b c s) ∧ (f 5 - (a + c) ≤ lv f a b c s) ∧ (f 6 - (b + c) ≤ lv f a b c s) ∧ (f 7 - (a + b + c) ≤ lv f a b c s) := by
  have v := lv_vals f a b c
  have g := h.2
  have g0 := g 0 (by omega); have g1 := g 1 (by omega); have g2 := g 2 (by omega); have g3 := g 3 (by omega); have g4 := g 4 (by omega); have g5 := g 5 (by omega); have g6 := g 6 (by omega); have g7 := g 7 (by omega)
  omega
theorem Dm.of {f : Nat → Int} {a b c : Int} {s : Nat} (hs : s < 8) (h : (f 0 ≤ lv f a b c s) ∧ (f 1 - a ≤ lv f a b c s) ∧ (f 2 - b ≤ lv f a b c s) ∧ (f 3 - (a + b) ≤ lv f a b c s) ∧ (f 4 - c ≤ lv f a b c s) ∧ (f 5 - (a + c) ≤ lv f a b c s) ∧ (f 6 - (b + c) ≤ lv f a b c s) ∧ (f 7 - (a + b + c) ≤ lv f a b c s)) : Dm f a b c s := by
  have v := lv_vals f a b c
  refine ⟨hs, fun x hx => ?_⟩
  rcases nat8 hx with rfl | rfl | rfl | rfl | rfl | rfl | rfl | rfl <;> omega
/-- There is one in demand. -/
theorem dm_max (g : Nat → Int) : ∃ s, s < 8 ∧ ∀ x, x < 8 → g x ≤ g s := by
  have : ∀ k, ∃ s, s ≤ k ∧ ∀ x, x ≤ k → g x ≤ g s := by
    intro k
    induction k with
    | zero => exact ⟨0, by omega, fun x hx => by rw [show x = 0 by omega]; omega⟩
    | succ k ih =>
      obtain ⟨s, hs, h⟩ := ih
      rcases Int.le_total (g s) (g (k + 1)) with h1 | h1
      · exact ⟨k + 1, by omega, fun x hx => by
          rcases Nat.lt_or_ge x (k + 1) with h2 | h2
          · have := h x (by omega); omega
          · rw [show x = k + 1 by omega]; omega⟩
      · exact ⟨s, by omega, fun x hx => by
          rcases Nat.lt_or_ge x (k + 1) with h2 | h2
          · exact h x (by omega)
          · rw [show x = k + 1 by omega]; exact h1⟩
  obtain ⟨s, hs, h⟩ := this 7
  exact ⟨s, by omega, fun x hx => h x (by omega)⟩
theorem Dm.some_ (f : Nat → Int) (a b c : Int) : ∃ s, Dm f a b c s := by
  obtain ⟨s, hs, h⟩ := dm_max (lv f a b c)
  exact ⟨s, hs, h⟩

/-- The things of s but one are in x. -/
def KeepBut (k s x : Nat) : Prop := x < 8 ∧ ∀ j, j < 3 → j ≠ k → s / 2 ^ j % 2 = 1 → x / 2 ^ j % 2 = 1
theorem keep_self {k s : Nat} (hs : s < 8) : KeepBut k s s := ⟨hs, fun _ _ _ h => h⟩
theorem keepBut_of {k s x : Nat} (h : decide (x < 8) && (List.range 3).all (fun j => decide (j = k) || !decide (s / 2 ^ j % 2 = 1) || decide (x / 2 ^ j % 2 = 1)) = true) : KeepBut k s x := by
  simp only [Bool.and_eq_true, decide_eq_true_eq, List.all_eq_true, List.mem_range] at h
  refine ⟨h.1, fun j hj hk hb => ?_⟩
  have := h.2 j hj
  simp [hk, hb] at this
  exact this

set_option maxHeartbeats 2000000 in
/-- The price of the first thing is raised. -/
theorem raise0 {f : Nat → Int} (A : Mo f) {a b c d : Int} (hd : 0 ≤ d) {s : Nat} (h : Dm f a b c s) : ∃ x, Dm f (a + d) b c x ∧ KeepBut 0 s x := by
  obtain ⟨y, hy⟩ := Dm.some_ f (a + d) b c
  have h1 := h.all
  have h2 := hy.all
  have v1 := lv_vals f a b c
  have v2 := lv_vals f (a + d) b c
  obtain ⟨z, m3, m5, m6, m71, m72, m74, n1, n2, n4, t4, t2, t1⟩ := A
  have go : ∀ x, x < 8 → (f 0 ≤ lv f (a + d) b c x) ∧ (f 1 - (a + d) ≤ lv f (a + d) b c x) ∧ (f 2 - b ≤ lv f (a + d) b c x) ∧ (f 3 - ((a + d) + b) ≤ lv f (a + d) b c x) ∧ (f 4 - c ≤ lv f (a + d) b c x) ∧ (f 5 - ((a + d) + c) ≤ lv f (a + d) b c x) ∧ (f 6 - (b + c) ≤ lv f (a + d) b c x) ∧ (f 7 - ((a + d) + b + c) ≤ lv f (a + d) b c x) →
      (decide (x < 8) && (List.range 3).all (fun j => decide (j = 0) || !decide (s / 2 ^ j % 2 = 1) || decide (x / 2 ^ j % 2 = 1)) = true) → ∃ x, Dm f (a + d) b c x ∧ KeepBut 0 s x := fun x hx h3 h4 => ⟨x, Dm.of hx h3, keepBut_of h4⟩
  have hs := h.1
  have hy8 := hy.1
  clear h hy
  rcases nat8 hs with rfl | rfl | rfl | rfl | rfl | rfl | rfl | rfl
  · exact go 0 (by omega) (by omega) (by decide)
  · rcases nat8 hy8 with rfl | rfl | rfl | rfl | rfl | rfl | rfl | rfl
    · exact go 0 (by omega) (by omega) (by decide)
    · exact go 1 (by omega) (by omega) (by decide)
    · exact go 2 (by omega) (by omega) (by decide)
    · exact go 3 (by omega) (by omega) (by decide)
    · exact go 4 (by omega) (by omega) (by decide)
    · exact go 5 (by omega) (by omega) (by decide)
    · exact go 6 (by omega) (by omega) (by decide)
    · exact go 7 (by omega) (by omega) (by decide)
  · exact go 2 (by omega) (by omega) (by decide)
  · by_cases c3 : lv f (a + d) b c 3 = lv f (a + d) b c y
    · exact go 3 (by omega) (by omega) (by decide)
    · by_cases c2 : lv f (a + d) b c 2 = lv f (a + d) b c y
      · exact go 2 (by omega) (by omega) (by decide)
      · by_cases c6 : lv f (a + d) b c 6 = lv f (a + d) b c y
        · exact go 6 (by omega) (by omega) (by decide)
        · exfalso
          rcases nat8 hy8 with rfl | rfl | rfl | rfl | rfl | rfl | rfl | rfl <;> omega
  · exact go 4 (by omega) (by omega) (by decide)
  · by_cases c5 : lv f (a + d) b c 5 = lv f (a + d) b c y
    · exact go 5 (by omega) (by omega) (by decide)
    · by_cases c4 : lv f (a + d) b c 4 = lv f (a + d) b c y
      · exact go 4 (by omega) (by omega) (by decide)
      · by_cases c6 : lv f (a + d) b c 6 = lv f (a + d) b c y
        · exact go 6 (by omega) (by omega) (by decide)
        · exfalso
          rcases nat8 hy8 with rfl | rfl | rfl | rfl | rfl | rfl | rfl | rfl <;> omega
  · exact go 6 (by omega) (by omega) (by decide)
  · by_cases c7 : lv f (a + d) b c 7 = lv f (a + d) b c y
    · exact go 7 (by omega) (by omega) (by decide)
    · by_cases c6 : lv f (a + d) b c 6 = lv f (a + d) b c y
      · exact go 6 (by omega) (by omega) (by decide)
      · exfalso
        rcases nat8 hy8 with rfl | rfl | rfl | rfl | rfl | rfl | rfl | rfl <;> omega
set_option maxHeartbeats 2000000 in
/-- The price of the second thing is raised. -/
theorem raise1 {f : Nat → Int} (A : Mo f) {a b c d : Int} (hd : 0 ≤ d) {s : Nat} (h : Dm f a b c s) : ∃ x, Dm f a (b + d) c x ∧ KeepBut 1 s x := by
  obtain ⟨y, hy⟩ := Dm.some_ f a (b + d) c
  have h1 := h.all
  have h2 := hy.all
  have v1 := lv_vals f a b c
  have v2 := lv_vals f a (b + d) c
  obtain ⟨z, m3, m5, m6, m71, m72, m74, n1, n2, n4, t4, t2, t1⟩ := A
  have go : ∀ x, x < 8 → (f 0 ≤ lv f a (b + d) c x) ∧ (f 1 - a ≤ lv f a (b + d) c x) ∧ (f 2 - (b + d) ≤ lv f a (b + d) c x) ∧ (f 3 - (a + (b + d)) ≤ lv f a (b + d) c x) ∧ (f 4 - c ≤ lv f a (b + d) c x) ∧ (f 5 - (a + c) ≤ lv f a (b + d) c x) ∧ (f 6 - ((b + d) + c) ≤ lv f a (b + d) c x) ∧ (f 7 - (a + (b + d) + c) ≤ lv f a (b + d) c x) →
      (decide (x < 8) && (List.range 3).all (fun j => decide (j = 1) || !decide (s / 2 ^ j % 2 = 1) || decide (x / 2 ^ j % 2 = 1)) = true) → ∃ x, Dm f a (b + d) c x ∧ KeepBut 1 s x := fun x hx h3 h4 => ⟨x, Dm.of hx h3, keepBut_of h4⟩
  have hs := h.1
  have hy8 := hy.1
  clear h hy
  rcases nat8 hs with rfl | rfl | rfl | rfl | rfl | rfl | rfl | rfl
  · exact go 0 (by omega) (by omega) (by decide)
  · exact go 1 (by omega) (by omega) (by decide)
  · rcases nat8 hy8 with rfl | rfl | rfl | rfl | rfl | rfl | rfl | rfl
    · exact go 0 (by omega) (by omega) (by decide)
    · exact go 1 (by omega) (by omega) (by decide)
    · exact go 2 (by omega) (by omega) (by decide)
    · exact go 3 (by omega) (by omega) (by decide)
    · exact go 4 (by omega) (by omega) (by decide)
    · exact go 5 (by omega) (by omega) (by decide)
    · exact go 6 (by omega) (by omega) (by decide)
    · exact go 7 (by omega) (by omega) (by decide)
  · by_cases c3 : lv f a (b + d) c 3 = lv f a (b + d) c y
    · exact go 3 (by omega) (by omega) (by decide)
    · by_cases c1 : lv f a (b + d) c 1 = lv f a (b + d) c y
      · exact go 1 (by omega) (by omega) (by decide)
      · by_cases c5 : lv f a (b + d) c 5 = lv f a (b + d) c y
        · exact go 5 (by omega) (by omega) (by decide)
        · exfalso
          rcases nat8 hy8 with rfl | rfl | rfl | rfl | rfl | rfl | rfl | rfl <;> omega
  · exact go 4 (by omega) (by omega) (by decide)
  · exact go 5 (by omega) (by omega) (by decide)
  · by_cases c6 : lv f a (b + d) c 6 = lv f a (b + d) c y
    · exact go 6 (by omega) (by omega) (by decide)
    · by_cases c4 : lv f a (b + d) c 4 = lv f a (b + d) c y
      · exact go 4 (by omega) (by omega) (by decide)
      · by_cases c5 : lv f a (b + d) c 5 = lv f a (b + d) c y
        · exact go 5 (by omega) (by omega) (by decide)
        · exfalso
          rcases nat8 hy8 with rfl | rfl | rfl | rfl | rfl | rfl | rfl | rfl <;> omega
  · by_cases c7 : lv f a (b + d) c 7 = lv f a (b + d) c y
    · exact go 7 (by omega) (by omega) (by decide)
    · by_cases c5 : lv f a (b + d) c 5 = lv f a (b + d) c y
      · exact go 5 (by omega) (by omega) (by decide)
      · exfalso
        rcases nat8 hy8 with rfl | rfl | rfl | rfl | rfl | rfl | rfl | rfl <;> omega
set_option maxHeartbeats 2000000 in
/-- The price of the third thing is raised. -/
theorem raise2 {f : Nat → Int} (A : Mo f) {a b c d : Int} (hd : 0 ≤ d) {s : Nat} (h : Dm f a b c s) : ∃ x, Dm f a b (c + d) x ∧ KeepBut 2 s x := by
  obtain ⟨y, hy⟩ := Dm.some_ f a b (c + d)
  have h1 := h.all
  have h2 := hy.all
  have v1 := lv_vals f a b c
  have v2 := lv_vals f a b (c + d)
  obtain ⟨z, m3, m5, m6, m71, m72, m74, n1, n2, n4, t4, t2, t1⟩ := A
  have go : ∀ x, x < 8 → (f 0 ≤ lv f a b (c + d) x) ∧ (f 1 - a ≤ lv f a b (c + d) x) ∧ (f 2 - b ≤ lv f a b (c + d) x) ∧ (f 3 - (a + b) ≤ lv f a b (c + d) x) ∧ (f 4 - (c + d) ≤ lv f a b (c + d) x) ∧ (f 5 - (a + (c + d)) ≤ lv f a b (c + d) x) ∧ (f 6 - (b + (c + d)) ≤ lv f a b (c + d) x) ∧ (f 7 - (a + b + (c + d)) ≤ lv f a b (c + d) x) →
      (decide (x < 8) && (List.range 3).all (fun j => decide (j = 2) || !decide (s / 2 ^ j % 2 = 1) || decide (x / 2 ^ j % 2 = 1)) = true) → ∃ x, Dm f a b (c + d) x ∧ KeepBut 2 s x := fun x hx h3 h4 => ⟨x, Dm.of hx h3, keepBut_of h4⟩
  have hs := h.1
  have hy8 := hy.1
  clear h hy
  rcases nat8 hs with rfl | rfl | rfl | rfl | rfl | rfl | rfl | rfl
  · exact go 0 (by omega) (by omega) (by decide)
  · exact go 1 (by omega) (by omega) (by decide)
  · exact go 2 (by omega) (by omega) (by decide)
  · exact go 3 (by omega) (by omega) (by decide)
  · rcases nat8 hy8 with rfl | rfl | rfl | rfl | rfl | rfl | rfl | rfl
    · exact go 0 (by omega) (by omega) (by decide)
    · exact go 1 (by omega) (by omega) (by decide)
    · exact go 2 (by omega) (by omega) (by decide)
    · exact go 3 (by omega) (by omega) (by decide)
    · exact go 4 (by omega) (by omega) (by decide)
    · exact go 5 (by omega) (by omega) (by decide)
    · exact go 6 (by omega) (by omega) (by decide)
    · exact go 7 (by omega) (by omega) (by decide)
  · by_cases c5 : lv f a b (c + d) 5 = lv f a b (c + d) y
    · exact go 5 (by omega) (by omega) (by decide)
    · by_cases c1 : lv f a b (c + d) 1 = lv f a b (c + d) y
      · exact go 1 (by omega) (by omega) (by decide)
      · by_cases c3 : lv f a b (c + d) 3 = lv f a b (c + d) y
        · exact go 3 (by omega) (by omega) (by decide)
        · exfalso
          rcases nat8 hy8 with rfl | rfl | rfl | rfl | rfl | rfl | rfl | rfl <;> omega
  · by_cases c6 : lv f a b (c + d) 6 = lv f a b (c + d) y
    · exact go 6 (by omega) (by omega) (by decide)
    · by_cases c2 : lv f a b (c + d) 2 = lv f a b (c + d) y
      · exact go 2 (by omega) (by omega) (by decide)
      · by_cases c3 : lv f a b (c + d) 3 = lv f a b (c + d) y
        · exact go 3 (by omega) (by omega) (by decide)
        · exfalso
          rcases nat8 hy8 with rfl | rfl | rfl | rfl | rfl | rfl | rfl | rfl <;> omega
  · by_cases c7 : lv f a b (c + d) 7 = lv f a b (c + d) y
    · exact go 7 (by omega) (by omega) (by decide)
    · by_cases c3 : lv f a b (c + d) 3 = lv f a b (c + d) y
      · exact go 3 (by omega) (by omega) (by decide)
      · exfalso
        rcases nat8 hy8 with rfl | rfl | rfl | rfl | rfl | rfl | rfl | rfl <;> omega
/-- The things of a set whose prices stay are in another one. -/
theorem raised {f : Nat → Int} (A : Mo f) {a b c a' b' c' : Int} (ha : a ≤ a') (hb : b ≤ b') (hc : c ≤ c') {s : Nat} (h : Dm f a b c s) :
    ∃ x, Dm f a' b' c' x ∧ (a = a' → s % 2 = 1 → x % 2 = 1) ∧ (b = b' → s / 2 % 2 = 1 → x / 2 % 2 = 1) ∧ (c = c' → s / 4 % 2 = 1 → x / 4 % 2 = 1) := by
  have s1 : ∃ x, Dm f a' b c x ∧ (a = a' → s % 2 = 1 → x % 2 = 1) ∧ (s / 2 % 2 = 1 → x / 2 % 2 = 1) ∧ (s / 4 % 2 = 1 → x / 4 % 2 = 1) := by
    by_cases e : a = a'
    · subst e; exact ⟨s, h, fun _ h => h, fun h => h, fun h => h⟩
    · obtain ⟨x, h1, h2⟩ := raise0 A (d := a' - a) (by omega) h
      rw [show a + (a' - a) = a' by omega] at h1
      exact ⟨x, h1, fun h => absurd h e, fun hb => h2.2 1 (by omega) (by omega) hb, fun hb => h2.2 2 (by omega) (by omega) hb⟩
  obtain ⟨x1, h1, p1, p2, p3⟩ := s1
  have s2 : ∃ x, Dm f a' b' c x ∧ (x1 % 2 = 1 → x % 2 = 1) ∧ (b = b' → x1 / 2 % 2 = 1 → x / 2 % 2 = 1) ∧ (x1 / 4 % 2 = 1 → x / 4 % 2 = 1) := by
    by_cases e : b = b'
    · subst e; exact ⟨x1, h1, fun h => h, fun _ h => h, fun h => h⟩
    · obtain ⟨x, h1, h2⟩ := raise1 A (d := b' - b) (by omega) h1
      rw [show b + (b' - b) = b' by omega] at h1
      exact ⟨x, h1, fun hb => by simpa using h2.2 0 (by omega) (by omega) (by simpa using hb), fun h => absurd h e, fun hb => h2.2 2 (by omega) (by omega) hb⟩
  obtain ⟨x2, h2, q1, q2, q3⟩ := s2
  by_cases e : c = c'
  · subst e; exact ⟨x2, h2, fun e h => q1 (p1 e h), fun e h => q2 e (p2 h), fun _ h => q3 (p3 h)⟩
  · obtain ⟨x, h1, h3⟩ := raise2 A (d := c' - c) (by omega) h2
    rw [show c + (c' - c) = c' by omega] at h1
    exact ⟨x, h1, fun e h => by simpa using h3.2 0 (by omega) (by omega) (by simpa using q1 (p1 e h)), fun e h => h3.2 1 (by omega) (by omega) (q2 e (p2 h)), fun h => absurd h e⟩

theorem lf_lv (t p : List Int) {s : Nat} (hs : s < 8) : lf t p s = lv (T t) (T p 0) (T p 1) (T p 2) s := by
  rcases nat8 hs with rfl | rfl | rfl | rfl | rfl | rfl | rfl | rfl <;> simp [lf, pr, prTo, lv]
theorem dm_Dm {t p : List Int} (z : T t 0 = 0) {s : Nat} (hs : s < 8) : lf t p s = su t p ↔ Dm (T t) (T p 0) (T p 1) (T p 2) s := by
  obtain ⟨m, hm, e⟩ := su_got (p := p) z
  constructor
  · intro h
    refine ⟨hs, fun x hx => ?_⟩
    rw [← lf_lv t p hx, ← lf_lv t p hs, h]
    exact su_le hx
  · rintro ⟨_, h⟩
    have h1 := h m hm
    rw [← lf_lv t p hm, ← lf_lv t p hs] at h1
    have h2 := su_le (t := t) (p := p) hs
    omega

/-- The set of the things of the same prices, of the first k. -/
def smTo (p q : List Int) : Nat → Nat
  | 0 => 0
  | k + 1 => if T p k = T q k then smTo p q k + 2 ^ k else smTo p q k
def sm (p q : List Int) : Nat := smTo p q 3
theorem smTo_lt (p q : List Int) : ∀ k, smTo p q k < 2 ^ k
  | 0 => by simp [smTo]
  | k + 1 => by have := smTo_lt p q k; have e : 2 ^ (k + 1) = 2 ^ k + 2 ^ k := by omega
                simp only [smTo]; split <;> omega
theorem sm_lt (p q : List Int) : sm p q < 8 := smTo_lt p q 3
/-- What stays as dear stays in demand. -/
def Kd (t p q : List Int) : Prop := ∀ s, s < 8 → lf t p s = su t p → ∃ x, x < 8 ∧ lf t q x = su t q ∧ (s &&& sm p q) - (s &&& sm p q &&& x) = 0
theorem keep_and {s x m : Nat} (hs : s < 8) (hx : x < 8) (hm : m < 8) (h0 : m % 2 = 1 → s % 2 = 1 → x % 2 = 1) (h1 : m / 2 % 2 = 1 → s / 2 % 2 = 1 → x / 2 % 2 = 1) (h2 : m / 4 % 2 = 1 → s / 4 % 2 = 1 → x / 4 % 2 = 1) : (s &&& m) - (s &&& m &&& x) = 0 := by
  have := all3 (p := fun s x m => !((!(m % 2 == 1) || !(s % 2 == 1) || x % 2 == 1) && (!(m / 2 % 2 == 1) || !(s / 2 % 2 == 1) || x / 2 % 2 == 1) && (!(m / 4 % 2 == 1) || !(s / 4 % 2 == 1) || x / 4 % 2 == 1)) || (s &&& m) - (s &&& m &&& x) == 0) (by decide +kernel) hs hx hm
  simp at this
  rcases this with h | h
  · exfalso
    by_cases a0 : m % 2 = 1 <;> by_cases b0 : s % 2 = 1 <;> by_cases a1 : m / 2 % 2 = 1 <;> by_cases b1 : s / 2 % 2 = 1 <;> by_cases a2 : m / 4 % 2 = 1 <;> by_cases b2 : s / 4 % 2 = 1 <;> simp_all
  · omega
theorem sm_bits (p q : List Int) : (sm p q % 2 = 1 → T p 0 = T q 0) ∧ (sm p q / 2 % 2 = 1 → T p 1 = T q 1) ∧ (sm p q / 4 % 2 = 1 → T p 2 = T q 2) := by
  unfold sm
  simp only [smTo]
  by_cases a : T p 0 = T q 0 <;> by_cases b : T p 1 = T q 1 <;> by_cases c : T p 2 = T q 2 <;> simp [a, b, c]
/-- What may be moved keeps its demand. -/
theorem kd_of {t p q : List Int} (A : Mo (T t)) (h : ∀ k, k < 3 → T p k ≤ T q k) : Kd t p q := by
  intro s hs hd
  obtain ⟨x, hx, e0, e1, e2⟩ := raised A (h 0 (by omega)) (h 1 (by omega)) (h 2 (by omega)) ((dm_Dm A.z hs).1 hd)
  obtain ⟨b0, b1, b2⟩ := sm_bits p q
  exact ⟨x, hx.1, (dm_Dm A.z hx.1).2 hx, keep_and hs hx.1 (sm_lt p q) (fun h => e0 (b0 h)) (fun h => e1 (b1 h)) (fun h => e2 (b2 h))⟩
theorem kd_same {t p : List Int} : Kd t p p := fun s hs hd => ⟨s, hs, hd, by
  have := all2 (p := fun s m => (s &&& m) - (s &&& m &&& s) == 0) (by decide) hs (sm_lt p p)
  simpa using this⟩
/-- None of the prices is less. -/
def Up (p q : List Int) : Prop := ∀ k, k < 3 → T p k ≤ T q k
noncomputable def kdB (t p q : List Int) : Bool := @decide (VT t ∧ VP p ∧ VP q ∧ Up p q ∧ Kd t p q) (Classical.propDecidable _)
theorem kdB_iff {t p q : List Int} : kdB t p q = true ↔ VT t ∧ VP p ∧ VP q ∧ Up p q ∧ Kd t p q := by unfold kdB; simp
theorem kdB_true {t p q : List Int} (h : VT t ∧ VP p ∧ VP q ∧ Up p q ∧ Kd t p q) : kdB t p q = true := kdB_iff.2 h
theorem kdB_false {t p q : List Int} (h : ¬ (VT t ∧ VP p ∧ VP q ∧ Up p q ∧ Kd t p q)) : kdB t p q = false := by unfold kdB; simp only [decide_eq_false_iff_not]; exact h

end Go.Proofs.Ytpildecpabeanab

/-
  Chapter 6: prices of things, what they leave, and what is in demand, by the model.
-/
namespace Go.Proofs.Ytpildecpabeanab
open Go.RowKit

/-- The first k numbers are prices. -/
def PrOk (p : List Int) (k : Nat) : Prop := ∀ i, i < k → 0 ≤ T p i ∧ T p i ≤ 40
theorem PrOk.zero (p : List Int) : PrOk p 0 := fun i h => absurd h (by omega)
theorem PrOk.next {p : List Int} {k : Nat} (h : PrOk p k) (hk : 0 ≤ T p k ∧ T p k ≤ 40) : PrOk p (k + 1) := fun i hi => by
  rcases Nat.lt_or_ge i k with h1 | h1
  · exact h i h1
  · rw [show i = k by omega]; exact hk
theorem vp_of {p : List Int} (h : PrOk p p.length) (h3 : p.length = 3) : vp p = true := vp_true ⟨h3, fun k hk => h k (by omega)⟩
theorem vp_len {p : List Int} (h3 : ¬ p.length = 3) : vp p = false := vp_false (fun h => h3 h.1)

theorem prTo_bd {p : List Int} (h : VP p) {s : Nat} : ∀ j, j ≤ 3 → 0 ≤ prTo p s j ∧ prTo p s j ≤ 40 * j := by
  intro j
  induction j with
  | zero => intro _; simp [prTo]
  | succ j ih =>
    intro hj
    have h1 := ih (by omega)
    have h2 := h.2 j (by omega)
    simp only [prTo]
    generalize T p j = v at h2 ⊢
    rcases (show s / 2 ^ j % 2 = 0 ∨ s / 2 ^ j % 2 = 1 by omega) with e | e <;> rw [e]
    · simp only [Int.natCast_zero, Int.zero_mul]; omega
    · simp only [Int.natCast_one, Int.one_mul]; omega

theorem calls_qn {P : Program} {f : FuncId} {args : Array Value} {w : World} {m n : Nat} {v : Value} (h : Calls P f args (w.drewN (m + n)) fun e w' => e = .returned v ∧ ∃ k, w' = (w.drewN (m + n)).drewN k) :
    Calls P f args (w.drewN (m + n)) fun e w'' => e = .returned v ∧ ∃ k, w'' = w.drewN (m + k) := h.mono fun _ _ ⟨he, k, hw⟩ => ⟨he, n + k, by rw [hw, World.drewN_drewN, Nat.add_assoc]⟩

/-- What SurplusAt tells. -/
noncomputable def suB (t p : List Int) : Int := if vt t && vp p then su t p else -1

/-- What DemandAt tells. -/
noncomputable def dmB (t p : List Int) : List Int := if vt t && vp p then dm t p else []
theorem dmTo_yes {t p : List Int} {k : Nat} (h : lf t p k = su t p) : dmTo t p (k + 1) = dmTo t p k ++ [(k : Int)] := by simp [dmTo, h]
theorem dmTo_no {t p : List Int} {k : Nat} (h : ¬ lf t p k = su t p) : dmTo t p (k + 1) = dmTo t p k := by simp [dmTo, h]

end Go.Proofs.Ytpildecpabeanab
