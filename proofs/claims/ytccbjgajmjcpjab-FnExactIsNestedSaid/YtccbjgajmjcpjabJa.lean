/-
  Chapter 6, plain: prices of sets, what is left, what is in demand; which things may be moved, by moves and by threes; joined tables.
-/
import Derived.Test.YtccbjgajmjcpjabWx
namespace Go.Proofs.Ytccbjgajmjcpjab

/-- Prices of three things. -/
def VP (p : List Int) : Prop := p.length = 3 ∧ ∀ k, k < 3 → 0 ≤ T p k ∧ T p k ≤ 40
noncomputable def vp (p : List Int) : Bool := @decide (VP p) (Classical.propDecidable _)
theorem vp_true {p : List Int} (h : VP p) : vp p = true := by unfold vp; simp [h]
theorem vp_false {p : List Int} (h : ¬ VP p) : vp p = false := by unfold vp; simp [h]
theorem vp_iff {p : List Int} : vp p = true ↔ VP p := by unfold vp; simp

/-- What the first k things of a set cost. -/
def prTo (p : List Int) (s : Nat) : Nat → Int
  | 0 => 0
  | k + 1 => prTo p s k + ((s / 2 ^ k % 2 : Nat) : Int) * T p k
def pr (p : List Int) (s : Nat) : Int := prTo p s 3
theorem pr_vals (p : List Int) : pr p 0 = 0 ∧ pr p 1 = T p 0 ∧ pr p 2 = T p 1 ∧ pr p 3 = T p 0 + T p 1 ∧ pr p 4 = T p 2 ∧ pr p 5 = T p 0 + T p 2 ∧ pr p 6 = T p 1 + T p 2 ∧ pr p 7 = T p 0 + T p 1 + T p 2 := by
  simp [pr, prTo]
theorem VP.all {p : List Int} (h : VP p) : (0 ≤ T p 0 ∧ T p 0 ≤ 40) ∧ (0 ≤ T p 1 ∧ T p 1 ≤ 40) ∧ (0 ≤ T p 2 ∧ T p 2 ≤ 40) := ⟨h.2 0 (by omega), h.2 1 (by omega), h.2 2 (by omega)⟩
theorem VP.bd {p : List Int} (h : VP p) {s : Nat} (hs : s < 8) : 0 ≤ pr p s ∧ pr p s ≤ 120 := by
  have a := h.all
  have b := pr_vals p
  rcases nat8 hs with rfl | rfl | rfl | rfl | rfl | rfl | rfl | rfl <;> omega

/-- What is left of a set. -/
def lf (t p : List Int) (s : Nat) : Int := T t s - pr p s
/-- The greatest of it, of the first k sets, 0 at least. -/
def suTo (t p : List Int) : Nat → Int
  | 0 => 0
  | k + 1 => max (suTo t p k) (lf t p k)
def su (t p : List Int) : Int := suTo t p 8
theorem suTo_ge (t p : List Int) : ∀ k, 0 ≤ suTo t p k
  | 0 => Int.le_refl _
  | k + 1 => by have := suTo_ge t p k; simp only [suTo]; omega
theorem suTo_le (t p : List Int) : ∀ {k s : Nat}, s < k → lf t p s ≤ suTo t p k
  | 0, s, h => absurd h (by omega)
  | k + 1, s, h => by
    simp only [suTo]
    rcases Nat.lt_or_ge s k with h1 | h1
    · have := suTo_le t p h1; omega
    · rw [show s = k by omega]; omega
theorem suTo_got {t p : List Int} : ∀ k, suTo t p k = 0 ∨ ∃ s, s < k ∧ suTo t p k = lf t p s
  | 0 => .inl rfl
  | k + 1 => by
    simp only [suTo]
    rcases suTo_got (t := t) (p := p) k with h | ⟨s, hs, h⟩
    · rcases Int.le_total (suTo t p k) (lf t p k) with h1 | h1
      · exact .inr ⟨k, by omega, by omega⟩
      · exact .inl (by omega)
    · rcases Int.le_total (suTo t p k) (lf t p k) with h1 | h1
      · exact .inr ⟨k, by omega, by omega⟩
      · exact .inr ⟨s, by omega, by omega⟩
theorem su_le {t p : List Int} {s : Nat} (h : s < 8) : lf t p s ≤ su t p := suTo_le t p h
theorem su_ge (t p : List Int) : 0 ≤ su t p := suTo_ge t p 8
theorem lf_zero {t p : List Int} (h : T t 0 = 0) : lf t p 0 = 0 := by unfold lf; rw [h, (pr_vals p).1]; rfl
theorem su_got {t p : List Int} (h : T t 0 = 0) : ∃ s, s < 8 ∧ su t p = lf t p s := by
  rcases suTo_got (t := t) (p := p) 8 with h1 | h1
  · exact ⟨0, by omega, by rw [lf_zero h]; exact h1⟩
  · exact h1
theorem lf_bd {t p : List Int} (h : VT t) (hp : VP p) {s : Nat} (hs : s < 8) : -120 ≤ lf t p s ∧ lf t p s ≤ 30 := by
  have a := h.bd hs
  have b := hp.bd hs
  unfold lf; omega
theorem suTo_bd {t p : List Int} (h : VT t) (hp : VP p) : ∀ {k : Nat}, k ≤ 8 → 0 ≤ suTo t p k ∧ suTo t p k ≤ 30 := by
  intro k hk
  refine ⟨suTo_ge t p k, ?_⟩
  rcases suTo_got (t := t) (p := p) k with h1 | ⟨s, hs, h1⟩
  · omega
  · have := lf_bd h hp (s := s) (by omega); omega

/-- The first k sets that are in demand. -/
def dmTo (t p : List Int) : Nat → List Int
  | 0 => []
  | k + 1 => if lf t p k = su t p then dmTo t p k ++ [(k : Int)] else dmTo t p k
def dm (t p : List Int) : List Int := dmTo t p 8
theorem dmTo_len (t p : List Int) : ∀ k, (dmTo t p k).length ≤ k
  | 0 => by simp [dmTo]
  | k + 1 => by have := dmTo_len t p k; simp only [dmTo]; split <;> simp <;> omega
theorem dmTo_mem {t p : List Int} : ∀ {k : Nat} {x : Int}, x ∈ dmTo t p k ↔ ∃ s : Nat, x = (s : Int) ∧ s < k ∧ lf t p s = su t p
  | 0, x => by simp [dmTo]
  | k + 1, x => by
    have ih := dmTo_mem (t := t) (p := p) (k := k) (x := x)
    simp only [dmTo]
    constructor
    · intro h
      split at h
      · next hb =>
        rcases List.mem_append.1 h with h | h
        · obtain ⟨s, h1, h2, h3⟩ := ih.1 h
          exact ⟨s, h1, by omega, h3⟩
        · simp at h
          exact ⟨k, h, by omega, hb⟩
      · obtain ⟨s, h1, h2, h3⟩ := ih.1 h
        exact ⟨s, h1, by omega, h3⟩
    · rintro ⟨s, rfl, h2, h3⟩
      rcases Nat.lt_or_ge s k with h1 | h1
      · have := ih.2 ⟨s, rfl, h1, h3⟩
        split
        · exact List.mem_append.2 (.inl this)
        · exact this
      · obtain rfl : s = k := by omega
        rw [if_pos h3]
        simp
theorem dm_mem {t p : List Int} {x : Int} : x ∈ dm t p ↔ ∃ s : Nat, x = (s : Int) ∧ s < 8 ∧ lf t p s = su t p := dmTo_mem
theorem dm_len (t p : List Int) : (dm t p).length ≤ 8 := dmTo_len t p 8
theorem dm_some {t p : List Int} (h : T t 0 = 0) : dm t p ≠ [] := by
  obtain ⟨s, h1, h2⟩ := su_got (p := p) h
  intro e
  have := (dm_mem (t := t) (p := p) (x := (s : Int))).2 ⟨s, rfl, h1, h2.symm⟩
  rw [e] at this
  simp at this

/-- A thing is moved from one set to another one, or exchanged, without loss. -/
def MvOne (t : List Int) (s x i : Nat) : Prop :=
  T t s + T t x ≤ T t (s - 2 ^ i) + T t (x + 2 ^ i) ∨ ∃ j, j < 3 ∧ x / 2 ^ j % 2 = 1 ∧ s / 2 ^ j % 2 = 0 ∧ T t s + T t x ≤ T t (s - 2 ^ i + 2 ^ j) + T t (x + 2 ^ i - 2 ^ j)
/-- All things may be moved. -/
def Mv (t : List Int) : Prop := ∀ s, s < 8 → ∀ x, x < 8 → ∀ i, i < 3 → s / 2 ^ i % 2 = 1 → x / 2 ^ i % 2 = 0 → MvOne t s x i
/-- Three things may be exchanged. -/
def Tri (t : List Int) : Prop := ∀ i, i < 3 → ∀ j, j < 3 → ∀ k, k < 3 → i ≠ j → i ≠ k → j ≠ k →
  T t (2 ^ i + 2 ^ j) + T t (2 ^ k) ≤ max (T t (2 ^ i + 2 ^ k) + T t (2 ^ j)) (T t (2 ^ j + 2 ^ k) + T t (2 ^ i))

/-- What both say of eight numbers. -/
structure Mo (a : Nat → Int) : Prop where
  z : a 0 = 0
  m3 : a 3 ≤ a 1 + a 2
  m5 : a 5 ≤ a 1 + a 4
  m6 : a 6 ≤ a 2 + a 4
  m71 : a 7 ≤ a 1 + a 6
  m72 : a 7 ≤ a 2 + a 5
  m74 : a 7 ≤ a 4 + a 3
  n1 : a 7 + a 1 ≤ a 3 + a 5
  n2 : a 7 + a 2 ≤ a 3 + a 6
  n4 : a 7 + a 4 ≤ a 5 + a 6
  t4 : a 3 + a 4 ≤ a 5 + a 2 ∨ a 3 + a 4 ≤ a 6 + a 1
  t2 : a 5 + a 2 ≤ a 3 + a 4 ∨ a 5 + a 2 ≤ a 6 + a 1
  t1 : a 6 + a 1 ≤ a 3 + a 4 ∨ a 6 + a 1 ≤ a 5 + a 2

theorem MvOne.cases {t : List Int} {s x i : Nat} (h : MvOne t s x i) : T t s + T t x ≤ T t (s - 2 ^ i) + T t (x + 2 ^ i) ∨
    (x % 2 = 1 ∧ s % 2 = 0 ∧ T t s + T t x ≤ T t (s - 2 ^ i + 1) + T t (x + 2 ^ i - 1)) ∨
    (x / 2 % 2 = 1 ∧ s / 2 % 2 = 0 ∧ T t s + T t x ≤ T t (s - 2 ^ i + 2) + T t (x + 2 ^ i - 2)) ∨
    (x / 4 % 2 = 1 ∧ s / 4 % 2 = 0 ∧ T t s + T t x ≤ T t (s - 2 ^ i + 4) + T t (x + 2 ^ i - 4)) := by
  rcases h with h | ⟨j, hj, h1, h2, h3⟩
  · exact .inl h
  · rcases nat3 hj with rfl | rfl | rfl
    · exact .inr (.inl ⟨by simpa using h1, by simpa using h2, h3⟩)
    · exact .inr (.inr (.inl ⟨by simpa using h1, by simpa using h2, h3⟩))
    · exact .inr (.inr (.inr ⟨by simpa using h1, by simpa using h2, h3⟩))
theorem Mv.mo {t : List Int} (hv : VT t) (h : Mv t) : Mo (T t) := by
  have z := hv.2.1
  have g := fun s hs x hx i hi h1 h2 => (h s hs x hx i hi h1 h2).cases
  have a1 := g 3 (by omega) 0 (by omega) 0 (by omega) (by decide) (by decide)
  have a2 := g 5 (by omega) 0 (by omega) 0 (by omega) (by decide) (by decide)
  have a3 := g 6 (by omega) 0 (by omega) 1 (by omega) (by decide) (by decide)
  have a4 := g 7 (by omega) 0 (by omega) 0 (by omega) (by decide) (by decide)
  have a5 := g 7 (by omega) 0 (by omega) 1 (by omega) (by decide) (by decide)
  have a6 := g 7 (by omega) 0 (by omega) 2 (by omega) (by decide) (by decide)
  have a7 := g 7 (by omega) 1 (by omega) 1 (by omega) (by decide) (by decide)
  have a8 := g 7 (by omega) 2 (by omega) 0 (by omega) (by decide) (by decide)
  have a9 := g 7 (by omega) 4 (by omega) 0 (by omega) (by decide) (by decide)
  have b1 := g 3 (by omega) 4 (by omega) 0 (by omega) (by decide) (by decide)
  have b2 := g 5 (by omega) 2 (by omega) 0 (by omega) (by decide) (by decide)
  have b3 := g 6 (by omega) 1 (by omega) 1 (by omega) (by decide) (by decide)
  simp at a1 a2 a3 a4 a5 a6 a7 a8 a9 b1 b2 b3
  exact ⟨z, by omega, by omega, by omega, by omega, by omega, by omega, by omega, by omega, by omega, by omega, by omega, by omega⟩

theorem MvOne.zero {t : List Int} {s x i : Nat} (h : T t s + T t x ≤ T t (s - 2 ^ i) + T t (x + 2 ^ i)) : MvOne t s x i := .inl h
theorem Mo.mv {t : List Int} (h : Mo (T t)) (hv : VT t) : Mv t := by
  have a := hv.all
  obtain ⟨z, m3, m5, m6, m71, m72, m74, n1, n2, n4, t4, t2, t1⟩ := h
  have key : ∀ s x i, s < 8 → x < 8 → i < 3 → s / 2 ^ i % 2 = 1 → x / 2 ^ i % 2 = 0 →
      (T t s + T t x ≤ T t (s - 2 ^ i) + T t (x + 2 ^ i) ∨
      (x % 2 = 1 ∧ s % 2 = 0 ∧ T t s + T t x ≤ T t (s - 2 ^ i + 1) + T t (x + 2 ^ i - 1)) ∨
      (x / 2 % 2 = 1 ∧ s / 2 % 2 = 0 ∧ T t s + T t x ≤ T t (s - 2 ^ i + 2) + T t (x + 2 ^ i - 2)) ∨
      (x / 4 % 2 = 1 ∧ s / 4 % 2 = 0 ∧ T t s + T t x ≤ T t (s - 2 ^ i + 4) + T t (x + 2 ^ i - 4))) := by
    intro s x i hs hx hi h1 h2
    rcases nat8 hs with rfl | rfl | rfl | rfl | rfl | rfl | rfl | rfl <;> rcases nat8 hx with rfl | rfl | rfl | rfl | rfl | rfl | rfl | rfl <;> rcases nat3 hi with rfl | rfl | rfl <;>
      first
      | exact absurd h1 (by decide)
      | exact absurd h2 (by decide)
      | (simp; omega)
  intro s hs x hx i hi h1 h2
  rcases key s x i hs hx hi h1 h2 with h | ⟨h1, h2, h3⟩ | ⟨h1, h2, h3⟩ | ⟨h1, h2, h3⟩
  · exact .inl h
  · exact .inr ⟨0, by omega, by simpa using h1, by simpa using h2, by simpa using h3⟩
  · exact .inr ⟨1, by omega, by simpa using h1, by simpa using h2, by simpa using h3⟩
  · exact .inr ⟨2, by omega, by simpa using h1, by simpa using h2, by simpa using h3⟩
theorem Mo.modTri {t : List Int} (h : Mo (T t)) : Mod t ∧ Tri t := by
  obtain ⟨z, m3, m5, m6, m71, m72, m74, n1, n2, n4, t4, t2, t1⟩ := h
  constructor
  · intro s hs x hx
    rcases nat8 hs with rfl | rfl | rfl | rfl | rfl | rfl | rfl | rfl <;> rcases nat8 hx with rfl | rfl | rfl | rfl | rfl | rfl | rfl | rfl <;> simp <;> omega
  · intro i hi j hj k hk h1 h2 h3
    rcases nat3 hi with rfl | rfl | rfl <;> rcases nat3 hj with rfl | rfl | rfl <;> rcases nat3 hk with rfl | rfl | rfl <;> simp at h1 h2 h3 ⊢ <;> omega
theorem modTri_mo {t : List Int} (z : T t 0 = 0) (h : Mod t) (h3 : Tri t) : Mo (T t) := by
  have g := fun s hs x hx => h s hs x hx
  have a1 := g 1 (by omega) 2 (by omega)
  have a2 := g 1 (by omega) 4 (by omega)
  have a3 := g 2 (by omega) 4 (by omega)
  have a4 := g 1 (by omega) 6 (by omega)
  have a5 := g 2 (by omega) 5 (by omega)
  have a6 := g 4 (by omega) 3 (by omega)
  have a7 := g 3 (by omega) 5 (by omega)
  have a8 := g 3 (by omega) 6 (by omega)
  have a9 := g 5 (by omega) 6 (by omega)
  have b1 := h3 0 (by omega) 1 (by omega) 2 (by omega) (by omega) (by omega) (by omega)
  have b2 := h3 0 (by omega) 2 (by omega) 1 (by omega) (by omega) (by omega) (by omega)
  have b3 := h3 1 (by omega) 2 (by omega) 0 (by omega) (by omega) (by omega) (by omega)
  simp at a1 a2 a3 a4 a5 a6 a7 a8 a9 b1 b2 b3
  exact ⟨z, by omega, by omega, by omega, by omega, by omega, by omega, by omega, by omega, by omega, by omega, by omega, by omega⟩
/-- Moves are threes. -/
theorem mv_iff {t : List Int} (hv : VT t) : Mv t ↔ Mod t ∧ Tri t := ⟨fun h => (h.mo hv).modTri, fun h => (modTri_mo hv.2.1 h.1 h.2).mv hv⟩

noncomputable def mvB (t : List Int) : Bool := @decide (VT t ∧ Mv t) (Classical.propDecidable _)
theorem mvB_true {t : List Int} (h : VT t) (hm : Mv t) : mvB t = true := by unfold mvB; simp [h, hm]
theorem mvB_false {t : List Int} (h : ¬ (VT t ∧ Mv t)) : mvB t = false := by unfold mvB; simp only [decide_eq_false_iff_not]; exact h
theorem mvB_iff {t : List Int} : mvB t = true ↔ VT t ∧ Mv t := by unfold mvB; simp
noncomputable def thB (t : List Int) : Bool := @decide (VT t ∧ Mod t ∧ Tri t) (Classical.propDecidable _)
theorem thB_true {t : List Int} (h : VT t) (hm : Mod t) (h3 : Tri t) : thB t = true := by unfold thB; simp [h, hm, h3]
theorem thB_false {t : List Int} (h : ¬ (VT t ∧ Mod t ∧ Tri t)) : thB t = false := by unfold thB; simp only [decide_eq_false_iff_not]; exact h
theorem thB_iff {t : List Int} : thB t = true ↔ VT t ∧ Mod t ∧ Tri t := by unfold thB; simp
theorem thB_mvB (t : List Int) : thB t = mvB t := by
  by_cases hv : VT t
  · by_cases hm : Mv t
    · obtain ⟨h1, h2⟩ := (mv_iff hv).1 hm
      rw [mvB_true hv hm, thB_true hv h1 h2]
    · rw [mvB_false (fun h => hm h.2), thB_false (fun h => hm ((mv_iff hv).2 h.2))]
  · rw [mvB_false (fun h => hv h.1), thB_false (fun h => hv h.1)]

/-- Sums may be moved, and what is one thing. -/
theorem sum_mv {t : List Int} (hv : VT t) (h : ∀ s, s < 8 → T t s = sumAl t s 3) : Mo (T t) := by
  have g := fun s hs => h s hs
  have b3 := g 3 (by omega); have b5 := g 5 (by omega); have b6 := g 6 (by omega); have b7 := g 7 (by omega)
  simp [sumAl] at b3 b5 b6 b7
  exact ⟨hv.2.1, by omega, by omega, by omega, by omega, by omega, by omega, by omega, by omega, by omega, by omega, by omega, by omega⟩
theorem one_mv {t : List Int} (hv : VT t) (h : ∀ s, s < 8 → T t s = mostAl t s 3) : Mo (T t) := by
  have g := fun s hs => h s hs
  have a := hv.all
  have b3 := g 3 (by omega); have b5 := g 5 (by omega); have b6 := g 6 (by omega); have b7 := g 7 (by omega)
  simp [mostAl] at b3 b5 b6 b7
  exact ⟨hv.2.1, by omega, by omega, by omega, by omega, by omega, by omega, by omega, by omega, by omega, by omega, by omega, by omega⟩

end Go.Proofs.Ytccbjgajmjcpjab
