/-
  Chapter 6, plain: prices of sets, what is left, what is in demand; which things may be moved, by moves and by threes; joined tables.
-/
import Derived.Test.YtpildecpabeanabG05
namespace Go.Proofs.Ytpildecpabeanab

/-- Prices of three things. -/
def VP (p : List Int) : Prop := p.length = 3 ∧ ∀ k, k < 3 → 0 ≤ T p k ∧ T p k ≤ 40
noncomputable def vp (p : List Int) : Bool := @decide (VP p) (Classical.propDecidable _)
theorem vp_true {p : List Int} (h : VP p) : vp p = true := by unfold vp; simp [h]
theorem vp_false {p : List Int} (h : ¬ VP p) : vp p = false := by unfold vp; simp [h]
theorem vp_iff {p : List Int} : vp p = true ↔ VP p := by unfold vp; simp

/-- What the first k things of a set cost. -/
def prTo (p : List Int) (s : Nat) : Nat → Int
  | 0 => 0
  | k + 1 => prTo p s k + ((s / 2 ^ k % 2 : Nat) : Int) * T p k
def pr (p : List Int) (s : Nat) : Int := prTo p s 3
theorem pr_vals (p : List Int) : pr p 0 = 0 ∧ pr p 1 = T p 0 ∧ pr p 2 = T p 1 ∧ pr p 3 = T p 0 + T p 1 ∧ pr p 4 = T p 2 ∧ pr p 5 = T p 0 + T p 2 ∧ pr p 6 = T p 1 + T p 2 ∧ pr p 7 = T p 0 + T p 1 + T p 2 := by
  simp [pr, prTo]
theorem VP.all {p : List Int} (h : VP p) : (0 ≤ T p 0 ∧ T p 0 ≤ 40) ∧ (0 ≤ T p 1 ∧ T p 1 ≤ 40) ∧ (0 ≤ T p 2 ∧ T p 2 ≤ 40) := ⟨h.2 0 (by omega), h.2 1 (by omega), h.2 2 (by omega)⟩
theorem VP.bd {p : List Int} (h : VP p) {s : Nat} (hs : s < 8) : 0 ≤ pr p s ∧ pr p s ≤ 120 := by
  have a := h.all
  have b := pr_vals p
  rcases nat8 hs with rfl | rfl | rfl | rfl | rfl | rfl | rfl | rfl <;> omega

/-- What is left of a set. -/
def lf (t p : List Int) (s : Nat) : Int := T t s - pr p s
/-- The greatest of it, of the first k sets, 0 at least. -/
def suTo (t p : List Int) : Nat → Int
  | 0 => 0
  | k + 1 => max (suTo t p k) (lf t p k)
def su (t p : List Int) : Int := suTo t p 8
theorem suTo_ge (t p : List Int) : ∀ k, 0 ≤ suTo t p k
  | 0 => Int.le_refl _
  | k + 1 => by have := suTo_ge t p k; simp only [suTo]; omega
theorem suTo_le (t p : List Int) : ∀ {k s : Nat}, s < k → lf t p s ≤ suTo t p k
  | 0, s, h => absurd h (by omega)
  | k + 1, s, h => by
    simp only [suTo]
    rcases Nat.lt_or_ge s k with h1 | h1
    · have := suTo_le t p h1; omega
    · rw [show s = k by omega]; omega
theorem suTo_got {t p : List Int} : ∀ k, suTo t p k = 0 ∨ ∃ s, s < k ∧ suTo t p k = lf t p s
  | 0 => .inl rfl
  | k + 1 => by
    simp only [suTo]
    rcases suTo_got (t := t) (p := p) k with h | ⟨s, hs, h⟩
    · rcases Int.le_total (suTo t p k) (lf t p k) with h1 | h1
      · exact .inr ⟨k, by omega, by omega⟩
      · exact .inl (by omega)
    · rcases Int.le_total (suTo t p k) (lf t p k) with h1 | h1
      · exact .inr ⟨k, by omega, by omega⟩
      · exact .inr ⟨s, by omega, by omega⟩
theorem su_le {t p : List Int} {s : Nat} (h : s < 8) : lf t p s ≤ su t p := suTo_le t p h
theorem su_ge (t p : List Int) : 0 ≤ su t p := suTo_ge t p 8
theorem lf_zero {t p : List Int} (h : T t 0 = 0) : lf t p 0 = 0 := by unfold lf; rw [h, (pr_vals p).1]; rfl
theorem su_got {t p : List Int} (h : T t 0 = 0) : ∃ s, s < 8 ∧ su t p = lf t p s := by
  rcases suTo_got (t := t) (p := p) 8 with h1 | h1
  · exact ⟨0, by omega, by rw [lf_zero h]; exact h1⟩
  · exact h1
theorem lf_bd {t p : List Int} (h : VT t) (hp : VP p) {s : Nat} (hs : s < 8) : -120 ≤ lf t p s ∧ lf t p s ≤ 30 := by
  have a := h.bd hs
  have b := hp.bd hs
  unfold lf; omega
theorem suTo_bd {t p : List Int} (h : VT t) (hp : VP p) : ∀ {k : Nat}, k ≤ 8 → 0 ≤ suTo t p k ∧ suTo t p k ≤ 30 := by
  intro k hk
  refine ⟨suTo_ge t p k, ?_⟩
  rcases suTo_got (t := t) (p := p) k with h1 | ⟨s, hs, h1⟩
  · omega
  · have := lf_bd h hp (s := s) (by omega); omega

/-- The first k sets that are in demand. -/
def dmTo (t p : List Int) : Nat → List Int
  | 0 => []
  | k + 1 => if lf t p k = su t p then dmTo t p k ++ [(k : Int)] else dmTo t p k
def dm (t p : List Int) : List Int := dmTo t p 8
theorem dmTo_len (t p : List Int) : ∀ k, (dmTo t p k).length ≤ k
  | 0 => by simp [dmTo]
  | k + 1 => by have := dmTo_len t p k; simp only [dmTo]; split <;> simp <;> omega
theorem dmTo_mem {t p : List Int} : ∀ {k : Nat} {x : Int}, x ∈ dmTo t p k ↔ ∃ s : Nat, x = (s : Int) ∧ s < k ∧ lf t p s = su t p
  | 0, x => by simp [dmTo]
  | k + 1, x => by
    have ih := dmTo_mem (t := t) (p := p) (k := k) (x := x)
    simp only [dmTo]
    constructor
    · intro h
      split at h
      · next hb =>
        rcases List.mem_append.1 h with h | h
        · obtain ⟨s, h1, h2, h3⟩ := ih.1 h
          exact ⟨s, h1, by omega, h3⟩
        · simp at h
          exact ⟨k, h, by omega, hb⟩
      · obtain ⟨s, h1, h2, h3⟩ := ih.1 h
        exact ⟨s, h1, by omega, h3⟩
    · rintro ⟨s, rfl, h2, h3⟩
      rcases Nat.lt_or_ge s k with h1 | h1
      · have := ih.2 ⟨s, rfl, h1, h3⟩
        split
        · exact List.mem_append.2 (.inl this)
        · exact this
      · obtain rfl : s = k := by omega
        rw [if_pos h3]
        simp
theorem dm_mem {t p : List Int} {x : Int} : x ∈ dm t p ↔ ∃ s : Nat, x = (s : Int) ∧ s < 8 ∧ lf t p s = su t p := dmTo_mem
theorem dm_len (t p : List Int) : (dm t p).length ≤ 8 := dmTo_len t p 8
theorem dm_some {t p : List Int} (h : T t 0 = 0) : dm t p ≠ [] := by
  obtain ⟨s, h1, h2⟩ := su_got (p := p) h
  intro e
  have := (dm_mem (t := t) (p := p) (x := (s : Int))).2 ⟨s, rfl, h1, h2.symm⟩
  rw [e] at this
  simp at this

/-- A thing is moved from one set to another one, or exchanged, without loss. -/
def MvOne (t : List Int) (s x i : Nat) : Prop :=
  T t s + T t x ≤ T t (s - 2 ^ i) + T t (x + 2 ^ i) ∨ ∃ j, j < 3 ∧ x / 2 ^ j % 2 = 1 ∧ s / 2 ^ j % 2 = 0 ∧ T t s + T t x ≤ T t (s - 2 ^ i + 2 ^ j) + T t (x + 2 ^ i - 2 ^ j)
/-- All things may be moved. -/
def Mv (t : List Int) : Prop := ∀ s, s < 8 → ∀ x, x < 8 → ∀ i, i < 3 → s / 2 ^ i % 2 = 1 → x / 2 ^ i % 2 = 0 → MvOne t s x i
/-- Three things may be exchanged. -/
def Tri (t : List Int) : Prop := ∀ i, i < 3 → ∀ j, j < 3 → ∀ k, k < 3 → i ≠ j → i ≠ k → j ≠ k →
  T t (2 ^ i + 2 ^ j) + T t (2 ^ k) ≤ max (T t (2 ^ i + 2 ^ k) + T t (2 ^ j)) (T t (2 ^ j + 2 ^ k) + T t (2 ^ i))

/-- What both say of eight numbers. -/
structure Mo (a : Nat → Int) : Prop where
  z : a 0 = 0
  m3 : a 3 ≤ a 1 + a 2
  m5 : a 5 ≤ a 1 + a 4
  m6 : a 6 ≤ a 2 + a 4
  m71 : a 7 ≤ a 1 + a 6
  m72 : a 7 ≤ a 2 + a 5
  m74 : a 7 ≤ a 4 + a 3
  n1 : a 7 + a 1 ≤ a 3 + a 5
  n2 : a 7 + a 2 ≤ a 3 + a 6
  n4 : a 7 + a 4 ≤ a 5 + a 6
  t4 : a 3 + a 4 ≤ a 5 + a 2 ∨ a 3 + a 4 ≤ a 6 + a 1
  t2 : a 5 + a 2 ≤ a 3 + a 4 ∨ a 5 + a 2 ≤ a 6 + a 1
  t1 : a 6 + a 1 ≤ a 3 + a 4 ∨ a 6 + a 1 ≤ a 5 + a 2

theorem MvOne.cases {t : List Int} {s x i : Nat} (h : MvOne t s x i) : T t s + T t x ≤ T t (s - 2 ^ i) + T t (x + 2 ^ i) ∨
    (x % 2 = 1 ∧ s % 2 = 0 ∧ T t s + T t x ≤ T t (s - 2 ^ i + 1) + T t (x + 2 ^ i - 1)) ∨
    (x / 2 % 2 = 1 ∧ s / 2 % 2 = 0 ∧ T t s + T t x ≤ T t (s - 2 ^ i + 2) + T t (x + 2 ^ i - 2)) ∨
    (x / 4 % 2 = 1 ∧ s / 4 % 2 = 0 ∧ T t s + T t x ≤ T t (s - 2 ^ i + 4) + T t (x + 2 ^ i - 4)) := by
  rcases h with h | ⟨j, hj, h1, h2, h3⟩
  · exact .inl h
  · rcases nat3 hj with rfl | rfl | rfl
    · exact .inr (.inl ⟨by simpa using h1, by simpa using h2, h3⟩)
    · exact .inr (.inr (.inl ⟨by simpa using h1, by simpa using h2, h3⟩))
    · exact .inr (.inr (.inr ⟨by simpa using h1, by simpa using h2, h3⟩))
theorem Mv.mo {t : List Int} (hv : VT t) (h : Mv t) : Mo (T t) := by
  have z := hv.2.1
  have g := fun s hs x hx i hi h1 h2 => (h s hs x hx i hi h1 h2).cases
  have a1 := g 3 (by omega) 0 (by omega) 0 (by omega) (by decide) (by decide)
  have a2 := g 5 (by omega) 0 (by omega) 0 (by omega) (by decide) (by decide)
  have a3 := g 6 (by omega) 0 (by omega) 1 (by omega) (by decide) (by decide)
  have a4 := g 7 (by omega) 0 (by omega) 0 (by omega) (by decide) (by decide)
  have a5 := g 7 (by omega) 0 (by omega) 1 (by omega) (by decide) (by decide)
  have a6 := g 7 (by omega) 0 (by omega) 2 (by omega) (by decide) (by decide)
  have a7 := g 7 (by omega) 1 (by omega) 1 (by omega) (by decide) (by decide)
  have a8 := g 7 (by omega) 2 (by omega) 0 (by omega) (by decide) (by decide)
  have a9 := g 7 (by omega) 4 (by omega) 0 (by omega) (by decide) (by decide)
  have b1 := g 3 (by omega) 4 (by omega) 0 (by omega) (by decide) (by decide)
  have b2 := g 5 (by omega) 2 (by omega) 0 (by omega) (by decide) (by decide)
  have b3 := g 6 (by omega) 1 (by omega) 1 (by omega) (by decide) (by decide)
  simp at a1 a2 a3 a4 a5 a6 a7 a8 a9 b1 b2 b3
  exact ⟨z, by omega, by omega, by omega, by omega, by omega, by omega, by omega, by omega, by omega, by omega, by omega, by omega⟩

theorem MvOne.zero {t : List Int} {s x i : Nat} (h : T t s + T t x ≤ T t (s - 2 ^ i) + T t (x + 2 ^ i)) : MvOne t s x i := .inl h
theorem Mo.mv {t : List Int} (h : Mo (T t)) (hv : VT t) : Mv t := by
  have a := hv.all
  obtain ⟨z, m3, m5, m6, m71, m72, m74, n1, n2, n4, t4, t2, t1⟩ := h
  have key : ∀ s x i, s < 8 → x < 8 → i < 3 → s / 2 ^ i % 2 = 1 → x / 2 ^ i % 2 = 0 →
      (T t s + T t x ≤ T t (s - 2 ^ i) + T t (x + 2 ^ i) ∨
      (x % 2 = 1 ∧ s % 2 = 0 ∧ T t s + T t x ≤ T t (s - 2 ^ i + 1) + T t (x + 2 ^ i - 1)) ∨
      (x / 2 % 2 = 1 ∧ s / 2 % 2 = 0 ∧ T t s + T t x ≤ T t (s - 2 ^ i + 2) + T t (x + 2 ^ i - 2)) ∨
      (x / 4 % 2 = 1 ∧ s / 4 % 2 = 0 ∧ T t s + T t x ≤ T t (s - 2 ^ i + 4) + T t (x + 2 ^ i - 4))) := by
    intro s x i hs hx hi h1 h2
    rcases nat8 hs with rfl | rfl | rfl | rfl | rfl | rfl | rfl | rfl <;> rcases nat8 hx with rfl | rfl | rfl | rfl | rfl | rfl | rfl | rfl <;> rcases nat3 hi with rfl | rfl | rfl <;>
      first
      | exact absurd h1 (by decide)
      | exact absurd h2 (by decide)
      | (simp; omega)
  intro s hs x hx i hi h1 h2
  rcases key s x i hs hx hi h1 h2 with h | ⟨h1, h2, h3⟩ | ⟨h1, h2, h3⟩ | ⟨h1, h2, h3⟩
  · exact .inl h
  · exact .inr ⟨0, by omega, by simpa using h1, by simpa using h2, by simpa using h3⟩
  · exact .inr ⟨1, by omega, by simpa using h1, by simpa using h2, by simpa using h3⟩
  · exact .inr ⟨2, by omega, by simpa using h1, by simpa using h2, by simpa using h3⟩
theorem Mo.modTri {t : List Int} (h : Mo (T t)) : Mod t ∧ Tri t := by
  obtain ⟨z, m3, m5, m6, m71, m72, m74, n1, n2, n4, t4, t2, t1⟩ := h
  constructor
  · intro s hs x hx
    rcases nat8 hs with rfl | rfl | rfl | rfl | rfl | rfl | rfl | rfl <;> rcases nat8 hx with rfl | rfl | rfl | rfl | rfl | rfl | rfl | rfl <;> simp <;> omega
  · intro i hi j hj k hk h1 h2 h3
    rcases nat3 hi with rfl | rfl | rfl <;> rcases nat3 hj with rfl | rfl | rfl <;> rcases nat3 hk with rfl | rfl | rfl <;> simp at h1 h2 h3 ⊢ <;> omega
theorem modTri_mo {t : List Int} (z : T t 0 = 0) (h : Mod t) (h3 : Tri t) : Mo (T t) := by
  have g := fun s hs x hx => h s hs x hx
  have a1 := g 1 (by omega) 2 (by omega)
  have a2 := g 1 (by omega) 4 (by omega)
  have a3 := g 2 (by omega) 4 (by omega)
  have a4 := g 1 (by omega) 6 (by omega)
  have a5 := g 2 (by omega) 5 (by omega)
  have a6 := g 4 (by omega) 3 (by omega)
  have a7 := g 3 (by omega) 5 (by omega)
  have a8 := g 3 (by omega) 6 (by omega)
  have a9 := g 5 (by omega) 6 (by omega)
  have b1 := h3 0 (by omega) 1 (by omega) 2 (by omega) (by omega) (by omega) (by omega)
  have b2 := h3 0 (by omega) 2 (by omega) 1 (by omega) (by omega) (by omega) (by omega)
  have b3 := h3 1 (by omega) 2 (by omega) 0 (by omega) (by omega) (by omega) (by omega)
  simp at a1 a2 a3 a4 a5 a6 a7 a8 a9 b1 b2 b3
  exact ⟨z, by omega, by omega, by omega, by omega, by omega, by omega, by omega, by omega, by omega, by omega, by omega, by omega⟩
/-- Moves are threes. -/
theorem mv_iff {t : List Int} (hv : VT t) : Mv t ↔ Mod t ∧ Tri t := ⟨fun h => (h.mo hv).modTri, fun h => (modTri_mo hv.2.1 h.1 h.2).mv hv⟩

noncomputable def mvB (t : List Int) : Bool := @decide (VT t ∧ Mv t) (Classical.propDecidable _)
theorem mvB_true {t : List Int} (h : VT t) (hm : Mv t) : mvB t = true := by unfold mvB; simp [h, hm]
theorem mvB_false {t : List Int} (h : ¬ (VT t ∧ Mv t)) : mvB t = false := by unfold mvB; simp only [decide_eq_false_iff_not]; exact h
theorem mvB_iff {t : List Int} : mvB t = true ↔ VT t ∧ Mv t := by unfold mvB; simp
noncomputable def thB (t : List Int) : Bool := @decide (VT t ∧ Mod t ∧ Tri t) (Classical.propDecidable _)
theorem thB_true {t : List Int} (h : VT t) (hm : Mod t) (h3 : Tri t) : thB t = true := by unfold thB; simp [h, hm, h3]
theorem thB_false {t : List Int} (h : ¬ (VT t ∧ Mod t ∧ Tri t)) : thB t = false := by unfold thB; simp only [decide_eq_false_iff_not]; exact h
theorem thB_iff {t : List Int} : thB t = true ↔ VT t ∧ Mod t ∧ Tri t := by unfold thB; simp
theorem thB_mvB (t : List Int) : thB t = mvB t := by
  by_cases hv : VT t
  · by_cases hm : Mv t
    · obtain ⟨h1, h2⟩ := (mv_iff hv).1 hm
      rw [mvB_true hv hm, thB_true hv h1 h2]
    · rw [mvB_false (fun h => hm h.2), thB_false (fun h => hm ((mv_iff hv).2 h.2))]
  · rw [mvB_false (fun h => hv h.1), thB_false (fun h => hv h.1)]

/-- Sums may be moved, and what is one thing. -/
theorem sum_mv {t : List Int} (hv : VT t) (h : ∀ s, s < 8 → T t s = sumAl t s 3) : Mo (T t) := by
  have g := fun s hs => h s hs
  have b3 := g 3 (by omega); have b5 := g 5 (by omega); have b6 := g 6 (by omega); have b7 := g 7 (by omega)
  simp [sumAl] at b3 b5 b6 b7
  exact ⟨hv.2.1, by omega, by omega, by omega, by omega, by omega, by omega, by omega, by omega, by omega, by omega, by omega, by omega⟩
theorem one_mv {t : List Int} (hv : VT t) (h : ∀ s, s < 8 → T t s = mostAl t s 3) : Mo (T t) := by
  have g := fun s hs => h s hs
  have a := hv.all
  have b3 := g 3 (by omega); have b5 := g 5 (by omega); have b6 := g 6 (by omega); have b7 := g 7 (by omega)
  simp [mostAl] at b3 b5 b6 b7
  exact ⟨hv.2.1, by omega, by omega, by omega, by omega, by omega, by omega, by omega, by omega, by omega, by omega, by omega, by omega⟩

end Go.Proofs.Ytpildecpabeanab

/-
  Chapter 6, plain: tables of two bidders as one: their things may be moved if those of both may.
-/
namespace Go.Proofs.Ytpildecpabeanab

theorem jn_ge {a b : Nat → Int} {x p : Nat} (h : p ∈ subs x) : a p + b (x - p) ≤ jn a b x := le_mx (f := fun p => a p + b (x - p)) h
theorem jn_at {a b : Nat → Int} (za : a 0 = 0) {x : Nat} (hb : 0 ≤ b x) : ∃ p, p ∈ subs x ∧ jn a b x = a p + b (x - p) := by
  rcases mx_got (fun p => a p + b (x - p)) (subs x) with h | h
  · have h1 := jn_ge (a := a) (b := b) (sub_zero x)
    refine ⟨0, sub_zero x, ?_⟩
    rw [za, Nat.sub_zero] at h1 ⊢
    unfold jn at h1 ⊢
    omega
  · exact h
theorem subs_vals : subs 0 = [0] ∧ subs 1 = [0, 1] ∧ subs 2 = [0, 2] ∧ subs 3 = [0, 1, 2, 3] ∧ subs 4 = [0, 4] ∧ subs 5 = [0, 1, 4, 5] ∧ subs 6 = [0, 2, 4, 6] ∧ subs 7 = [0, 1, 2, 3, 4, 5, 6, 7] := by decide
/-- What a joined table is, set by set. -/
structure Js (a b J : Nat → Int) : Prop where
  j0 : J 0 = 0
  j1 : (a 1 ≤ J 1 ∧ b 1 ≤ J 1) ∧ (J 1 = a 1 ∨ J 1 = b 1)
  j2 : (a 2 ≤ J 2 ∧ b 2 ≤ J 2) ∧ (J 2 = a 2 ∨ J 2 = b 2)
  j4 : (a 4 ≤ J 4 ∧ b 4 ≤ J 4) ∧ (J 4 = a 4 ∨ J 4 = b 4)
  j3 : (b 3 ≤ J 3 ∧ a 1 + b 2 ≤ J 3 ∧ a 2 + b 1 ≤ J 3 ∧ a 3 ≤ J 3) ∧ (J 3 = b 3 ∨ J 3 = a 1 + b 2 ∨ J 3 = a 2 + b 1 ∨ J 3 = a 3)
  j5 : (b 5 ≤ J 5 ∧ a 1 + b 4 ≤ J 5 ∧ a 4 + b 1 ≤ J 5 ∧ a 5 ≤ J 5) ∧ (J 5 = b 5 ∨ J 5 = a 1 + b 4 ∨ J 5 = a 4 + b 1 ∨ J 5 = a 5)
  j6 : (b 6 ≤ J 6 ∧ a 2 + b 4 ≤ J 6 ∧ a 4 + b 2 ≤ J 6 ∧ a 6 ≤ J 6) ∧ (J 6 = b 6 ∨ J 6 = a 2 + b 4 ∨ J 6 = a 4 + b 2 ∨ J 6 = a 6)
  j7 : (b 7 ≤ J 7 ∧ a 1 + b 6 ≤ J 7 ∧ a 2 + b 5 ≤ J 7 ∧ a 3 + b 4 ≤ J 7 ∧ a 4 + b 3 ≤ J 7 ∧ a 5 + b 2 ≤ J 7 ∧ a 6 + b 1 ≤ J 7 ∧ a 7 ≤ J 7) ∧
    (J 7 = b 7 ∨ J 7 = a 1 + b 6 ∨ J 7 = a 2 + b 5 ∨ J 7 = a 3 + b 4 ∨ J 7 = a 4 + b 3 ∨ J 7 = a 5 + b 2 ∨ J 7 = a 6 + b 1 ∨ J 7 = a 7)
theorem js_jn {a b : Nat → Int} (za : a 0 = 0) (zb : b 0 = 0) (hb : ∀ s, s < 8 → 0 ≤ b s) : Js a b (jn a b) := by
  have s0 := subs_vals
  obtain ⟨e0, e1, e2, e3, e4, e5, e6, e7⟩ := s0
  have g : ∀ x p, p ∈ subs x → a p + b (x - p) ≤ jn a b x := fun x p h => jn_ge h
  have t := fun x (hx : x < 8) => jn_at (a := a) (b := b) za (hb x hx)
  constructor
  · obtain ⟨p, hp, h⟩ := t 0 (by omega); rw [e0] at hp; simp at hp; subst hp; rw [h, za, zb]; rfl
  · have g0 := g 1 0 (by decide); have g1 := g 1 1 (by decide); simp [za, zb] at g0 g1
    obtain ⟨p, hp, h⟩ := t 1 (by omega); rw [e1] at hp; simp at hp
    refine ⟨⟨g1, g0⟩, ?_⟩
    rcases hp with rfl | rfl <;> simp [za, zb] at h <;> omega
  · have g0 := g 2 0 (by decide); have g1 := g 2 2 (by decide); simp [za, zb] at g0 g1
    obtain ⟨p, hp, h⟩ := t 2 (by omega); rw [e2] at hp; simp at hp
    refine ⟨⟨g1, g0⟩, ?_⟩
    rcases hp with rfl | rfl <;> simp [za, zb] at h <;> omega
  · have g0 := g 4 0 (by decide); have g1 := g 4 4 (by decide); simp [za, zb] at g0 g1
    obtain ⟨p, hp, h⟩ := t 4 (by omega); rw [e4] at hp; simp at hp
    refine ⟨⟨g1, g0⟩, ?_⟩
    rcases hp with rfl | rfl <;> simp [za, zb] at h <;> omega
  · have g0 := g 3 0 (by decide); have g1 := g 3 1 (by decide); have g2 := g 3 2 (by decide); have g3 := g 3 3 (by decide); simp [za, zb] at g0 g1 g2 g3
    obtain ⟨p, hp, h⟩ := t 3 (by omega); rw [e3] at hp; simp at hp
    refine ⟨⟨g0, g1, g2, g3⟩, ?_⟩
    rcases hp with rfl | rfl | rfl | rfl <;> simp [za, zb] at h <;> omega
  · have g0 := g 5 0 (by decide); have g1 := g 5 1 (by decide); have g2 := g 5 4 (by decide); have g3 := g 5 5 (by decide); simp [za, zb] at g0 g1 g2 g3
    obtain ⟨p, hp, h⟩ := t 5 (by omega); rw [e5] at hp; simp at hp
    refine ⟨⟨g0, g1, g2, g3⟩, ?_⟩
    rcases hp with rfl | rfl | rfl | rfl <;> simp [za, zb] at h <;> omega
  · have g0 := g 6 0 (by decide); have g1 := g 6 2 (by decide); have g2 := g 6 4 (by decide); have g3 := g 6 6 (by decide); simp [za, zb] at g0 g1 g2 g3
    obtain ⟨p, hp, h⟩ := t 6 (by omega); rw [e6] at hp; simp at hp
    refine ⟨⟨g0, g1, g2, g3⟩, ?_⟩
    rcases hp with rfl | rfl | rfl | rfl <;> simp [za, zb] at h <;> omega
  · have g0 := g 7 0 (by decide); have g1 := g 7 1 (by decide); have g2 := g 7 2 (by decide); have g3 := g 7 3 (by decide); have g4 := g 7 4 (by decide); have g5 := g 7 5 (by decide); have g6 := g 7 6 (by decide); have g7 := g 7 7 (by decide); simp [za, zb] at g0 g1 g2 g3 g4 g5 g6 g7
    obtain ⟨p, hp, h⟩ := t 7 (by omega); rw [e7] at hp; simp at hp
    refine ⟨⟨g0, g1, g2, g3, g4, g5, g6, g7⟩, ?_⟩
    rcases hp with rfl | rfl | rfl | rfl | rfl | rfl | rfl | rfl <;> simp [za, zb] at h <;> omega

section
variable {a b J : Nat → Int}
theorem Js.m3 (A : Mo a) (B : Mo b) (h : Js a b J) : J 3 ≤ J 1 + J 2 := by
  have h1 := h.j1.1; have h2 := h.j2.1; have x := A.m3; have y := B.m3
  rcases h.j3.2 with e | e | e | e <;> omega
theorem Js.m5 (A : Mo a) (B : Mo b) (h : Js a b J) : J 5 ≤ J 1 + J 4 := by
  have h1 := h.j1.1; have h2 := h.j4.1; have x := A.m5; have y := B.m5
  rcases h.j5.2 with e | e | e | e <;> omega
theorem Js.m6 (A : Mo a) (B : Mo b) (h : Js a b J) : J 6 ≤ J 2 + J 4 := by
  have h1 := h.j2.1; have h2 := h.j4.1; have x := A.m6; have y := B.m6
  rcases h.j6.2 with e | e | e | e <;> omega
theorem Js.m71 (A : Mo a) (B : Mo b) (h : Js a b J) : J 7 ≤ J 1 + J 6 := by
  have h1 := h.j1.1; have h2 := h.j6.1; have x := A.m71; have y := B.m71; have x1 := A.m3; have x2 := A.m5; have y1 := B.m3; have y2 := B.m5
  rcases h.j7.2 with e | e | e | e | e | e | e | e <;> omega
theorem Js.m72 (A : Mo a) (B : Mo b) (h : Js a b J) : J 7 ≤ J 2 + J 5 := by
  have h1 := h.j2.1; have h2 := h.j5.1; have x := A.m72; have y := B.m72; have x1 := A.m3; have x2 := A.m6; have y1 := B.m3; have y2 := B.m6
  rcases h.j7.2 with e | e | e | e | e | e | e | e <;> omega
theorem Js.m74 (A : Mo a) (B : Mo b) (h : Js a b J) : J 7 ≤ J 4 + J 3 := by
  have h1 := h.j4.1; have h2 := h.j3.1; have x := A.m74; have y := B.m74; have x1 := A.m5; have x2 := A.m6; have y1 := B.m5; have y2 := B.m6
  rcases h.j7.2 with e | e | e | e | e | e | e | e <;> omega
theorem Js.n1 (A : Mo a) (B : Mo b) (h : Js a b J) : J 7 + J 1 ≤ J 3 + J 5 := by
  have h3 := h.j3.1; have h5 := h.j5.1
  obtain ⟨_, a3, a5, a6, a71, a72, a74, an1, _, _, _, _, at1⟩ := A
  obtain ⟨_, b3, b5, b6, b71, b72, b74, bn1, _, _, _, _, bt1⟩ := B
  rcases h.j1.2 with f | f <;> rcases h.j7.2 with e | e | e | e | e | e | e | e <;> omega
theorem Js.n2 (A : Mo a) (B : Mo b) (h : Js a b J) : J 7 + J 2 ≤ J 3 + J 6 := by
  have h3 := h.j3.1; have h6 := h.j6.1
  obtain ⟨_, a3, a5, a6, a71, a72, a74, _, an1, _, _, at1, _⟩ := A
  obtain ⟨_, b3, b5, b6, b71, b72, b74, _, bn1, _, _, bt1, _⟩ := B
  rcases h.j2.2 with f | f <;> rcases h.j7.2 with e | e | e | e | e | e | e | e <;> omega
theorem Js.n4 (A : Mo a) (B : Mo b) (h : Js a b J) : J 7 + J 4 ≤ J 5 + J 6 := by
  have h3 := h.j5.1; have h6 := h.j6.1
  obtain ⟨_, a3, a5, a6, a71, a72, a74, _, _, an1, at1, _, _⟩ := A
  obtain ⟨_, b3, b5, b6, b71, b72, b74, _, _, bn1, bt1, _, _⟩ := B
  rcases h.j4.2 with f | f <;> rcases h.j7.2 with e | e | e | e | e | e | e | e <;> omega
theorem Js.t4 (A : Mo a) (B : Mo b) (h : Js a b J) : J 3 + J 4 ≤ J 5 + J 2 ∨ J 3 + J 4 ≤ J 6 + J 1 := by
  have h1 := h.j1.1; have h2 := h.j2.1; have h5 := h.j5.1; have h6 := h.j6.1
  have x := A.t4; have y := B.t4; have x3 := A.m3; have y3 := B.m3
  rcases h.j4.2 with f | f <;> rcases h.j3.2 with e | e | e | e <;> omega
theorem Js.t2 (A : Mo a) (B : Mo b) (h : Js a b J) : J 5 + J 2 ≤ J 3 + J 4 ∨ J 5 + J 2 ≤ J 6 + J 1 := by
  have h1 := h.j1.1; have h2 := h.j4.1; have h5 := h.j3.1; have h6 := h.j6.1
  have x := A.t2; have y := B.t2; have x3 := A.m5; have y3 := B.m5
  rcases h.j2.2 with f | f <;> rcases h.j5.2 with e | e | e | e <;> omega
theorem Js.t1 (A : Mo a) (B : Mo b) (h : Js a b J) : J 6 + J 1 ≤ J 3 + J 4 ∨ J 6 + J 1 ≤ J 5 + J 2 := by
  have h1 := h.j2.1; have h2 := h.j4.1; have h5 := h.j3.1; have h6 := h.j5.1
  have x := A.t1; have y := B.t1; have x3 := A.m6; have y3 := B.m6
  rcases h.j1.2 with f | f <;> rcases h.j6.2 with e | e | e | e <;> omega
theorem Js.mo (A : Mo a) (B : Mo b) (h : Js a b J) : Mo J :=
  ⟨h.j0, h.m3 A B, h.m5 A B, h.m6 A B, h.m71 A B, h.m72 A B, h.m74 A B, h.n1 A B, h.n2 A B, h.n4 A B, h.t4 A B, h.t2 A B, h.t1 A B⟩
end
theorem jn_mo {a b : Nat → Int} (A : Mo a) (B : Mo b) (hb : ∀ s, s < 8 → 0 ≤ b s) : Mo (jn a b) := (js_jn A.z B.z hb).mo A B
theorem mo_congr {a b : Nat → Int} (h : ∀ s, s < 8 → a s = b s) (A : Mo a) : Mo b := by
  have e0 := h 0 (by omega); have e1 := h 1 (by omega); have e2 := h 2 (by omega); have e3 := h 3 (by omega); have e4 := h 4 (by omega); have e5 := h 5 (by omega); have e6 := h 6 (by omega); have e7 := h 7 (by omega)
  obtain ⟨z, m3, m5, m6, m71, m72, m74, n1, n2, n4, t4, t2, t1⟩ := A
  rw [e0] at z; rw [e1, e2, e3] at m3; rw [e1, e4, e5] at m5; rw [e2, e4, e6] at m6
  rw [e1, e6, e7] at m71; rw [e2, e5, e7] at m72; rw [e3, e4, e7] at m74
  rw [e1, e3, e5, e7] at n1; rw [e2, e3, e6, e7] at n2; rw [e4, e5, e6, e7] at n4
  rw [e1, e2, e3, e4, e5, e6] at t4 t2 t1
  exact ⟨z, m3, m5, m6, m71, m72, m74, n1, n2, n4, t4, t2, t1⟩
/-- What bidders have together may be moved if all may. -/
theorem sv_mo {ts : List (List Int)} (h : ∀ t ∈ ts, VT t ∧ Mo (T t)) : Mo (sv ts) := by
  induction ts with
  | nil => constructor <;> simp [sv]
  | cons t ts ih =>
    have hr := ih (fun u hu => h u (by simp [hu]))
    exact mo_congr (fun s hs => rfl) (jn_mo (a := T t) (b := sv ts) (h t (by simp)).2 hr (fun s _ => sv_nonneg ts s))
theorem jn_comm {a b : Nat → Int} {x : Nat} (hx : x < 8) : jn a b x = jn b a x := by
  apply Int.le_antisymm
  · refine mx_le (mx_nonneg _ _) (fun p hp => ?_)
    obtain ⟨h1, h2, _⟩ := sub_rest hx hp
    have := jn_ge (a := b) (b := a) h1
    rw [h2] at this
    omega
  · refine mx_le (mx_nonneg _ _) (fun p hp => ?_)
    obtain ⟨h1, h2, _⟩ := sub_rest hx hp
    have := jn_ge (a := a) (b := b) h1
    rw [h2] at this
    omega

end Go.Proofs.Ytpildecpabeanab

/-
  Chapter 6, plain: more bidders pay more, and two names are no better, where things may be moved.
-/
namespace Go.Proofs.Ytpildecpabeanab

/-- What is had goes to one bidder, and the rest to the others. -/
theorem got_pick {ts : List (List Int)} : ∀ (i X : Nat) (v : Int), X < 8 → i < ts.length → (Got ts X v ↔ ∃ s, s ∈ subs X ∧ ∃ u, Got (ts.eraseIdx i) (X - s) u ∧ v = T (ts.getD i []) s + u) := by
  induction ts with
  | nil => intro i X v _ h; simp at h
  | cons t ts ih =>
    intro i X v hX h
    cases i with
    | zero => simp only [List.eraseIdx_zero, List.tail_cons, List.getD_cons_zero, Got]
    | succ i =>
      simp only [List.eraseIdx_cons_succ, List.getD_cons_succ, Got]
      have hi : i < ts.length := by simpa using h
      constructor
      · rintro ⟨s, hs, u, hu, rfl⟩
        obtain ⟨r, hr, u', hu', rfl⟩ := (ih i (X - s) u (sub_lt hX hs) hi).1 hu
        obtain ⟨h1, h2, h3⟩ := sub_sub hX hs hr
        exact ⟨r, h1, T t s + u', ⟨s, h2, u', h3 ▸ hu', rfl⟩, by omega⟩
      · rintro ⟨r, hr, w, ⟨s, hs, u', hu', rfl⟩, rfl⟩
        obtain ⟨h1, h2, h3⟩ := sub_sub hX hr hs
        exact ⟨s, h1, T (ts.getD i []) r + u', (ih i (X - s) _ (sub_lt hX h1) hi).2 ⟨r, h2, u', h3 ▸ hu', rfl⟩, by omega⟩
/-- Both rests together are no less than the rest of both and all. -/
theorem mo_rests {S : Nat → Int} (A : Mo S) {r s : Nat} (hr : r ∈ subs 7) (hs : s ∈ subs (7 - r)) : S (7 - r - s) + S 7 ≤ S (7 - r) + S (7 - s) := by
  obtain ⟨z, m3, m5, m6, m71, m72, m74, n1, n2, n4, _, _, _⟩ := A
  have hr8 := subs_lt hr
  have hs8 := subs_lt hs
  have ha := subs_and hs
  rcases nat8 hr8 with rfl | rfl | rfl | rfl | rfl | rfl | rfl | rfl <;> rcases nat8 hs8 with rfl | rfl | rfl | rfl | rfl | rfl | rfl | rfl <;>
    first
    | (exfalso; revert ha; decide)
    | (simp only [Nat.sub_zero, Nat.sub_self, Nat.reduceSub]; omega)
/-- One bidder more brings less where there is another one more. -/
theorem sv_less {ts : List (List Int)} {b : List Int} (h : ∀ t ∈ ts ++ [b], VT t ∧ Mo (T t)) {i : Nat} (hi : i < ts.length) :
    sv (ts ++ [b]) 7 + sv (ts.eraseIdx i) 7 ≤ sv (ts.eraseIdx i ++ [b]) 7 + sv ts 7 := by
  have hz : ∀ t ∈ ts ++ [b], T t 0 = 0 := fun t ht => (h t ht).1.2.1
  have ho : ∀ t ∈ ts.eraseIdx i, VT t ∧ Mo (T t) := fun t ht => h t (List.mem_append.2 (.inl (mem_erase ht)))
  have A := sv_mo ho
  obtain ⟨r, hr, u, hu, e1⟩ := (got_snoc (by omega)).1 (got_sv hz 7)
  obtain ⟨s, hs, u', hu', e2⟩ := (got_pick i (7 - r) u (sub_lt (by omega) hr) hi).1 hu
  have h1 := got_le hu'
  have hsr := sub_sub (by omega) hr hs
  have h2 : sv (ts.eraseIdx i) (7 - r) + T b r ≤ sv (ts.eraseIdx i ++ [b]) 7 := got_le ((got_snoc (by omega)).2 ⟨r, hr, _, got_sv (fun t ht => (ho t ht).1.2.1) _, rfl⟩)
  have h3 : T (ts.getD i []) s + sv (ts.eraseIdx i) (7 - s) ≤ sv ts 7 := got_le ((got_pick i 7 _ (by omega) hi).2 ⟨s, hsr.1, _, got_sv (fun t ht => (ho t ht).1.2.1) _, rfl⟩)
  have h4 := mo_rests A hr hs
  omega

/-- The sum of what the others have without each of the first k. -/
def outTo (ts : List (List Int)) : Nat → Int
  | 0 => 0
  | k + 1 => outTo ts k + sv (ts.eraseIdx k) 7
theorem paid_out (ts : List (List Int)) : ∀ k, paidTo ts k = outTo ts k - (k : Int) * worthF ts (wayF ts) + hasTo ts (wayF ts) k
  | 0 => by simp [paidTo, outTo, hasTo]
  | k + 1 => by
    have := paid_out ts k
    simp only [paidTo, outTo, hasTo, pvF]
    have e : ((k + 1 : Nat) : Int) * worthF ts (wayF ts) = (k : Int) * worthF ts (wayF ts) + worthF ts (wayF ts) := by rw [Int.natCast_add, Int.add_mul]; simp
    rw [e]
    omega
theorem erase_snoc {ts : List (List Int)} {b : List Int} {i : Nat} (hi : i < ts.length) : (ts ++ [b]).eraseIdx i = ts.eraseIdx i ++ [b] := List.eraseIdx_append_of_lt_length hi _
theorem erase_last {ts : List (List Int)} {b : List Int} : (ts ++ [b]).eraseIdx ts.length = ts := by
  rw [List.eraseIdx_append_of_length_le (Nat.le_refl _)]; simp
theorem out_snoc {ts : List (List Int)} {b : List Int} : ∀ k, k ≤ ts.length → (∀ t ∈ ts ++ [b], VT t ∧ Mo (T t)) → outTo ts k + (k : Int) * sv (ts ++ [b]) 7 ≤ outTo (ts ++ [b]) k + (k : Int) * sv ts 7
  | 0, _, _ => by simp [outTo]
  | k + 1, hk, h => by
    have ih := out_snoc k (by omega) h
    have h1 := sv_less h (i := k) hk
    simp only [outTo]
    rw [erase_snoc hk]
    have e1 : ((k + 1 : Nat) : Int) * sv (ts ++ [b]) 7 = (k : Int) * sv (ts ++ [b]) 7 + sv (ts ++ [b]) 7 := by rw [Int.natCast_add, Int.add_mul]; simp
    have e2 : ((k + 1 : Nat) : Int) * sv ts 7 = (k : Int) * sv ts 7 + sv ts 7 := by rw [Int.natCast_add, Int.add_mul]; simp
    rw [e1, e2]
    omega

/-- More bidders pay more. -/
theorem paid_more {ts : List (List Int)} {b : List Int} (hn : ts.length + 1 ≤ 4) (h : ∀ t ∈ ts ++ [b], VT t ∧ Mo (T t)) : paidTo ts ts.length ≤ paidTo (ts ++ [b]) (ts ++ [b]).length := by
  have hz : ∀ t ∈ ts ++ [b], T t 0 = 0 := fun t ht => (h t ht).1.2.1
  have hz' : ∀ t ∈ ts, T t 0 = 0 := fun t ht => hz t (List.mem_append.2 (.inl ht))
  have hl : (ts ++ [b]).length = ts.length + 1 := by simp
  have w1 := wayF_worth hz' (by omega)
  have w2 := wayF_worth hz (by rw [hl]; exact hn)
  have p1 := paid_out ts ts.length
  have p2 := paid_out (ts ++ [b]) (ts ++ [b]).length
  rw [hasTo_is _ _ (Nat.le_refl _), List.take_length, w1] at p1
  rw [hasTo_is _ _ (Nat.le_refl _), List.take_length, w2] at p2
  have o := out_snoc ts.length (Nat.le_refl _) h
  have e : outTo (ts ++ [b]) (ts ++ [b]).length = outTo (ts ++ [b]) ts.length + sv ts 7 := by
    rw [hl]
    simp only [outTo]
    rw [erase_last]
  rw [e] at p2
  have e2 : (((ts ++ [b]).length : Nat) : Int) * sv (ts ++ [b]) 7 = (ts.length : Int) * sv (ts ++ [b]) 7 + sv (ts ++ [b]) 7 := by rw [hl, Int.natCast_add, Int.add_mul]; simp
  rw [e2] at p2
  rw [p1, p2]
  omega

/-- The set of a bidder is among the things that go to this and later ones. -/
theorem skn_in {x y z k i : Int} (h : k ≤ i) : skn x y z i ∈ subs (ge k x y z) := by
  unfold skn ge
  have ex : (x = i ∧ k ≤ x) ∨ (¬ x = i ∧ k ≤ x) ∨ (¬ x = i ∧ ¬ k ≤ x) := by omega
  have ey : (y = i ∧ k ≤ y) ∨ (¬ y = i ∧ k ≤ y) ∨ (¬ y = i ∧ ¬ k ≤ y) := by omega
  have ez : (z = i ∧ k ≤ z) ∨ (¬ z = i ∧ k ≤ z) ∨ (¬ z = i ∧ ¬ k ≤ z) := by omega
  rcases ex with ⟨a1, b1⟩ | ⟨a1, b1⟩ | ⟨a1, b1⟩ <;> rcases ey with ⟨a2, b2⟩ | ⟨a2, b2⟩ | ⟨a2, b2⟩ <;> rcases ez with ⟨a3, b3⟩ | ⟨a3, b3⟩ | ⟨a3, b3⟩ <;>
    ((first | rw [if_pos a1] | rw [if_neg a1]); (first | rw [if_pos b1] | rw [if_neg b1]); (first | rw [if_pos a2] | rw [if_neg a2]); (first | rw [if_pos b2] | rw [if_neg b2]); (first | rw [if_pos a3] | rw [if_neg a3]); (first | rw [if_pos b3] | rw [if_neg b3]); decide)
theorem ge_in {x y z k i : Int} (h : k ≤ i) : ge i x y z ∈ subs (ge k x y z) := by
  unfold ge
  have ex : (i ≤ x ∧ k ≤ x) ∨ (¬ i ≤ x ∧ k ≤ x) ∨ (¬ i ≤ x ∧ ¬ k ≤ x) := by omega
  have ey : (i ≤ y ∧ k ≤ y) ∨ (¬ i ≤ y ∧ k ≤ y) ∨ (¬ i ≤ y ∧ ¬ k ≤ y) := by omega
  have ez : (i ≤ z ∧ k ≤ z) ∨ (¬ i ≤ z ∧ k ≤ z) ∨ (¬ i ≤ z ∧ ¬ k ≤ z) := by omega
  rcases ex with ⟨a1, b1⟩ | ⟨a1, b1⟩ | ⟨a1, b1⟩ <;> rcases ey with ⟨a2, b2⟩ | ⟨a2, b2⟩ | ⟨a2, b2⟩ <;> rcases ez with ⟨a3, b3⟩ | ⟨a3, b3⟩ | ⟨a3, b3⟩ <;>
    ((first | rw [if_pos a1] | rw [if_neg a1]); (first | rw [if_pos b1] | rw [if_neg b1]); (first | rw [if_pos a2] | rw [if_neg a2]); (first | rw [if_pos b2] | rw [if_neg b2]); (first | rw [if_pos a3] | rw [if_neg a3]); (first | rw [if_pos b3] | rw [if_neg b3]); decide)
/-- What the first bidders have is no more than what goes to them. -/
theorem got_first (x y z : Int) : ∀ (ts : List (List Int)) (k : Int), Got ts (ge k x y z - ge (k + ts.length) x y z) (wk ts k x y z)
  | [], k => rfl
  | t :: ts, k => by
    obtain ⟨h1, h2⟩ := ge_step k x y z
    have h3 := got_first x y z ts (k + 1)
    have e : k + ((t :: ts).length : Int) = k + 1 + (ts.length : Int) := by simp; omega
    rw [e]
    have h4 : ge (k + 1 + (ts.length : Int)) x y z ∈ subs (ge k x y z - skn x y z k) := by rw [h2]; exact ge_in (by omega)
    obtain ⟨_, q2, q3⟩ := sub_sub (ge_lt k x y z) h1 h4
    rw [h2] at q3
    exact ⟨_, q2, _, by rw [← q3]; exact h3, rfl⟩
/-- The same without one of them. -/
theorem got_but (x y z : Int) : ∀ (ts : List (List Int)) (i : Nat) (k : Int), i < ts.length → skn x y z (k + i) ∈ subs (ge k x y z - ge (k + ts.length) x y z) ∧
    Got (ts.eraseIdx i) (ge k x y z - ge (k + ts.length) x y z - skn x y z (k + i)) (wk ts k x y z - T (ts.getD i []) (skn x y z (k + i)))
  | [], i, k, h => by simp at h
  | t :: ts, i, k, h => by
    obtain ⟨h1, h2⟩ := ge_step k x y z
    have e : k + ((t :: ts).length : Int) = k + 1 + (ts.length : Int) := by simp; omega
    rw [e]
    have h4 : ge (k + 1 + (ts.length : Int)) x y z ∈ subs (ge k x y z - skn x y z k) := by rw [h2]; exact ge_in (by omega)
    obtain ⟨q1, q2, q3⟩ := sub_sub (ge_lt k x y z) h1 h4
    rw [h2] at q3
    have hlt : ge k x y z - ge (k + 1 + (ts.length : Int)) x y z < 8 := Nat.lt_of_le_of_lt (Nat.sub_le _ _) (ge_lt k x y z)
    cases i with
    | zero =>
      have h3 := got_first x y z ts (k + 1)
      simp only [List.eraseIdx_zero, List.tail_cons, List.getD_cons_zero, wk]
      rw [show k + ((0 : Nat) : Int) = k by omega]
      refine ⟨q2, ?_⟩
      rw [← q3, show T t (skn x y z k) + wk ts (k + 1) x y z - T t (skn x y z k) = wk ts (k + 1) x y z by omega]
      exact h3
    | succ i =>
      obtain ⟨r1, r2⟩ := got_but x y z ts i (k + 1) (by simpa using h)
      simp only [List.eraseIdx_cons_succ, List.getD_cons_succ, wk]
      rw [show k + ((i + 1 : Nat) : Int) = k + 1 + (i : Int) by omega]
      rw [q3] at r1 r2
      obtain ⟨p1, p2, p3⟩ := sub_sub hlt q2 r1
      refine ⟨p1, _, p2, _, by rw [← p3]; exact r2, by omega⟩

/-- Sets of a way that ends with one more bidder. -/
theorem apart_sets {G D A B : Nat} (hG : G < 8) (hD : D ∈ subs G) (hB : B ∈ subs D) (hA : A ∈ subs (G - D)) :
    B ∈ subs 7 ∧ A ∈ subs 7 ∧ A ∈ subs (7 - B) ∧ 7 - B - A = 7 - (A ||| B) ∧ (A ||| B) ∈ subs 7 ∧ (G - D - A) ∈ subs (7 - B - A) := by
  have h1 := all3 (p := fun G D B => !(D &&& G == D) || !(B &&& D == B) || ((G - D) &&& (7 - B) == G - D)) (by decide) hG (subs_lt hD) (subs_lt hB)
  simp [subs_and hD, subs_and hB] at h1
  have hP : G - D < 8 := Nat.lt_of_le_of_lt (Nat.sub_le _ _) hG
  have h2 := all3 (p := fun P A B => !(P &&& (7 - B) == P) || !(A &&& P == A) || (A &&& (7 - B) == A && 7 - B - A == 7 - (A ||| B) && (P - A) &&& (7 - B - A) == P - A && decide (A ||| B < 8) && decide (P - A < 8))) (by decide) hP (subs_lt hA) (subs_lt hB)
  simp [h1, subs_and hA] at h2
  obtain ⟨⟨⟨⟨e1, e2⟩, e3⟩, e4⟩, e5⟩ := h2
  exact ⟨in7 (subs_lt hB), in7 (subs_lt hA), by simp [subs, subs_lt hA, e1], e2, in7 e4, by simp [subs, e5]; exact e3⟩

end Go.Proofs.Ytpildecpabeanab
