/-
  Chapter 8, plain: prices that climb from noughts end at the least prices at which the load is least.
-/
import Derived.Test.YtpildecpabeanaaOb
namespace Go.Proofs.Ytpildecpabeanaa

/-- The price of a thing. -/
def P1 (p : List Int) : Nat → Int := fun j => p.getD j 0
/-- Bit j of a set. -/
def bt (S j : Nat) : Int := ((S / 2 ^ j % 2 : Nat) : Int)
def bts (m S : Nat) : Nat := match m with | 0 => 0 | k + 1 => bts k S + S / 2 ^ k % 2
/-- A bidder wants none but of a set. -/
def inS (m : Nat) (r : List Int) (p : Nat → Int) (S : Nat) : Bool := decide (0 < bo m r 0 p ∧ ∀ j, j < m → r.getD j 0 - p j = bo m r 0 p → S / 2 ^ j % 2 = 1)
def cntS (m : Nat) : List (List Int) → (Nat → Int) → Nat → Nat
  | [], _, _ => 0
  | r :: rs, p, S => (if inS m r p S = true then 1 else 0) + cntS m rs p S
/-- Prices that are one more for a set. -/
def upP (m : Nat) (p : Nat → Int) (S : Nat) : Nat → Int := fun j => if j < m then p j + bt S j else p j

theorem tk_zero (m j : Nat) : isTk m 0 j = false := by simp [isTk]
theorem bt_bd (S j : Nat) : 0 ≤ bt S j ∧ bt S j ≤ 1 := by unfold bt; omega
theorem up_nn {m : Nat} {p : Nat → Int} (hp : NN m p) (S : Nat) : NN m (upP m p S) := by
  refine ⟨fun j => ?_, fun j hj => ?_⟩
  · have := hp.1 j; have := bt_bd S j; simp only [upP]; split <;> omega
  · simp only [upP]; rw [if_neg (by omega)]; exact hp.2 j hj
theorem bo_up (m : Nat) (r : List Int) (p : Nat → Int) (S : Nat) : bo m r 0 (upP m p S) = bo m r 0 p - (if inS m r p S = true then 1 else 0) := by
  have a := bo_anti (m := m) r 0 (p := p) (q := upP m p S) (fun j hj => by have := bt_bd S j; simp only [upP]; rw [if_pos hj]; omega)
  have b := bo_unit (m := m) r 0 (p := upP m p S) (q := p) (fun j hj => by have := bt_bd S j; simp only [upP]; rw [if_pos hj]; omega)
  by_cases h : inS m r p S = true
  · rw [if_pos h]
    simp only [inS, decide_eq_true_eq] at h
    obtain ⟨h0, h1⟩ := h
    rcases bo_at m r 0 (upP m p S) with e | ⟨j, hj, hf, e⟩
    · omega
    · have c := bo_ge r p hj (tk_zero m j)
      simp only [upP] at e
      rw [if_pos hj] at e
      rcases Int.lt_or_le (r.getD j 0 - p j) (bo m r 0 p) with hlt | hle
      · have := bt_bd S j; omega
      · have := h1 j hj (by omega)
        have : bt S j = 1 := by unfold bt; omega
        omega
  · rw [if_neg h]
    have hn := bo_nonneg m r 0 (upP m p S)
    rcases Int.lt_or_le 0 (bo m r 0 p) with h0 | h0
    · obtain ⟨j, hj, he, hb⟩ : ∃ j, j < m ∧ r.getD j 0 - p j = bo m r 0 p ∧ S / 2 ^ j % 2 ≠ 1 := by
        refine Classical.byContradiction (fun hn => h ?_)
        simp only [inS, decide_eq_true_eq]
        exact ⟨h0, fun j hj he => Classical.byContradiction (fun hb => hn ⟨j, hj, he, hb⟩)⟩
      have c := bo_ge r (upP m p S) hj (tk_zero m j)
      simp only [upP] at c
      rw [if_pos hj] at c
      have : bt S j = 0 := by unfold bt; omega
      omega
    · omega
theorem sp_up (m : Nat) (p : Nat → Int) (S : Nat) : ∀ k, k ≤ m → spTo m 0 (upP m p S) k = spTo m 0 p k + bts k S := by
  intro k
  induction k with
  | zero => intro _; simp [spTo, bts]
  | succ k ih =>
    intro hk
    have := ih (by omega)
    unfold spTo bts
    simp only [tk_zero, Bool.false_eq_true, if_false]
    simp only [upP] at this ⊢
    rw [if_pos (by omega : k < m)]
    unfold bt
    omega
/-- What a step does to the load. -/
theorem lp_up (m : Nat) (rows : List (List Int)) (p : Nat → Int) (S : Nat) : lp m rows 0 (upP m p S) = lp m rows 0 p + bts m S - cntS m rows p S := by
  have a := sp_up m p S m (Nat.le_refl _)
  have b : boS m rows 0 (upP m p S) = boS m rows 0 p - cntS m rows p S := by
    induction rows with
    | nil => simp [boS, cntS]
    | cons r rs ih =>
      have := bo_up m r p S
      simp only [boS, cntS]
      split at this <;> simp_all <;> omega
  simp only [lp]
  omega

/-- The set with the fewest things, the least number of several, that too many want, among the first k. -/
def tmTo (m : Nat) (rows : List (List Int)) (p : Nat → Int) : Nat → Nat
  | 0 => 0
  | k + 1 => if bts m k < cntS m rows p k ∧ (tmTo m rows p k = 0 ∨ bts m k < bts m (tmTo m rows p k)) then k else tmTo m rows p k
def tm (m : Nat) (rows : List (List Int)) (p : Nat → Int) : Nat := tmTo m rows p (2 ^ m)
theorem cnt_zero (m : Nat) (rows : List (List Int)) (p : Nat → Int) : cntS m rows p 0 = 0 := by
  induction rows with
  | nil => rfl
  | cons r rs ih =>
    have : inS m r p 0 = false := by
      simp only [inS, decide_eq_false_iff_not]
      rintro ⟨h0, h1⟩
      rcases bo_at m r 0 p with e | ⟨j, hj, _, e⟩
      · omega
      · have := h1 j hj e.symm; simp at this
    simp [cntS, ih, this]
theorem tmTo_is (m : Nat) (rows : List (List Int)) (p : Nat → Int) (k : Nat) :
    (tmTo m rows p k = 0 ∧ ∀ s, s < k → cntS m rows p s ≤ bts m s) ∨
    (tmTo m rows p k < k ∧ 0 < tmTo m rows p k ∧ bts m (tmTo m rows p k) < cntS m rows p (tmTo m rows p k) ∧ ∀ s, s < k → bts m s < cntS m rows p s → bts m (tmTo m rows p k) ≤ bts m s) := by
  induction k with
  | zero => exact .inl ⟨rfl, fun s hs => absurd hs (by omega)⟩
  | succ k ih =>
    unfold tmTo
    by_cases h : bts m k < cntS m rows p k ∧ (tmTo m rows p k = 0 ∨ bts m k < bts m (tmTo m rows p k))
    · rw [if_pos h]
      have hk0 : 0 < k := by
        rcases Nat.eq_zero_or_pos k with e | e
        · rw [e, cnt_zero] at h; omega
        · exact e
      refine .inr ⟨by omega, hk0, h.1, fun s hs hc => ?_⟩
      rcases Nat.lt_or_ge s k with h' | h'
      · rcases ih with ⟨e, hn⟩ | ⟨_, hp, _, hm⟩
        · have := hn s h'; omega
        · have := hm s h' hc
          rcases h.2 with h2 | h2
          · omega
          · omega
      · obtain rfl : s = k := by omega
        exact Nat.le_refl _
    · rw [if_neg h]
      rcases ih with ⟨e, hn⟩ | ⟨hlt, hp, hc, hm⟩
      · refine .inl ⟨e, fun s hs => ?_⟩
        rcases Nat.lt_or_ge s k with h' | h'
        · exact hn s h'
        · obtain rfl : s = k := by omega
          exact Nat.le_of_not_lt (fun hx => h ⟨hx, .inl e⟩)
      · refine .inr ⟨by omega, hp, hc, fun s hs hcs => ?_⟩
        rcases Nat.lt_or_ge s k with h' | h'
        · exact hm s h' hcs
        · obtain rfl : s = k := by omega
          exact Nat.le_of_not_lt (fun hx => h ⟨hcs, .inr hx⟩)

/-- One step. -/
def upL (m : Nat) (p : List Int) (S : Nat) : List Int := (List.range m).map (fun j => p.getD j 0 + bt S j)
theorem upL_len (m : Nat) (p : List Int) (S : Nat) : (upL m p S).length = m := by simp [upL]
theorem upL_at (m : Nat) {p : List Int} (S : Nat) (hl : p.length = m) : P1 (upL m p S) = upP m (P1 p) S := by
  refine funext (fun j => ?_)
  simp only [P1, upP]
  by_cases h : j < m
  · rw [if_pos h]
    simp [upL, List.getD_eq_getElem?_getD, h]
  · rw [if_neg h]
    simp [upL, List.getD_eq_getElem?_getD, h, hl]
def clP (m : Nat) (rows : List (List Int)) : Nat → List Int → List Int
  | 0, p => p
  | n + 1, p => if tm m rows (P1 p) = 0 then p else clP m rows n (upL m p (tm m rows (P1 p)))
/-- Prices to which these climb. -/
def clF (m : Nat) (rows : List (List Int)) (p : List Int) : List Int := clP m rows (lp m rows 0 (P1 p)).toNat p

/-- Prices as a list. -/
def PL (m : Nat) (p : List Int) : Prop := p.length = m ∧ ∀ j, 0 ≤ P1 p j
theorem PL.nn {m : Nat} {p : List Int} (h : PL m p) : NN m (P1 p) := by
  refine ⟨h.2, fun j hj => ?_⟩
  simp only [P1]
  rw [List.getD_eq_getElem?_getD, List.getElem?_eq_none (by rw [h.1]; exact hj)]; rfl
theorem PL.up {m : Nat} {p : List Int} (h : PL m p) (S : Nat) : PL m (upL m p S) := by
  refine ⟨upL_len m p S, fun j => ?_⟩
  rw [upL_at m S h.1]
  exact (up_nn h.nn S).1 j
theorem pl_zero (m : Nat) : PL m (List.replicate m 0) := by
  refine ⟨List.length_replicate, fun j => ?_⟩
  simp only [P1, List.getD_eq_getElem?_getD]
  rcases Nat.lt_or_ge j m with h | h
  · simp [h]
  · rw [List.getElem?_eq_none (by simpa using h)]; simp
theorem tm_lt (m : Nat) (rows : List (List Int)) (p : Nat → Int) : tm m rows p < 2 ^ m := by
  rcases tmTo_is m rows p (2 ^ m) with ⟨e, _⟩ | ⟨h, _⟩
  · unfold tm; rw [e]; exact Nat.two_pow_pos m
  · exact h
theorem tm_down {m : Nat} {rows : List (List Int)} {p : List Int} (h : PL m p) (ht : tm m rows (P1 p) ≠ 0) : lp m rows 0 (P1 (upL m p (tm m rows (P1 p)))) < lp m rows 0 (P1 p) := by
  rw [upL_at m _ h.1, lp_up]
  rcases tmTo_is m rows (P1 p) (2 ^ m) with ⟨e, _⟩ | ⟨_, _, hc, _⟩
  · exact absurd e ht
  · unfold tm; omega
theorem clP_enough {m : Nat} {rows : List (List Int)} : ∀ (n k : Nat) (p : List Int), PL m p → (lp m rows 0 (P1 p)).toNat ≤ n → (lp m rows 0 (P1 p)).toNat ≤ k → clP m rows n p = clP m rows k p := by
  intro n
  induction n with
  | zero =>
    intro k p hp hn hk
    cases k with
    | zero => rfl
    | succ k =>
      rw [clP, clP]
      split
      · rfl
      · rename_i ht
        have := tm_down hp ht
        have := lp_nonneg rows 0 (hp.up (tm m rows (P1 p))).nn
        omega
  | succ n ih =>
    intro k p hp hn hk
    cases k with
    | zero =>
      rw [clP, clP]
      split
      · rfl
      · rename_i ht
        have := tm_down hp ht
        have := lp_nonneg rows 0 (hp.up (tm m rows (P1 p))).nn
        omega
    | succ k =>
      rw [clP, clP]
      split
      · rfl
      · rename_i ht
        have := tm_down hp ht
        have := lp_nonneg rows 0 (hp.up (tm m rows (P1 p))).nn
        exact ih k _ (hp.up _) (by omega) (by omega)
theorem clF_end {m : Nat} {rows : List (List Int)} {p : List Int} (ht : tm m rows (P1 p) = 0) : clF m rows p = p := by
  unfold clF
  cases (lp m rows 0 (P1 p)).toNat with
  | zero => rfl
  | succ n => rw [clP, if_pos ht]
theorem clF_step {m : Nat} {rows : List (List Int)} {p : List Int} (hp : PL m p) (ht : tm m rows (P1 p) ≠ 0) : clF m rows (upL m p (tm m rows (P1 p))) = clF m rows p := by
  have hd := tm_down hp ht
  have h0 := lp_nonneg rows 0 (hp.up (tm m rows (P1 p))).nn
  obtain ⟨n, hn⟩ : ∃ n, (lp m rows 0 (P1 p)).toNat = n + 1 := ⟨(lp m rows 0 (P1 p)).toNat - 1, by omega⟩
  have e : clF m rows p = clP m rows n (upL m p (tm m rows (P1 p))) := by
    unfold clF
    rw [hn, clP, if_neg ht]
  rw [e]
  exact clP_enough _ _ _ (hp.up _) (Nat.le_refl _) (by omega)

/-- Bits of sets of up to four things. -/
theorem bits_set {m : Nat} (hm : m ≤ 4) (f : Nat → Bool) : ∃ S, S < 2 ^ m ∧ ∀ j, j < m → (S / 2 ^ j % 2 = 1 ↔ f j = true) := by
  have key : ∀ a b c d : Bool, ∃ S, S < 2 ^ 4 ∧ ((S / 2 ^ 0 % 2 = 1 ↔ a = true) ∧ (S / 2 ^ 1 % 2 = 1 ↔ b = true) ∧ (S / 2 ^ 2 % 2 = 1 ↔ c = true) ∧ (S / 2 ^ 3 % 2 = 1 ↔ d = true)) := by decide
  have key3 : ∀ a b c : Bool, ∃ S, S < 2 ^ 3 ∧ ((S / 2 ^ 0 % 2 = 1 ↔ a = true) ∧ (S / 2 ^ 1 % 2 = 1 ↔ b = true) ∧ (S / 2 ^ 2 % 2 = 1 ↔ c = true)) := by decide
  have key2 : ∀ a b : Bool, ∃ S, S < 2 ^ 2 ∧ ((S / 2 ^ 0 % 2 = 1 ↔ a = true) ∧ (S / 2 ^ 1 % 2 = 1 ↔ b = true)) := by decide
  have key1 : ∀ a : Bool, ∃ S, S < 2 ^ 1 ∧ ((S / 2 ^ 0 % 2 = 1 ↔ a = true)) := by decide
  have hc : m = 0 ∨ m = 1 ∨ m = 2 ∨ m = 3 ∨ m = 4 := by omega
  rcases hc with rfl | rfl | rfl | rfl | rfl
  · exact ⟨0, by decide, fun j hj => absurd hj (by omega)⟩
  · obtain ⟨S, h, h0⟩ := key1 (f 0)
    exact ⟨S, h, fun j hj => by obtain rfl : j = 0 := by omega
                                exact h0⟩
  · obtain ⟨S, h, h0, h1⟩ := key2 (f 0) (f 1)
    refine ⟨S, h, fun j hj => ?_⟩
    have : j = 0 ∨ j = 1 := by omega
    rcases this with rfl | rfl <;> assumption
  · obtain ⟨S, h, h0, h1, h2⟩ := key3 (f 0) (f 1) (f 2)
    refine ⟨S, h, fun j hj => ?_⟩
    have : j = 0 ∨ j = 1 ∨ j = 2 := by omega
    rcases this with rfl | rfl | rfl <;> assumption
  · obtain ⟨S, h, h0, h1, h2, h3⟩ := key (f 0) (f 1) (f 2) (f 3)
    refine ⟨S, h, fun j hj => ?_⟩
    have : j = 0 ∨ j = 1 ∨ j = 2 ∨ j = 3 := by omega
    rcases this with rfl | rfl | rfl | rfl <;> assumption
theorem bts_le {A B : Nat} : ∀ m, (∀ j, j < m → A / 2 ^ j % 2 ≤ B / 2 ^ j % 2) → bts m A ≤ bts m B ∧ (bts m B ≤ bts m A → ∀ j, j < m → A / 2 ^ j % 2 = B / 2 ^ j % 2) := by
  intro m
  induction m with
  | zero => intro _; exact ⟨Nat.le_refl _, fun _ j hj => absurd hj (by omega)⟩
  | succ m ih =>
    intro h
    obtain ⟨a, b⟩ := ih (fun j hj => h j (by omega))
    have := h m (by omega)
    unfold bts
    refine ⟨by omega, fun hx j hj => ?_⟩
    rcases Nat.lt_or_ge j m with h' | h'
    · exact b (by omega) j h'
    · obtain rfl : j = m := by omega
      omega

/-- No step of the climb goes beyond prices at which the load is least. -/
theorem tm_low {m : Nat} (hm : m ≤ 4) {rows : List (List Int)} {p q : Nat → Int} (hp : NN m p) (hq : NN m q) (hmin : ∀ x, NN m x → lp m rows 0 q ≤ lp m rows 0 x) (hle : ∀ j, p j ≤ q j) (ht : tm m rows p ≠ 0) : ∀ j, upP m p (tm m rows p) j ≤ q j := by
  rcases tmTo_is m rows p (2 ^ m) with ⟨e, _⟩ | ⟨hlt, h0, hc, hmn⟩
  · exact absurd e ht
  have hS : tm m rows p = tmTo m rows p (2 ^ m) := rfl
  rw [← hS] at hlt h0 hc hmn
  generalize tm m rows p = S at *
  obtain ⟨S', hS', hb⟩ := bits_set hm (fun j => decide (S / 2 ^ j % 2 = 1 ∧ p j < q j))
  have hsub : ∀ j, j < m → S' / 2 ^ j % 2 ≤ S / 2 ^ j % 2 := by
    intro j hj
    have := hb j hj
    simp only [decide_eq_true_eq] at this
    omega
  obtain ⟨b1, b2⟩ := bts_le m hsub
  have s := lp_sm m rows 0 0 (by omega) q (upP m p S) hq (up_nn hp S)
  have e1 : mnP 0 (upP m p S) q = upP m p S' := by
    refine funext (fun j => ?_)
    have := hle j
    simp only [mnP, upP]
    by_cases hj : j < m
    · simp only [hj, if_true]
      have h1 := hb j hj
      simp only [decide_eq_true_eq] at h1
      unfold bt
      omega
    · simp only [hj, if_false]; omega
  have e2 := hmin _ (mx_nn (e := 0) (by omega) hq (up_nn hp S))
  rw [e1] at s
  have l1 := lp_up m rows p S
  have l2 := lp_up m rows p S'
  have hnot : ¬ (bts m S' < bts m S) := by
    intro hlt'
    have : ¬ (bts m S' < cntS m rows p S') := fun hx => by have := hmn S' hS' hx; omega
    omega
  have b3 := b2 (by omega)
  intro j
  by_cases hj : j < m
  · simp only [upP]; rw [if_pos hj]
    have := b3 j hj
    have h1 := hb j hj
    simp only [decide_eq_true_eq] at h1
    have := hle j
    unfold bt
    omega
  · simp only [upP]; rw [if_neg hj]; exact hle j
/-- Where no set is wanted by too many the load is least. -/
theorem tm_none {m : Nat} (hm : m ≤ 4) {rows : List (List Int)} {p : Nat → Int} (hp : NN m p) (ht : tm m rows p = 0) {q : Nat → Int} (hq : NN m q) (hle : ∀ j, p j ≤ q j) : lp m rows 0 p ≤ lp m rows 0 q := by
  refine sm_ge (lp_sm m rows 0) hp (fun x hx hb => ?_) hq hle
  obtain ⟨S, hS, hbS⟩ := bits_set hm (fun j => decide (p j < x j))
  have e : x = upP m p S := by
    refine funext (fun j => ?_)
    simp only [upP]
    by_cases hj : j < m
    · rw [if_pos hj]
      have h1 := hbS j hj
      have := hb j
      simp only [decide_eq_true_eq] at h1
      unfold bt
      omega
    · rw [if_neg hj, hx.2 j (by omega), hp.2 j (by omega)]
  rw [e, lp_up]
  rcases tmTo_is m rows p (2 ^ m) with ⟨_, hn⟩ | ⟨_, h0, _⟩
  · have := hn S hS; omega
  · exact absurd ht (by unfold tm; omega)

/-- The end of the climb: below all prices at which the load is least. -/
theorem clF_low {m : Nat} (hm : m ≤ 4) {rows : List (List Int)} {q : Nat → Int} (hq : NN m q) (hmin : ∀ x, NN m x → lp m rows 0 q ≤ lp m rows 0 x) :
    ∀ (n : Nat) (p : List Int), PL m p → (∀ j, P1 p j ≤ q j) → (lp m rows 0 (P1 p)).toNat ≤ n → PL m (clP m rows n p) ∧ (∀ j, P1 (clP m rows n p) j ≤ q j) ∧ tm m rows (P1 (clP m rows n p)) = 0 := by
  intro n
  induction n with
  | zero =>
    intro p hp hle hn
    refine ⟨hp, hle, Classical.byContradiction (fun ht => ?_)⟩
    have := tm_down hp ht
    have := lp_nonneg rows 0 (hp.up (tm m rows (P1 p))).nn
    omega
  | succ n ih =>
    intro p hp hle hn
    rw [clP]
    split
    · rename_i ht
      exact ⟨hp, hle, ht⟩
    · rename_i ht
      have := tm_down hp ht
      have := lp_nonneg rows 0 (hp.up (tm m rows (P1 p))).nn
      exact ih _ (hp.up _) (fun j => by rw [upL_at m _ hp.1]; exact tm_low hm hp.nn hq hmin hle ht j) (by omega)
/-- The prices to which noughts climb. -/
def ppP (m : Nat) (rows : List (List Int)) : List Int := clF m rows (List.replicate m 0)
theorem pp_least {m : Nat} (hm : m ≤ 4) {rows : List (List Int)} (hr : Rk m rows) : PL m (ppP m rows) ∧ lp m rows 0 (P1 (ppP m rows)) = (pb rows 0).1 ∧ tm m rows (P1 (ppP m rows)) = 0 ∧
    ∀ q, NN m q → lp m rows 0 q = (pb rows 0).1 → ∀ j, P1 (ppP m rows) j ≤ q j := by
  have z : ∀ j, P1 (List.replicate m (0 : Int)) j = 0 := by
    intro j
    simp only [P1, List.getD_eq_getElem?_getD]
    rcases Nat.lt_or_ge j m with h | h
    · simp [h]
    · rw [List.getElem?_eq_none (by simpa using h)]; rfl
  have low : ∀ q, NN m q → lp m rows 0 q = (pb rows 0).1 → PL m (ppP m rows) ∧ (∀ j, P1 (ppP m rows) j ≤ q j) ∧ tm m rows (P1 (ppP m rows)) = 0 := fun q hq he =>
    clF_low hm hq (fun x hx => by rw [he]; exact pb_weak hm hr hx 0 (by omega)) _ _ (pl_zero m) (fun j => by rw [z j]; exact hq.1 j) (Nat.le_refl _)
  obtain ⟨q, hq, he⟩ := pb_strong hm hr 0 (by omega)
  obtain ⟨a, b, c⟩ := low q hq he
  refine ⟨a, ?_, c, fun q hq he => (low q hq he).2.1⟩
  have h1 := tm_none hm a.nn c hq b
  have h2 := pb_weak hm hr a.nn 0 (by omega)
  omega
end Go.Proofs.Ytpildecpabeanaa
