/-
  Chapter 8, plain: prices of pairs. What is left to all at prices, and the prices, is at least what the best pairs are worth, and as much at some.
-/
import Derived.Test.YtpildecpabeanaaG04
namespace Go.Proofs.Ytpildecpabeanaa

/-- A property of numbers that some have some has least. -/
theorem least_of {α : Type} (f : α → Nat) (P : α → Prop) : ∀ (n : Nat) (a : α), P a → f a ≤ n → ∃ b, P b ∧ ∀ c, P c → f b ≤ f c := by
  intro n
  induction n with
  | zero => intro a ha h0; exact ⟨a, ha, fun c _ => by omega⟩
  | succ n ih =>
    intro a ha hn
    by_cases h : ∃ c, P c ∧ f c < f a
    · obtain ⟨c, hc, hlt⟩ := h
      exact ih c hc (by omega)
    · exact ⟨a, ha, fun c hc => Nat.le_of_not_lt (fun hlt => h ⟨c, hc, hlt⟩)⟩

/-- Prices of m things: 0 behind them. -/
def NN (m : Nat) (p : Nat → Int) : Prop := (∀ j, 0 ≤ p j) ∧ ∀ j, m ≤ j → p j = 0
def mnP (e : Int) (q p : Nat → Int) : Nat → Int := fun j => min (q j) (p j + e)
def mxP (e : Int) (p q : Nat → Int) : Nat → Int := fun j => max (p j) (q j - e)
theorem mn_nn {m : Nat} {e : Int} {p q : Nat → Int} (he : 0 ≤ e) (hp : NN m p) (hq : NN m q) : NN m (mnP e q p) := by
  refine ⟨fun j => ?_, fun j hj => ?_⟩
  · have := hp.1 j; have := hq.1 j; simp only [mnP]; omega
  · have := hp.2 j hj; have := hq.2 j hj; simp only [mnP]; omega
theorem mx_nn {m : Nat} {e : Int} {p q : Nat → Int} (he : 0 ≤ e) (hp : NN m p) (hq : NN m q) : NN m (mxP e p q) := by
  refine ⟨fun j => ?_, fun j hj => ?_⟩
  · have := hp.1 j; simp only [mxP]; omega
  · have := hp.2 j hj; have := hq.2 j hj; simp only [mxP]; omega
theorem mn_mx (e : Int) (p q : Nat → Int) (j : Nat) : mnP e q p j + mxP e p q j = p j + q j := by simp only [mnP, mxP]; omega
theorem nn_top {m : Nat} {p : Nat → Int} (hp : NN m p) : ∃ K : Nat, ∀ j, p j ≤ K := by
  have : ∀ k, ∃ K : Nat, ∀ j, j < k → p j ≤ K := by
    intro k
    induction k with
    | zero => exact ⟨0, fun j hj => absurd hj (by omega)⟩
    | succ k ih =>
      obtain ⟨K, hK⟩ := ih
      refine ⟨K + (p k).toNat, fun j hj => ?_⟩
      rcases Nat.lt_or_ge j k with h | h
      · have := hK j h; omega
      · obtain rfl : j = k := by omega
        omega
  obtain ⟨K, hK⟩ := this m
  refine ⟨K, fun j => ?_⟩
  rcases Nat.lt_or_ge j m with h | h
  · exact hK j h
  · have := hp.2 j h; omega

/-- No humps: less and more of two prices are together no more. -/
def SM (m : Nat) (h : (Nat → Int) → Int) : Prop := ∀ e : Int, 0 ≤ e → ∀ p q, NN m p → NN m q → h (mnP e q p) + h (mxP e p q) ≤ h p + h q

theorem sm_up {m : Nat} {h : (Nat → Int) → Int} (hs : SM m h) {p : Nat → Int} (hp : NN m p) (hu : ∀ q, NN m q → (∀ j, p j ≤ q j ∧ q j ≤ p j + 1) → h p ≤ h q) :
    ∀ (K : Nat) (q : Nat → Int), NN m q → (∀ j, p j ≤ q j ∧ q j ≤ p j + K) → h p ≤ h q := by
  intro K
  induction K with
  | zero =>
    intro q _ hb
    have : q = p := funext (fun j => by have := hb j; omega)
    rw [this]; exact Int.le_refl _
  | succ K ih =>
    intro q hq hb
    have h1 := hu _ (mn_nn (e := 1) (by omega) hp hq) (fun j => by have := hb j; simp only [mnP]; omega)
    have h2 := ih _ (mx_nn (e := 1) (by omega) hp hq) (fun j => by have := hb j; simp only [mxP]; omega)
    have h3 := hs 1 (by omega) p q hp hq
    omega
theorem sm_down {m : Nat} {h : (Nat → Int) → Int} (hs : SM m h) {p : Nat → Int} (hp : NN m p) (hu : ∀ q, NN m q → (∀ j, q j ≤ p j ∧ p j ≤ q j + 1) → h p ≤ h q) :
    ∀ (K : Nat) (q : Nat → Int), NN m q → (∀ j, q j ≤ p j ∧ p j ≤ q j + K) → h p ≤ h q := by
  intro K
  induction K with
  | zero =>
    intro q _ hb
    have : q = p := funext (fun j => by have := hb j; omega)
    rw [this]; exact Int.le_refl _
  | succ K ih =>
    intro q hq hb
    have h1 := ih _ (mn_nn (e := 1) (by omega) hq hp) (fun j => by have := hb j; simp only [mnP]; omega)
    have h2 := hu _ (mx_nn (e := 1) (by omega) hq hp) (fun j => by have := hb j; simp only [mxP]; omega)
    have h3 := hs 1 (by omega) q p hq hp
    omega
theorem sm_ge {m : Nat} {h : (Nat → Int) → Int} (hs : SM m h) {p : Nat → Int} (hp : NN m p) (hu : ∀ q, NN m q → (∀ j, p j ≤ q j ∧ q j ≤ p j + 1) → h p ≤ h q) {q : Nat → Int} (hq : NN m q) (hb : ∀ j, p j ≤ q j) : h p ≤ h q := by
  obtain ⟨K, hK⟩ := nn_top hq
  exact sm_up hs hp hu K q hq (fun j => ⟨hb j, by have := hK j; have := hp.1 j; omega⟩)
theorem sm_le {m : Nat} {h : (Nat → Int) → Int} (hs : SM m h) {p : Nat → Int} (hp : NN m p) (hu : ∀ q, NN m q → (∀ j, q j ≤ p j ∧ p j ≤ q j + 1) → h p ≤ h q) {q : Nat → Int} (hq : NN m q) (hb : ∀ j, q j ≤ p j) : h p ≤ h q := by
  obtain ⟨K, hK⟩ := nn_top hp
  exact sm_down hs hp hu K q hq (fun j => ⟨hb j, by have := hK j; have := hq.1 j; omega⟩)
/-- What can't be less by one step can't be less. -/
theorem sm_all {m : Nat} {h : (Nat → Int) → Int} (hs : SM m h) {p : Nat → Int} (hp : NN m p) (hu : ∀ q, NN m q → (∀ j, p j ≤ q j ∧ q j ≤ p j + 1) → h p ≤ h q) (hd : ∀ q, NN m q → (∀ j, q j ≤ p j ∧ p j ≤ q j + 1) → h p ≤ h q) {q : Nat → Int} (hq : NN m q) : h p ≤ h q := by
  have h1 := sm_le hs hp hd (mn_nn (e := 0) (by omega) hp hq) (fun j => by simp only [mnP]; omega)
  have h2 := sm_ge hs hp hu (mx_nn (e := 0) (by omega) hp hq) (fun j => by simp only [mxP]; omega)
  have h3 := hs 0 (by omega) p q hp hq
  omega

/-- What is left to a bidder of the best of the first k things. -/
def boTo (m : Nat) (r : List Int) (u : Nat) (p : Nat → Int) : Nat → Int
  | 0 => 0
  | k + 1 => if isTk m u k = true then boTo m r u p k else max (boTo m r u p k) (r.getD k 0 - p k)
def bo (m : Nat) (r : List Int) (u : Nat) (p : Nat → Int) : Int := boTo m r u p m
theorem boTo_is (m : Nat) (r : List Int) (u : Nat) (p : Nat → Int) (k : Nat) :
    0 ≤ boTo m r u p k ∧ (∀ j, j < k → isTk m u j = false → r.getD j 0 - p j ≤ boTo m r u p k) ∧ (boTo m r u p k = 0 ∨ ∃ j, j < k ∧ isTk m u j = false ∧ boTo m r u p k = r.getD j 0 - p j) := by
  induction k with
  | zero => exact ⟨Int.le_refl _, fun j hj => absurd hj (by omega), .inl rfl⟩
  | succ k ih =>
    obtain ⟨a, b, c⟩ := ih
    unfold boTo
    cases ht : isTk m u k with
    | true =>
      rw [if_pos rfl]
      refine ⟨a, fun j hj hf => ?_, ?_⟩
      · rcases Nat.lt_or_ge j k with h | h
        · exact b j h hf
        · obtain rfl : j = k := by omega
          rw [ht] at hf; exact absurd hf (by simp)
      · rcases c with c | ⟨j, hj, hf, e⟩
        · exact .inl c
        · exact .inr ⟨j, by omega, hf, e⟩
    | false =>
      rw [if_neg (by simp)]
      refine ⟨by omega, fun j hj hf => ?_, ?_⟩
      · rcases Nat.lt_or_ge j k with h | h
        · have := b j h hf; omega
        · obtain rfl : j = k := by omega
          omega
      · rcases Int.lt_or_le (boTo m r u p k) (r.getD k 0 - p k) with h | h
        · exact .inr ⟨k, by omega, ht, by omega⟩
        · rcases c with c | ⟨j, hj, hf, e⟩
          · exact .inl (by omega)
          · exact .inr ⟨j, by omega, hf, by omega⟩
theorem bo_nonneg (m : Nat) (r : List Int) (u : Nat) (p : Nat → Int) : 0 ≤ bo m r u p := (boTo_is m r u p m).1
theorem bo_ge {m : Nat} (r : List Int) {u : Nat} (p : Nat → Int) {j : Nat} (hj : j < m) (hf : isTk m u j = false) : r.getD j 0 - p j ≤ bo m r u p := (boTo_is m r u p m).2.1 j hj hf
theorem bo_at (m : Nat) (r : List Int) (u : Nat) (p : Nat → Int) : bo m r u p = 0 ∨ ∃ j, j < m ∧ isTk m u j = false ∧ bo m r u p = r.getD j 0 - p j := (boTo_is m r u p m).2.2
theorem bo_anti {m : Nat} (r : List Int) (u : Nat) {p q : Nat → Int} (h : ∀ j, j < m → p j ≤ q j) : bo m r u q ≤ bo m r u p := by
  rcases bo_at m r u q with e | ⟨j, hj, hf, e⟩
  · have := bo_nonneg m r u p; omega
  · have := bo_ge r p hj hf; have := h j hj; omega
theorem bo_unit {m : Nat} (r : List Int) (u : Nat) {p q : Nat → Int} (h : ∀ j, j < m → p j ≤ q j + 1) : bo m r u q ≤ bo m r u p + 1 := by
  rcases bo_at m r u q with e | ⟨j, hj, hf, e⟩
  · have := bo_nonneg m r u p; omega
  · have := bo_ge r p hj hf; have := h j hj; omega
theorem bo_sub {m : Nat} (r : List Int) {u v : Nat} (p : Nat → Int) (h : ∀ k, isTk m v k = true → isTk m u k = true) : bo m r u p ≤ bo m r v p := by
  rcases bo_at m r u p with e | ⟨j, hj, hf, e⟩
  · have := bo_nonneg m r v p; omega
  · have : isTk m v j = false := by
      cases hv : isTk m v j with
      | false => rfl
      | true => rw [h j hv] at hf; exact absurd hf (by simp)
    have := bo_ge r p hj this; omega
theorem bo_sm (m : Nat) (r : List Int) (u : Nat) : SM m (bo m r u) := by
  intro e he p q hp hq
  have p0 := bo_nonneg m r u p
  have q0 := bo_nonneg m r u q
  rcases bo_at m r u (mnP e q p) with e1 | ⟨j, hj, hf, e1⟩
  · have : bo m r u (mxP e p q) ≤ bo m r u p := bo_anti r u (fun j _ => by simp only [mxP]; omega)
    omega
  · rcases bo_at m r u (mxP e p q) with e2 | ⟨k, hk, hg, e2⟩
    · have a := bo_ge r p hj hf
      have b := bo_ge r q hj hf
      simp only [mnP] at e1
      omega
    · have a := bo_ge r p hj hf
      have b := bo_ge r q hj hf
      have c := bo_ge r p hk hg
      have d := bo_ge r q hk hg
      simp only [mnP] at e1
      simp only [mxP] at e2
      omega

/-- What is left to all. -/
def boS (m : Nat) : List (List Int) → Nat → (Nat → Int) → Int
  | [], _, _ => 0
  | r :: rs, u, p => bo m r u p + boS m rs u p
/-- The prices of the first k things that are not taken. -/
def spTo (m u : Nat) (p : Nat → Int) : Nat → Int
  | 0 => 0
  | k + 1 => if isTk m u k = true then spTo m u p k else spTo m u p k + p k
def lp (m : Nat) (rows : List (List Int)) (u : Nat) (p : Nat → Int) : Int := boS m rows u p + spTo m u p m
theorem boS_nonneg (m : Nat) (rows : List (List Int)) (u : Nat) (p : Nat → Int) : 0 ≤ boS m rows u p := by
  induction rows with
  | nil => exact Int.le_refl _
  | cons r rs ih => have := bo_nonneg m r u p; simp only [boS]; omega
theorem spTo_nonneg {m : Nat} (u : Nat) {p : Nat → Int} (hp : ∀ j, 0 ≤ p j) (k : Nat) : 0 ≤ spTo m u p k := by
  induction k with
  | zero => exact Int.le_refl _
  | succ k ih => have := hp k; unfold spTo; split <;> omega
theorem boS_sm (m : Nat) (rows : List (List Int)) (u : Nat) : SM m (boS m rows u) := by
  intro e he p q hp hq
  induction rows with
  | nil => simp [boS]
  | cons r rs ih => have := bo_sm m r u e he p q hp hq; simp only [boS]; omega
theorem spTo_mod (m u : Nat) (e : Int) (p q : Nat → Int) (k : Nat) : spTo m u (mnP e q p) k + spTo m u (mxP e p q) k = spTo m u p k + spTo m u q k := by
  induction k with
  | zero => rfl
  | succ k ih => have := mn_mx e p q k; unfold spTo; split <;> omega
theorem lp_sm (m : Nat) (rows : List (List Int)) (u : Nat) : SM m (lp m rows u) := by
  intro e he p q hp hq
  have a := boS_sm m rows u e he p q hp hq
  have b := spTo_mod m u e p q m
  simp only [lp]
  omega
/-- The same less the price of one thing. -/
theorem lpj_sm (m : Nat) (rows : List (List Int)) (u j : Nat) : SM m (fun p => lp m rows u p - p j) := by
  intro e he p q hp hq
  have a := lp_sm m rows u e he p q hp hq
  have b := mn_mx e p q j
  simp only
  omega
theorem lp_nonneg {m : Nat} (rows : List (List Int)) (u : Nat) {p : Nat → Int} (hp : NN m p) : 0 ≤ lp m rows u p := by
  have a := boS_nonneg m rows u p
  have b := spTo_nonneg (m := m) u hp.1 m
  simp only [lp]; omega

/-- Least among the prices at which the load is least. -/
def LM (m : Nat) (f : (Nat → Int) → Int) (p : Nat → Int) : Prop := NN m p ∧ (∀ q, NN m q → f p ≤ f q) ∧ ∀ q, NN m q → (∀ j, q j ≤ p j) → f q ≤ f p → q = p
theorem sum_same {m : Nat} {p q : Nat → Int} (hle : ∀ j, q j ≤ p j) : ∀ k, spTo m 0 q k ≤ spTo m 0 p k ∧ (spTo m 0 p k ≤ spTo m 0 q k → ∀ j, j < k → q j = p j) := by
  have h0 : ∀ k, isTk m 0 k = false := fun k => by simp [isTk]
  intro k
  induction k with
  | zero => exact ⟨Int.le_refl _, fun _ j hj => absurd hj (by omega)⟩
  | succ k ih =>
    obtain ⟨a, b⟩ := ih
    have := hle k
    unfold spTo
    simp only [h0, Bool.false_eq_true, if_false]
    refine ⟨by omega, fun h j hj => ?_⟩
    rcases Nat.lt_or_ge j k with h' | h'
    · exact b (by omega) j h'
    · obtain rfl : j = k := by omega
      omega
theorem lm_some {m : Nat} {f : (Nat → Int) → Int} (h0 : ∀ p, NN m p → 0 ≤ f p) : ∃ p, LM m f p := by
  have z : NN m (fun _ => 0) := ⟨fun _ => Int.le_refl _, fun _ _ => rfl⟩
  obtain ⟨p1, hp1, hm1⟩ := least_of (fun p : Nat → Int => (f p).toNat) (NN m) _ _ z (Nat.le_refl _)
  have hmin : ∀ q, NN m q → f p1 ≤ f q := fun q hq => by have a := hm1 q hq; have := h0 _ hp1; have := h0 _ hq; omega
  obtain ⟨p2, hp2, hm2⟩ := least_of (fun p : Nat → Int => (spTo m 0 p m).toNat) (fun p => NN m p ∧ f p ≤ f p1) _ p1 ⟨hp1, Int.le_refl _⟩ (Nat.le_refl _)
  refine ⟨p2, hp2.1, fun q hq => by have := hmin q hq; have := hp2.2; omega, fun q hq hle hf => ?_⟩
  have a := hm2 q ⟨hq, by have := hp2.2; omega⟩
  have b := sum_same (m := m) hle m
  have c := spTo_nonneg (m := m) 0 hq.1 m
  have d := spTo_nonneg (m := m) 0 hp2.1.1 m
  have e := b.2 (by omega)
  refine funext (fun j => ?_)
  rcases Nat.lt_or_ge j m with h | h
  · exact e j h
  · rw [hq.2 j h, hp2.1.2 j h]
/-- The greatest of them. -/
def GM (m : Nat) (f : (Nat → Int) → Int) (p : Nat → Int) : Prop := NN m p ∧ (∀ q, NN m q → f p ≤ f q) ∧ ∀ q, NN m q → (∀ j, p j ≤ q j) → f q ≤ f p → q = p
theorem gm_some {m : Nat} {f : (Nat → Int) → Int} {p0 : Nat → Int} (hp0 : NN m p0) (hmin : ∀ q, NN m q → f p0 ≤ f q) {B : Int} (hB : ∀ q, NN m q → f q ≤ f p0 → spTo m 0 q m ≤ B) : ∃ p, GM m f p := by
  obtain ⟨p2, hp2, hm2⟩ := least_of (fun p : Nat → Int => (B - spTo m 0 p m).toNat) (fun p => NN m p ∧ f p ≤ f p0) _ p0 ⟨hp0, Int.le_refl _⟩ (Nat.le_refl _)
  refine ⟨p2, hp2.1, fun q hq => by have := hmin q hq; have := hp2.2; omega, fun q hq hle hf => ?_⟩
  have hq2 : f q ≤ f p0 := by have := hp2.2; omega
  have a := hm2 q ⟨hq, hq2⟩
  have b := sum_same (m := m) hle m
  have c := hB q hq hq2
  have d := hB p2 hp2.1 hp2.2
  have e := b.2 (by omega)
  refine funext (fun j => ?_)
  rcases Nat.lt_or_ge j m with h | h
  · exact (e j h).symm
  · rw [hq.2 j h, hp2.1.2 j h]

/-- Least prices are least without a bidder, too. -/
theorem lm_less {m : Nat} {b g : (Nat → Int) → Int} (hg : SM m g) (hb1 : ∀ p q : Nat → Int, (∀ j, p j ≤ q j) → b q ≤ b p) (hb2 : ∀ p q : Nat → Int, (∀ j, p j ≤ q j + 1) → b q ≤ b p + 1)
    {p : Nat → Int} (h : LM m (fun q => b q + g q) p) : ∀ q, NN m q → g p ≤ g q := by
  obtain ⟨hp, h1, h2⟩ := h
  intro q hq
  refine sm_all hg hp (fun q hq hb => ?_) (fun q hq hb => ?_) hq
  · have := h1 q hq
    have := hb1 p q (fun j => (hb j).1)
    simp only at *
    omega
  · rcases Int.lt_or_le (g q) (g p) with hlt | hle
    · have := hb2 p q (fun j => (hb j).2)
      have e := h2 q hq (fun j => (hb j).1) (by simp only; omega)
      rw [e] at hlt; omega
    · exact hle
theorem lm_lessj {m : Nat} {b g : (Nat → Int) → Int} {j : Nat} (hg : SM m (fun p => g p - p j)) (hb2 : ∀ p q : Nat → Int, (∀ j, p j ≤ q j + 1) → b q ≤ b p + 1)
    {p : Nat → Int} (h : LM m (fun q => b q + g q) p) (hu : ∀ q, NN m q → (∀ j, p j ≤ q j ∧ q j ≤ p j + 1) → g p - p j ≤ g q - q j) : ∀ q, NN m q → g p - p j ≤ g q - q j := by
  obtain ⟨hp, h1, h2⟩ := h
  intro q hq
  refine sm_all hg hp hu (fun q hq hb => ?_) hq
  rcases Int.lt_or_le (g q - q j) (g p - p j) with hlt | hle
  · have := hb2 p q (fun j => (hb j).2)
    have := (hb j).1
    have e := h2 q hq (fun j => (hb j).1) (by simp only; omega)
    rw [e] at hlt; omega
  · exact hle

theorem spTo_take {m : Nat} (hm : m ≤ 4) {u j : Nat} (hu : u < 16) (hj : j < m) (hf : isTk m u j = false) (p : Nat → Int) : ∀ k, spTo m (nxU m u j) p k = spTo m u p k - (if j < k then p j else 0) := by
  obtain ⟨_, h2⟩ := nx_tk hm hu (Nat.le_of_lt hj) hf
  intro k
  induction k with
  | zero => simp [spTo]
  | succ k ih =>
    unfold spTo
    rw [h2 k, ih]
    by_cases hk : k = j
    · subst hk
      simp only [hj, true_and, decide_true, Bool.or_true, if_true, hf, Bool.false_eq_true, if_false, Nat.lt_irrefl, Nat.lt_succ_self]
      omega
    · have : (j < k + 1) ↔ (j < k) := by omega
      simp only [hk, and_false, decide_false, Bool.or_false, this]
      split <;> split <;> omega
/-- Without a thing: no more than with it less its price. -/
theorem lp_take {m : Nat} (hm : m ≤ 4) (rows : List (List Int)) {u j : Nat} (hu : u < 16) (hj : j < m) (hf : isTk m u j = false) (p : Nat → Int) : lp m rows (nxU m u j) p ≤ lp m rows u p - p j := by
  have a := spTo_take hm hu hj hf p m
  rw [if_pos hj] at a
  obtain ⟨_, h2⟩ := nx_tk hm hu (Nat.le_of_lt hj) hf
  have b : boS m rows (nxU m u j) p ≤ boS m rows u p := by
    induction rows with
    | nil => exact Int.le_refl _
    | cons r rs ih =>
      have := bo_sub (m := m) r (u := nxU m u j) (v := u) p (fun k hk => by rw [h2 k, hk]; rfl)
      simp only [boS]; omega
  simp only [lp]
  omega
/-- Where the thing is dear enough it is as much. -/
theorem lp_dear {m : Nat} (hm : m ≤ 4) {rows : List (List Int)} {u j : Nat} (hu : u < 16) (hj : j < m) (hf : isTk m u j = false) (p : Nat → Int) {K : Int} (hK : ∀ r ∈ rows, r.getD j 0 ≤ K) :
    lp m rows u (fun k => if k = j then K else p k) - K ≤ lp m rows (nxU m u j) p := by
  obtain ⟨_, h2⟩ := nx_tk hm hu (Nat.le_of_lt hj) hf
  have a := spTo_take hm hu hj hf (fun k => if k = j then K else p k) m
  rw [if_pos hj] at a
  simp only [if_true] at a
  have c : ∀ k, spTo m (nxU m u j) (fun k => if k = j then K else p k) k = spTo m (nxU m u j) p k := by
    intro k
    induction k with
    | zero => rfl
    | succ k ih =>
      unfold spTo
      rw [ih]
      by_cases hk : k = j
      · subst hk
        have : isTk m (nxU m u k) k = true := by rw [h2 k]; simp [hj]
        rw [if_pos this, if_pos this]
      · rw [if_neg hk]
  have b : boS m rows u (fun k => if k = j then K else p k) ≤ boS m rows (nxU m u j) p := by
    induction rows with
    | nil => exact Int.le_refl _
    | cons r rs ih =>
      have i1 := ih (fun x hx => hK x (by simp [hx]))
      have i2 : bo m r u (fun k => if k = j then K else p k) ≤ bo m r (nxU m u j) p := by
        rcases bo_at m r u (fun k => if k = j then K else p k) with e | ⟨k, hk, hg, e⟩
        · have := bo_nonneg m r (nxU m u j) p; omega
        · by_cases hkj : k = j
          · subst hkj
            rw [if_pos rfl] at e
            have := hK r (by simp); have := bo_nonneg m r (nxU m u k) p; omega
          · rw [if_neg hkj] at e
            have : isTk m (nxU m u j) k = false := by rw [h2 k, hg]; simp [hkj]
            have := bo_ge r p hk this; omega
      simp only [boS]; omega
  have := c m
  simp only [lp]
  omega

/-- Weak: the load is at least what the best pairs are worth. -/
theorem pb_weak {m : Nat} (hm : m ≤ 4) {rows : List (List Int)} (h : Rk m rows) {p : Nat → Int} (hp : NN m p) : ∀ u, u < 16 → (pb rows u).1 ≤ lp m rows u p := by
  induction rows with
  | nil => intro u _; exact lp_nonneg [] u hp
  | cons r rs ih =>
    intro u hu
    obtain ⟨⟨j, hj, hf, e⟩, _⟩ := pb_step h u
    obtain ⟨h1, _⟩ := nx_tk hm hu hj hf
    have a := ih h.tail _ h1
    rw [e]
    simp only
    have hL : lp m (r :: rs) u p = bo m r u p + lp m rs u p := by simp only [lp, boS]; omega
    rw [hL]
    rcases Nat.lt_or_ge j m with hjm | hjm
    · have b := lp_take hm rs hu hjm hf p
      have c := bo_ge r p hjm hf
      omega
    · have : nxU m u j = u := by unfold nxU; rw [if_neg (by omega)]
      rw [this] at a ⊢
      have c := bo_nonneg m r u p
      have d : r.getD j 0 = 0 := by rw [List.getD_eq_getElem?_getD, List.getElem?_eq_none (by rw [h.head.1]; exact hjm)]; rfl
      omega

theorem row_top (rs : List (List Int)) (j : Nat) : ∃ K : Int, 0 ≤ K ∧ ∀ x ∈ rs, x.getD j 0 ≤ K := by
  induction rs with
  | nil => exact ⟨0, Int.le_refl _, fun x hx => absurd hx (by simp)⟩
  | cons y ys ih =>
    obtain ⟨K, h0, hK⟩ := ih
    refine ⟨max K (y.getD j 0), by omega, fun x hx => ?_⟩
    rcases List.mem_cons.1 hx with rfl | hx
    · omega
    · have := hK x hx; omega
/-- Strong: at some prices it is just this. -/
theorem pb_strong {m : Nat} (hm : m ≤ 4) {rows : List (List Int)} (h : Rk m rows) : ∀ u, u < 16 → ∃ p, NN m p ∧ lp m rows u p = (pb rows u).1 := by
  induction rows with
  | nil =>
    intro u _
    refine ⟨fun _ => 0, ⟨fun _ => Int.le_refl _, fun _ _ => rfl⟩, ?_⟩
    have : ∀ k, spTo m u (fun _ => 0) k = 0 := by
      intro k
      induction k with
      | zero => rfl
      | succ k ih => unfold spTo; rw [ih]; simp
    simp [lp, boS, this, pb]
  | cons r rs ih =>
    intro u hu
    have hL : ∀ p, lp m (r :: rs) u p = bo m r u p + lp m rs u p := fun p => by simp only [lp, boS]; omega
    obtain ⟨p, hlm⟩ := lm_some (m := m) (f := fun q => bo m r u q + lp m rs u q) (fun q hq => by have := bo_nonneg m r u q; have := lp_nonneg rs u hq; show 0 ≤ bo m r u q + lp m rs u q; omega)
    have hp := hlm.1
    have hb1 : ∀ p q : Nat → Int, (∀ j, p j ≤ q j) → bo m r u q ≤ bo m r u p := fun p q hle => bo_anti r u (fun j _ => hle j)
    have hb2 : ∀ p q : Nat → Int, (∀ j, p j ≤ q j + 1) → bo m r u q ≤ bo m r u p + 1 := fun p q hle => bo_unit r u (fun j _ => hle j)
    refine ⟨p, hp, ?_⟩
    rw [hL]
    have weak := pb_weak hm h hp u hu
    rw [hL] at weak
    suffices hs : bo m r u p + lp m rs u p ≤ (pb (r :: rs) u).1 by omega
    by_cases hb0 : bo m r u p = 0
    · obtain ⟨q, hq, hqe⟩ := ih h.tail u hu
      have a := lm_less (lp_sm m rs u) hb1 hb2 hlm q hq
      have b := pb_none h u
      omega
    · have hbp : 1 ≤ bo m r u p := by have := bo_nonneg m r u p; omega
      by_cases hg : ∃ j, j < m ∧ isTk m u j = false ∧ bo m r u p = r.getD j 0 - p j ∧ ∀ q, NN m q → (∀ k, p k ≤ q k ∧ q k ≤ p k + 1) → lp m rs u p - p j ≤ lp m rs u q - q j
      · obtain ⟨j, hj, hf, he, hup⟩ := hg
        obtain ⟨h1, _⟩ := nx_tk hm hu (Nat.le_of_lt hj) hf
        obtain ⟨q, hq, hqe⟩ := ih h.tail _ h1
        obtain ⟨K, hK0, hK⟩ := row_top rs j
        have hq' : NN m (fun k => if k = j then K else q k) := by
          refine ⟨fun k => ?_, fun k hk => ?_⟩
          · simp only; split
            · exact hK0
            · exact hq.1 k
          · simp only; rw [if_neg (by omega)]; exact hq.2 k hk
        have a := lm_lessj (lpj_sm m rs u j) hb2 hlm hup _ hq'
        rw [if_pos rfl] at a
        have b := lp_dear hm hu hj hf q hK
        have c := (pb_step h u).2 j (Nat.le_of_lt hj) hf
        omega
      · exfalso
        have hno : ∀ j, j < m → isTk m u j = false → bo m r u p = r.getD j 0 - p j → ∃ q, NN m q ∧ (∀ k, p k ≤ q k ∧ q k ≤ p k + 1) ∧ q j = p j + 1 ∧ lp m rs u q = lp m rs u p := by
          intro j hj hf he
          refine Classical.byContradiction (fun hn => hg ⟨j, hj, hf, he, fun q hq hb => ?_⟩)
          rcases Int.lt_or_le (lp m rs u q - q j) (lp m rs u p - p j) with hlt | hle
          · exfalso
            have e1 := hlm.2.1 q hq
            simp only at e1
            have e2 := hb1 p q (fun k => (hb k).1)
            have e3 := hb j
            exact hn ⟨q, hq, hb, by omega, by omega⟩
          · exact hle
        have hjoin : ∀ k, ∃ q, NN m q ∧ (∀ i, p i ≤ q i ∧ q i ≤ p i + 1) ∧ lp m rs u q = lp m rs u p ∧ ∀ j, j < k → j < m → isTk m u j = false → bo m r u p = r.getD j 0 - p j → q j = p j + 1 := by
          intro k
          induction k with
          | zero => exact ⟨p, hp, fun i => ⟨Int.le_refl _, by omega⟩, rfl, fun j hj => absurd hj (by omega)⟩
          | succ k ihk =>
            obtain ⟨q, hq, hb, hl, hj⟩ := ihk
            by_cases hc : k < m ∧ isTk m u k = false ∧ bo m r u p = r.getD k 0 - p k
            · obtain ⟨x, hx, hbx, hxk, hxl⟩ := hno k hc.1 hc.2.1 hc.2.2
              have s := lp_sm m rs u 0 (by omega) q x hq hx
              have n1 := mn_nn (e := 0) (by omega) hq hx
              have n2 := mx_nn (e := 0) (by omega) hq hx
              have b1 : ∀ i, p i ≤ mnP 0 x q i ∧ mnP 0 x q i ≤ p i + 1 := fun i => by have := hb i; have := hbx i; simp only [mnP]; omega
              have b2 : ∀ i, p i ≤ mxP 0 q x i ∧ mxP 0 q x i ≤ p i + 1 := fun i => by have := hb i; have := hbx i; simp only [mxP]; omega
              have e1 := hlm.2.1 _ n1
              have e2 := hlm.2.1 _ n2
              simp only at e1 e2
              have e3 := hb1 p _ (fun i => (b1 i).1)
              have e4 := hb1 p _ (fun i => (b2 i).1)
              refine ⟨_, n2, b2, by omega, fun j hjk hjm hjf hje => ?_⟩
              rcases Nat.lt_or_ge j k with hlt | hge
              · have := hj j hlt hjm hjf hje; have := hbx j; simp only [mxP]; omega
              · obtain rfl : j = k := by omega
                have := hb j; simp only [mxP]; omega
            · refine ⟨q, hq, hb, hl, fun j hjk hjm hjf hje => ?_⟩
              rcases Nat.lt_or_ge j k with hlt | hge
              · exact hj j hlt hjm hjf hje
              · obtain rfl : j = k := by omega
                exact absurd ⟨hjm, hjf, hje⟩ hc
        obtain ⟨q, hq, hb, hl, hj⟩ := hjoin m
        have e1 := hlm.2.1 q hq
        simp only at e1
        have e2 : bo m r u q < bo m r u p := by
          rcases bo_at m r u q with e | ⟨j, hjm, hjf, e⟩
          · omega
          · have a := bo_ge r p hjm hjf
            have b := hb j
            rcases Int.lt_or_le (r.getD j 0 - p j) (bo m r u p) with hlt | hle
            · omega
            · have := hj j hjm hjm hjf (by omega)
              omega
        omega
end Go.Proofs.Ytpildecpabeanaa
