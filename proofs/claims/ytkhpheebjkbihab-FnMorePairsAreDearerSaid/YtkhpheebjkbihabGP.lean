/-
  Chapter 8, plain: prices of pairs. What is left to all at prices, and the prices, is at least what the best pairs are worth, and as much at some.
-/
import Derived.Test.YtkhpheebjkbihabGO
import Derived.Test.YtkhpheebjkbihabOk
import Derived.Test.YtkhpheebjkbihabGU
import Derived.Test.YtkhpheebjkbihabRw
import Derived.Deep.RegionLaw
namespace Go.Proofs.Ytkhpheebjkbihab

/-- A property of numbers that some have some has least. -/
theorem least_of {α : Type} (f : α → Nat) (P : α → Prop) : ∀ (n : Nat) (a : α), P a → f a ≤ n → ∃ b, P b ∧ ∀ c, P c → f b ≤ f c := by
  intro n
  induction n with
  | zero => intro a ha h0; exact ⟨a, ha, fun c _ => by omega⟩
  | succ n ih =>
    intro a ha hn
    by_cases h : ∃ c, P c ∧ f c < f a
    · obtain ⟨c, hc, hlt⟩ := h
      exact ih c hc (by omega)
    · exact ⟨a, ha, fun c hc => Nat.le_of_not_lt (fun hlt => h ⟨c, hc, hlt⟩)⟩

/-- Prices of m things: 0 behind them. -/
def NN (m : Nat) (p : Nat → Int) : Prop := (∀ j, 0 ≤ p j) ∧ ∀ j, m ≤ j → p j = 0
def mnP (e : Int) (q p : Nat → Int) : Nat → Int := fun j => min (q j) (p j + e)
def mxP (e : Int) (p q : Nat → Int) : Nat → Int := fun j => max (p j) (q j - e)
theorem mn_nn {m : Nat} {e : Int} {p q : Nat → Int} (he : 0 ≤ e) (hp : NN m p) (hq : NN m q) : NN m (mnP e q p) := by
  refine ⟨fun j => ?_, fun j hj => ?_⟩
  · have := hp.1 j; have := hq.1 j; simp only [mnP]; omega
  · have := hp.2 j hj; have := hq.2 j hj; simp only [mnP]; omega
theorem mx_nn {m : Nat} {e : Int} {p q : Nat → Int} (he : 0 ≤ e) (hp : NN m p) (hq : NN m q) : NN m (mxP e p q) := by
  refine ⟨fun j => ?_, fun j hj => ?_⟩
  · have := hp.1 j; simp only [mxP]; omega
  · have := hp.2 j hj; have := hq.2 j hj; simp only [mxP]; omega
theorem mn_mx (e : Int) (p q : Nat → Int) (j : Nat) : mnP e q p j + mxP e p q j = p j + q j := by simp only [mnP, mxP]; omega
theorem nn_top {m : Nat} {p : Nat → Int} (hp : NN m p) : ∃ K : Nat, ∀ j, p j ≤ K := by
  have : ∀ k, ∃ K : Nat, ∀ j, j < k → p j ≤ K := by
    intro k
    induction k with
    | zero => exact ⟨0, fun j hj => absurd hj (by omega)⟩
    | succ k ih =>
      obtain ⟨K, hK⟩ := ih
      refine ⟨K + (p k).toNat, fun j hj => ?_⟩
      rcases Nat.lt_or_ge j k with h | h
      · have := hK j h; omega
      · obtain rfl : j = k := by omega
        omega
  obtain ⟨K, hK⟩ := this m
  refine ⟨K, fun j => ?_⟩
  rcases Nat.lt_or_ge j m with h | h
  · exact hK j h
  · have := hp.2 j h; omega

/-- No humps: less and more of two prices are together no more. -/
def SM (m : Nat) (h : (Nat → Int) → Int) : Prop := ∀ e : Int, 0 ≤ e → ∀ p q, NN m p → NN m q → h (mnP e q p) + h (mxP e p q) ≤ h p + h q

theorem sm_up {m : Nat} {h : (Nat → Int) → Int} (hs : SM m h) {p : Nat → Int} (hp : NN m p) (hu : ∀ q, NN m q → (∀ j, p j ≤ q j ∧ q j ≤ p j + 1) → h p ≤ h q) :
    ∀ (K : Nat) (q : Nat → Int), NN m q → (∀ j, p j ≤ q j ∧ q j ≤ p j + K) → h p ≤ h q := by
  intro K
  induction K with
  | zero =>
    intro q _ hb
    have : q = p := funext (fun j => by have := hb j; omega)
    rw [this]; exact Int.le_refl _
  | succ K ih =>
    intro q hq hb
    have h1 := hu _ (mn_nn (e := 1) (by omega) hp hq) (fun j => by have := hb j; simp only [mnP]; omega)
    have h2 := ih _ (mx_nn (e := 1) (by omega) hp hq) (fun j => by have := hb j; simp only [mxP]; omega)
    have h3 := hs 1 (by omega) p q hp hq
    omega
theorem sm_down {m : Nat} {h : (Nat → Int) → Int} (hs : SM m h) {p : Nat → Int} (hp : NN m p) (hu : ∀ q, NN m q → (∀ j, q j ≤ p j ∧ p j ≤ q j + 1) → h p ≤ h q) :
    ∀ (K : Nat) (q : Nat → Int), NN m q → (∀ j, q j ≤ p j ∧ p j ≤ q j + K) → h p ≤ h q := by
  intro K
  induction K with
  | zero =>
    intro q _ hb
    have : q = p := funext (fun j => by have := hb j; omega)
    rw [this]; exact Int.le_refl _
  | succ K ih =>
    intro q hq hb
    have h1 := ih _ (mn_nn (e := 1) (by omega) hq hp) (fun j => by have := hb j; simp only [mnP]; omega)
    have h2 := hu _ (mx_nn (e := 1) (by omega) hq hp) (fun j => by have := hb j; simp only [mxP]; omega)
    have h3 := hs 1 (by omega) q p hq hp
    omega
theorem sm_ge {m : Nat} {h : (Nat → Int) → Int} (hs : SM m h) {p : Nat → Int} (hp : NN m p) (hu : ∀ q, NN m q → (∀ j, p j ≤ q j ∧ q j ≤ p j + 1) → h p ≤ h q) {q : Nat → Int} (hq : NN m q) (hb : ∀ j, p j ≤ q j) : h p ≤ h q := by
  obtain ⟨K, hK⟩ := nn_top hq
  exact sm_up hs hp hu K q hq (fun j => ⟨hb j, by have := hK j; have := hp.1 j; omega⟩)
theorem sm_le {m : Nat} {h : (Nat → Int) → Int} (hs : SM m h) {p : Nat → Int} (hp : NN m p) (hu : ∀ q, NN m q → (∀ j, q j ≤ p j ∧ p j ≤ q j + 1) → h p ≤ h q) {q : Nat → Int} (hq : NN m q) (hb : ∀ j, q j ≤ p j) : h p ≤ h q := by
  obtain ⟨K, hK⟩ := nn_top hp
  exact sm_down hs hp hu K q hq (fun j => ⟨hb j, by have := hK j; have := hq.1 j; omega⟩)
/-- What can't be less by one step can't be less. -/
theorem sm_all {m : Nat} {h : (Nat → Int) → Int} (hs : SM m h) {p : Nat → Int} (hp : NN m p) (hu : ∀ q, NN m q → (∀ j, p j ≤ q j ∧ q j ≤ p j + 1) → h p ≤ h q) (hd : ∀ q, NN m q → (∀ j, q j ≤ p j ∧ p j ≤ q j + 1) → h p ≤ h q) {q : Nat → Int} (hq : NN m q) : h p ≤ h q := by
  have h1 := sm_le hs hp hd (mn_nn (e := 0) (by omega) hp hq) (fun j => by simp only [mnP]; omega)
  have h2 := sm_ge hs hp hu (mx_nn (e := 0) (by omega) hp hq) (fun j => by simp only [mxP]; omega)
  have h3 := hs 0 (by omega) p q hp hq
  omega

/-- What is left to a bidder of the best of the first k things. -/
def boTo (m : Nat) (r : List Int) (u : Nat) (p : Nat → Int) : Nat → Int
  | 0 => 0
  | k + 1 => if isTk m u k = true then boTo m r u p k else max (boTo m r u p k) (r.getD k 0 - p k)
def bo (m : Nat) (r : List Int) (u : Nat) (p : Nat → Int) : Int := boTo m r u p m
theorem boTo_is (m : Nat) (r : List Int) (u : Nat) (p : Nat → Int) (k : Nat) :
    0 ≤ boTo m r u p k ∧ (∀ j, j < k → isTk m u j = false → r.getD j 0 - p j ≤ boTo m r u p k) ∧ (boTo m r u p k = 0 ∨ ∃ j, j < k ∧ isTk m u j = false ∧ boTo m r u p k = r.getD j 0 - p j) := by
  induction k with
  | zero => exact ⟨Int.le_refl _, fun j hj => absurd hj (by omega), .inl rfl⟩
  | succ k ih =>
    obtain ⟨a, b, c⟩ := ih
    unfold boTo
    cases ht : isTk m u k with
    | true =>
      rw [if_pos rfl]
      refine ⟨a, fun j hj hf => ?_, ?_⟩
      · rcases Nat.lt_or_ge j k with h | h
        · exact b j h hf
        · obtain rfl : j = k := by omega
          rw [ht] at hf; exact absurd hf (by simp)
      · rcases c with c | ⟨j, hj, hf, e⟩
        · exact .inl c
        · exact .inr ⟨j, by omega, hf, e⟩
    | false =>
      rw [if_neg (by simp)]
      refine ⟨by omega, fun j hj hf => ?_, ?_⟩
      · rcases Nat.lt_or_ge j k with h | h
        · have := b j h hf; omega
        · obtain rfl : j = k := by omega
          omega
      · rcases Int.lt_or_le (boTo m r u p k) (r.getD k 0 - p k) with h | h
        · exact .inr ⟨k, by omega, ht, by omega⟩
        · rcases c with c | ⟨j, hj, hf, e⟩
          · exact .inl (by omega)
          · exact .inr ⟨j, by omega, hf, by omega⟩
theorem bo_nonneg (m : Nat) (r : List Int) (u : Nat) (p : Nat → Int) : 0 ≤ bo m r u p := (boTo_is m r u p m).1
theorem bo_ge {m : Nat} (r : List Int) {u : Nat} (p : Nat → Int) {j : Nat} (hj : j < m) (hf : isTk m u j = false) : r.getD j 0 - p j ≤ bo m r u p := (boTo_is m r u p m).2.1 j hj hf
theorem bo_at (m : Nat) (r : List Int) (u : Nat) (p : Nat → Int) : bo m r u p = 0 ∨ ∃ j, j < m ∧ isTk m u j = false ∧ bo m r u p = r.getD j 0 - p j := (boTo_is m r u p m).2.2
theorem bo_anti {m : Nat} (r : List Int) (u : Nat) {p q : Nat → Int} (h : ∀ j, j < m → p j ≤ q j) : bo m r u q ≤ bo m r u p := by
  rcases bo_at m r u q with e | ⟨j, hj, hf, e⟩
  · have := bo_nonneg m r u p; omega
  · have := bo_ge r p hj hf; have := h j hj; omega
theorem bo_unit {m : Nat} (r : List Int) (u : Nat) {p q : Nat → Int} (h : ∀ j, j < m → p j ≤ q j + 1) : bo m r u q ≤ bo m r u p + 1 := by
  rcases bo_at m r u q with e | ⟨j, hj, hf, e⟩
  · have := bo_nonneg m r u p; omega
  · have := bo_ge r p hj hf; have := h j hj; omega
theorem bo_sub {m : Nat} (r : List Int) {u v : Nat} (p : Nat → Int) (h : ∀ k, isTk m v k = true → isTk m u k = true) : bo m r u p ≤ bo m r v p := by
  rcases bo_at m r u p with e | ⟨j, hj, hf, e⟩
  · have := bo_nonneg m r v p; omega
  · have : isTk m v j = false := by
      cases hv : isTk m v j with
      | false => rfl
      | true => rw [h j hv] at hf; exact absurd hf (by simp)
    have := bo_ge r p hj this; omega
theorem bo_sm (m : Nat) (r : List Int) (u : Nat) : SM m (bo m r u) := by
  intro e he p q hp hq
  have p0 := bo_nonneg m r u p
  have q0 := bo_nonneg m r u q
  rcases bo_at m r u (mnP e q p) with e1 | ⟨j, hj, hf, e1⟩
  · have : bo m r u (mxP e p q) ≤ bo m r u p := bo_anti r u (fun j _ => by simp only [mxP]; omega)
    omega
  · rcases bo_at m r u (mxP e p q) with e2 | ⟨k, hk, hg, e2⟩
    · have a := bo_ge r p hj hf
      have b := bo_ge r q hj hf
      simp only [mnP] at e1
      omega
    · have a := bo_ge r p hj hf
      have b := bo_ge r q hj hf
      have c := bo_ge r p hk hg
      have d := bo_ge r q hk hg
      simp only [mnP] at e1
      simp only [mxP] at e2
      omega

/-- What is left to all. -/
def boS (m : Nat) : List (List Int) → Nat → (Nat → Int) → Int
  | [], _, _ => 0
  | r :: rs, u, p => bo m r u p + boS m rs u p
/-- The prices of the first k things that are not taken. -/
def spTo (m u : Nat) (p : Nat → Int) : Nat → Int
  | 0 => 0
  | k + 1 => if isTk m u k = true then spTo m u p k else spTo m u p k + p k
def lp (m : Nat) (rows : List (List Int)) (u : Nat) (p : Nat → Int) : Int := boS m rows u p + spTo m u p m
theorem boS_nonneg (m : Nat) (rows : List (List Int)) (u : Nat) (p : Nat → Int) : 0 ≤ boS m rows u p := by
  induction rows with
  | nil => exact Int.le_refl _
  | cons r rs ih => have := bo_nonneg m r u p; simp only [boS]; omega
theorem spTo_nonneg {m : Nat} (u : Nat) {p : Nat → Int} (hp : ∀ j, 0 ≤ p j) (k : Nat) : 0 ≤ spTo m u p k := by
  induction k with
  | zero => exact Int.le_refl _
  | succ k ih => have := hp k; unfold spTo; split <;> omega
theorem boS_sm (m : Nat) (rows : List (List Int)) (u : Nat) : SM m (boS m rows u) := by
  intro e he p q hp hq
  induction rows with
  | nil => simp [boS]
  | cons r rs ih => have := bo_sm m r u e he p q hp hq; simp only [boS]; omega
theorem spTo_mod (m u : Nat) (e : Int) (p q : Nat → Int) (k : Nat) : spTo m u (mnP e q p) k + spTo m u (mxP e p q) k = spTo m u p k + spTo m u q k := by
  induction k with
  | zero => rfl
  | succ k ih => have := mn_mx e p q k; unfold spTo; split <;> omega
theorem lp_sm (m : Nat) (rows : List (List Int)) (u : Nat) : SM m (lp m rows u) := by
  intro e he p q hp hq
  have a := boS_sm m rows u e he p q hp hq
  have b := spTo_mod m u e p q m
  simp only [lp]
  omega
/-- The same less the price of one thing. -/
theorem lpj_sm (m : Nat) (rows : List (List Int)) (u j : Nat) : SM m (fun p => lp m rows u p - p j) := by
  intro e he p q hp hq
  have a := lp_sm m rows u e he p q hp hq
  have b := mn_mx e p q j
  simp only
  omega
theorem lp_nonneg {m : Nat} (rows : List (List Int)) (u : Nat) {p : Nat → Int} (hp : NN m p) : 0 ≤ lp m rows u p := by
  have a := boS_nonneg m rows u p
  have b := spTo_nonneg (m := m) u hp.1 m
  simp only [lp]; omega

/-- Least among the prices at which the load is least. -/
def LM (m : Nat) (f : (Nat → Int) → Int) (p : Nat → Int) : Prop := NN m p ∧ (∀ q, NN m q → f p ≤ f q) ∧ ∀ q, NN m q → (∀ j, q j ≤ p j) → f q ≤ f p → q = p
theorem sum_same {m : Nat} {p q : Nat → Int} (hle : ∀ j, q j ≤ p j) : ∀ k, spTo m 0 q k ≤ spTo m 0 p k ∧ (spTo m 0 p k ≤ spTo m 0 q k → ∀ j, j < k → q j = p j) := by
  have h0 : ∀ k, isTk m 0 k = false := fun k => by simp [isTk]
  intro k
  induction k with
  | zero => exact ⟨Int.le_refl _, fun _ j hj => absurd hj (by omega)⟩
  | succ k ih =>
    obtain ⟨a, b⟩ := ih
    have := hle k
    unfold spTo
    simp only [h0, Bool.false_eq_true, if_false]
    refine ⟨by omega, fun h j hj => ?_⟩
    rcases Nat.lt_or_ge j k with h' | h'
    · exact b (by omega) j h'
    · obtain rfl : j = k := by omega
      omega
theorem lm_some {m : Nat} {f : (Nat → Int) → Int} (h0 : ∀ p, NN m p → 0 ≤ f p) : ∃ p, LM m f p := by
  have z : NN m (fun _ => 0) := ⟨fun _ => Int.le_refl _, fun _ _ => rfl⟩
  obtain ⟨p1, hp1, hm1⟩ := least_of (fun p : Nat → Int => (f p).toNat) (NN m) _ _ z (Nat.le_refl _)
  have hmin : ∀ q, NN m q → f p1 ≤ f q := fun q hq => by have a := hm1 q hq; have := h0 _ hp1; have := h0 _ hq; omega
  obtain ⟨p2, hp2, hm2⟩ := least_of (fun p : Nat → Int => (spTo m 0 p m).toNat) (fun p => NN m p ∧ f p ≤ f p1) _ p1 ⟨hp1, Int.le_refl _⟩ (Nat.le_refl _)
  refine ⟨p2, hp2.1, fun q hq => by have := hmin q hq; have := hp2.2; omega, fun q hq hle hf => ?_⟩
  have a := hm2 q ⟨hq, by have := hp2.2; omega⟩
  have b := sum_same (m := m) hle m
  have c := spTo_nonneg (m := m) 0 hq.1 m
  have d := spTo_nonneg (m := m) 0 hp2.1.1 m
  have e := b.2 (by omega)
  refine funext (fun j => ?_)
  rcases Nat.lt_or_ge j m with h | h
  · exact e j h
  · rw [hq.2 j h, hp2.1.2 j h]
/-- The greatest of them. -/
def GM (m : Nat) (f : (Nat → Int) → Int) (p : Nat → Int) : Prop := NN m p ∧ (∀ q, NN m q → f p ≤ f q) ∧ ∀ q, NN m q → (∀ j, p j ≤ q j) → f q ≤ f p → q = p
theorem gm_some {m : Nat} {f : (Nat → Int) → Int} {p0 : Nat → Int} (hp0 : NN m p0) (hmin : ∀ q, NN m q → f p0 ≤ f q) {B : Int} (hB : ∀ q, NN m q → f q ≤ f p0 → spTo m 0 q m ≤ B) : ∃ p, GM m f p := by
  obtain ⟨p2, hp2, hm2⟩ := least_of (fun p : Nat → Int => (B - spTo m 0 p m).toNat) (fun p => NN m p ∧ f p ≤ f p0) _ p0 ⟨hp0, Int.le_refl _⟩ (Nat.le_refl _)
  refine ⟨p2, hp2.1, fun q hq => by have := hmin q hq; have := hp2.2; omega, fun q hq hle hf => ?_⟩
  have hq2 : f q ≤ f p0 := by have := hp2.2; omega
  have a := hm2 q ⟨hq, hq2⟩
  have b := sum_same (m := m) hle m
  have c := hB q hq hq2
  have d := hB p2 hp2.1 hp2.2
  have e := b.2 (by omega)
  refine funext (fun j => ?_)
  rcases Nat.lt_or_ge j m with h | h
  · exact (e j h).symm
  · rw [hq.2 j h, hp2.1.2 j h]

/-- Least prices are least without a bidder, too. -/
theorem lm_less {m : Nat} {b g : (Nat → Int) → Int} (hg : SM m g) (hb1 : ∀ p q : Nat → Int, (∀ j, p j ≤ q j) → b q ≤ b p) (hb2 : ∀ p q : Nat → Int, (∀ j, p j ≤ q j + 1) → b q ≤ b p + 1)
    {p : Nat → Int} (h : LM m (fun q => b q + g q) p) : ∀ q, NN m q → g p ≤ g q := by
  obtain ⟨hp, h1, h2⟩ := h
  intro q hq
  refine sm_all hg hp (fun q hq hb => ?_) (fun q hq hb => ?_) hq
  · have := h1 q hq
    have := hb1 p q (fun j => (hb j).1)
    simp only at *
    omega
  · rcases Int.lt_or_le (g q) (g p) with hlt | hle
    · have := hb2 p q (fun j => (hb j).2)
      have e := h2 q hq (fun j => (hb j).1) (by simp only; omega)
      rw [e] at hlt; omega
    · exact hle
theorem lm_lessj {m : Nat} {b g : (Nat → Int) → Int} {j : Nat} (hg : SM m (fun p => g p - p j)) (hb2 : ∀ p q : Nat → Int, (∀ j, p j ≤ q j + 1) → b q ≤ b p + 1)
    {p : Nat → Int} (h : LM m (fun q => b q + g q) p) (hu : ∀ q, NN m q → (∀ j, p j ≤ q j ∧ q j ≤ p j + 1) → g p - p j ≤ g q - q j) : ∀ q, NN m q → g p - p j ≤ g q - q j := by
  obtain ⟨hp, h1, h2⟩ := h
  intro q hq
  refine sm_all hg hp hu (fun q hq hb => ?_) hq
  rcases Int.lt_or_le (g q - q j) (g p - p j) with hlt | hle
  · have := hb2 p q (fun j => (hb j).2)
    have := (hb j).1
    have e := h2 q hq (fun j => (hb j).1) (by simp only; omega)
    rw [e] at hlt; omega
  · exact hle

theorem spTo_take {m : Nat} (hm : m ≤ 4) {u j : Nat} (hu : u < 16) (hj : j < m) (hf : isTk m u j = false) (p : Nat → Int) : ∀ k, spTo m (nxU m u j) p k = spTo m u p k - (if j < k then p j else 0) := by
  obtain ⟨_, h2⟩ := nx_tk hm hu (Nat.le_of_lt hj) hf
  intro k
  induction k with
  | zero => simp [spTo]
  | succ k ih =>
    unfold spTo
    rw [h2 k, ih]
    by_cases hk : k = j
    · subst hk
      simp only [hj, true_and, decide_true, Bool.or_true, if_true, hf, Bool.false_eq_true, if_false, Nat.lt_irrefl, Nat.lt_succ_self]
      omega
    · have : (j < k + 1) ↔ (j < k) := by omega
      simp only [hk, and_false, decide_false, Bool.or_false, this]
      split <;> split <;> omega
/-- Without a thing: no more than with it less its price. -/
theorem lp_take {m : Nat} (hm : m ≤ 4) (rows : List (List Int)) {u j : Nat} (hu : u < 16) (hj : j < m) (hf : isTk m u j = false) (p : Nat → Int) : lp m rows (nxU m u j) p ≤ lp m rows u p - p j := by
  have a := spTo_take hm hu hj hf p m
  rw [if_pos hj] at a
  obtain ⟨_, h2⟩ := nx_tk hm hu (Nat.le_of_lt hj) hf
  have b : boS m rows (nxU m u j) p ≤ boS m rows u p := by
    induction rows with
    | nil => exact Int.le_refl _
    | cons r rs ih =>
      have := bo_sub (m := m) r (u := nxU m u j) (v := u) p (fun k hk => by rw [h2 k, hk]; rfl)
      simp only [boS]; omega
  simp only [lp]
  omega
/-- Where the thing is dear enough it is as much. -/
theorem lp_dear {m : Nat} (hm : m ≤ 4) {rows : List (List Int)} {u j : Nat} (hu : u < 16) (hj : j < m) (hf : isTk m u j = false) (p : Nat → Int) {K : Int} (hK : ∀ r ∈ rows, r.getD j 0 ≤ K) :
    lp m rows u (fun k => if k = j then K else p k) - K ≤ lp m rows (nxU m u j) p := by
  obtain ⟨_, h2⟩ := nx_tk hm hu (Nat.le_of_lt hj) hf
  have a := spTo_take hm hu hj hf (fun k => if k = j then K else p k) m
  rw [if_pos hj] at a
  simp only [if_true] at a
  have c : ∀ k, spTo m (nxU m u j) (fun k => if k = j then K else p k) k = spTo m (nxU m u j) p k := by
    intro k
    induction k with
    | zero => rfl
    | succ k ih =>
      unfold spTo
      rw [ih]
      by_cases hk : k = j
      · subst hk
        have : isTk m (nxU m u k) k = true := by rw [h2 k]; simp [hj]
        rw [if_pos this, if_pos this]
      · rw [if_neg hk]
  have b : boS m rows u (fun k => if k = j then K else p k) ≤ boS m rows (nxU m u j) p := by
    induction rows with
    | nil => exact Int.le_refl _
    | cons r rs ih =>
      have i1 := ih (fun x hx => hK x (by simp [hx]))
      have i2 : bo m r u (fun k => if k = j then K else p k) ≤ bo m r (nxU m u j) p := by
        rcases bo_at m r u (fun k => if k = j then K else p k) with e | ⟨k, hk, hg, e⟩
        · have := bo_nonneg m r (nxU m u j) p; omega
        · by_cases hkj : k = j
          · subst hkj
            rw [if_pos rfl] at e
            have := hK r (by simp); have := bo_nonneg m r (nxU m u k) p; omega
          · rw [if_neg hkj] at e
            have : isTk m (nxU m u j) k = false := by rw [h2 k, hg]; simp [hkj]
            have := bo_ge r p hk this; omega
      simp only [boS]; omega
  have := c m
  simp only [lp]
  omega

/-- Weak: the load is at least what the best pairs are worth. -/
theorem pb_weak {m : Nat} (hm : m ≤ 4) {rows : List (List Int)} (h : Rk m rows) {p : Nat → Int} (hp : NN m p) : ∀ u, u < 16 → (pb rows u).1 ≤ lp m rows u p := by
  induction rows with
  | nil => intro u _; exact lp_nonneg [] u hp
  | cons r rs ih =>
    intro u hu
    obtain ⟨⟨j, hj, hf, e⟩, _⟩ := pb_step h u
    obtain ⟨h1, _⟩ := nx_tk hm hu hj hf
    have a := ih h.tail _ h1
    rw [e]
    simp only
    have hL : lp m (r :: rs) u p = bo m r u p + lp m rs u p := by simp only [lp, boS]; omega
    rw [hL]
    rcases Nat.lt_or_ge j m with hjm | hjm
    · have b := lp_take hm rs hu hjm hf p
      have c := bo_ge r p hjm hf
      omega
    · have : nxU m u j = u := by unfold nxU; rw [if_neg (by omega)]
      rw [this] at a ⊢
      have c := bo_nonneg m r u p
      have d : r.getD j 0 = 0 := by rw [List.getD_eq_getElem?_getD, List.getElem?_eq_none (by rw [h.head.1]; exact hjm)]; rfl
      omega

theorem row_top (rs : List (List Int)) (j : Nat) : ∃ K : Int, 0 ≤ K ∧ ∀ x ∈ rs, x.getD j 0 ≤ K := by
  induction rs with
  | nil => exact ⟨0, Int.le_refl _, fun x hx => absurd hx (by simp)⟩
  | cons y ys ih =>
    obtain ⟨K, h0, hK⟩ := ih
    refine ⟨max K (y.getD j 0), by omega, fun x hx => ?_⟩
    rcases List.mem_cons.1 hx with rfl | hx
    · omega
    · have := hK x hx; omega
/-- Strong: at some prices it is just this. -/
theorem pb_strong {m : Nat} (hm : m ≤ 4) {rows : List (List Int)} (h : Rk m rows) : ∀ u, u < 16 → ∃ p, NN m p ∧ lp m rows u p = (pb rows u).1 := by
  induction rows with
  | nil =>
    intro u _
    refine ⟨fun _ => 0, ⟨fun _ => Int.le_refl _, fun _ _ => rfl⟩, ?_⟩
    have : ∀ k, spTo m u (fun _ => 0) k = 0 := by
      intro k
      induction k with
      | zero => rfl
      | succ k ih => unfold spTo; rw [ih]; simp
    simp [lp, boS, this, pb]
  | cons r rs ih =>
    intro u hu
    have hL : ∀ p, lp m (r :: rs) u p = bo m r u p + lp m rs u p := fun p => by simp only [lp, boS]; omega
    obtain ⟨p, hlm⟩ := lm_some (m := m) (f := fun q => bo m r u q + lp m rs u q) (fun q hq => by have := bo_nonneg m r u q; have := lp_nonneg rs u hq; show 0 ≤ bo m r u q + lp m rs u q; omega)
    have hp := hlm.1
    have hb1 : ∀ p q : Nat → Int, (∀ j, p j ≤ q j) → bo m r u q ≤ bo m r u p := fun p q hle => bo_anti r u (fun j _ => hle j)
    have hb2 : ∀ p q : Nat → Int, (∀ j, p j ≤ q j + 1) → bo m r u q ≤ bo m r u p + 1 := fun p q hle => bo_unit r u (fun j _ => hle j)
    refine ⟨p, hp, ?_⟩
    rw [hL]
    have weak := pb_weak hm h hp u hu
    rw [hL] at weak
    suffices hs : bo m r u p + lp m rs u p ≤ (pb (r :: rs) u).1 by omega
    by_cases hb0 : bo m r u p = 0
    · obtain ⟨q, hq, hqe⟩ := ih h.tail u hu
      have a := lm_less (lp_sm m rs u) hb1 hb2 hlm q hq
      have b := pb_none h u
      omega
    · have hbp : 1 ≤ bo m r u p := by have := bo_nonneg m r u p; omega
      by_cases hg : ∃ j, j < m ∧ isTk m u j = false ∧ bo m r u p = r.getD j 0 - p j ∧ ∀ q, NN m q → (∀ k, p k ≤ q k ∧ q k ≤ p k + 1) → lp m rs u p - p j ≤ lp m rs u q - q j
      · obtain ⟨j, hj, hf, he, hup⟩ := hg
        obtain ⟨h1, _⟩ := nx_tk hm hu (Nat.le_of_lt hj) hf
        obtain ⟨q, hq, hqe⟩ := ih h.tail _ h1
        obtain ⟨K, hK0, hK⟩ := row_top rs j
        have hq' : NN m (fun k => if k = j then K else q k) := by
          refine ⟨fun k => ?_, fun k hk => ?_⟩
          · simp only; split
            · exact hK0
            · exact hq.1 k
          · simp only; rw [if_neg (by omega)]; exact hq.2 k hk
        have a := lm_lessj (lpj_sm m rs u j) hb2 hlm hup _ hq'
        rw [if_pos rfl] at a
        have b := lp_dear hm hu hj hf q hK
        have c := (pb_step h u).2 j (Nat.le_of_lt hj) hf
        omega
      · exfalso
        have hno : ∀ j, j < m → isTk m u j = false → bo m r u p = r.getD j 0 - p j → ∃ q, NN m q ∧ (∀ k, p k ≤ q k ∧ q k ≤ p k + 1) ∧ q j = p j + 1 ∧ lp m rs u q = lp m rs u p := by
          intro j hj hf he
          refine Classical.byContradiction (fun hn => hg ⟨j, hj, hf, he, fun q hq hb => ?_⟩)
          rcases Int.lt_or_le (lp m rs u q - q j) (lp m rs u p - p j) with hlt | hle
          · exfalso
            have e1 := hlm.2.1 q hq
            simp only at e1
            have e2 := hb1 p q (fun k => (hb k).1)
            have e3 := hb j
            exact hn ⟨q, hq, hb, by omega, by omega⟩
          · exact hle
        have hjoin : ∀ k, ∃ q, NN m q ∧ (∀ i, p i ≤ q i ∧ q i ≤ p i + 1) ∧ lp m rs u q = lp m rs u p ∧ ∀ j, j < k → j < m → isTk m u j = false → bo m r u p = r.getD j 0 - p j → q j = p j + 1 := by
          intro k
          induction k with
          | zero => exact ⟨p, hp, fun i => ⟨Int.le_refl _, by omega⟩, rfl, fun j hj => absurd hj (by omega)⟩
          | succ k ihk =>
            obtain ⟨q, hq, hb, hl, hj⟩ := ihk
            by_cases hc : k < m ∧ isTk m u k = false ∧ bo m r u p = r.getD k 0 - p k
            · obtain ⟨x, hx, hbx, hxk, hxl⟩ := hno k hc.1 hc.2.1 hc.2.2
              have s := lp_sm m rs u 0 (by omega) q x hq hx
              have n1 := mn_nn (e := 0) (by omega) hq hx
              have n2 := mx_nn (e := 0) (by omega) hq hx
              have b1 : ∀ i, p i ≤ mnP 0 x q i ∧ mnP 0 x q i ≤ p i + 1 := fun i => by have := hb i; have := hbx i; simp only [mnP]; omega
              have b2 : ∀ i, p i ≤ mxP 0 q x i ∧ mxP 0 q x i ≤ p i + 1 := fun i => by have := hb i; have := hbx i; simp only [mxP]; omega
              have e1 := hlm.2.1 _ n1
              have e2 := hlm.2.1 _ n2
              simp only at e1 e2
              have e3 := hb1 p _ (fun i => (b1 i).1)
              have e4 := hb1 p _ (fun i => (b2 i).1)
              refine ⟨_, n2, b2, by omega, fun j hjk hjm hjf hje => ?_⟩
              rcases Nat.lt_or_ge j k with hlt | hge
              · have := hj j hlt hjm hjf hje; have := hbx j; simp only [mxP]; omega
              · obtain rfl : j = k := by omega
                have := hb j; simp only [mxP]; omega
            · refine ⟨q, hq, hb, hl, fun j hjk hjm hjf hje => ?_⟩
              rcases Nat.lt_or_ge j k with hlt | hge
              · exact hj j hlt hjm hjf hje
              · obtain rfl : j = k := by omega
                exact absurd ⟨hjm, hjf, hje⟩ hc
        obtain ⟨q, hq, hb, hl, hj⟩ := hjoin m
        have e1 := hlm.2.1 q hq
        simp only at e1
        have e2 : bo m r u q < bo m r u p := by
          rcases bo_at m r u q with e | ⟨j, hjm, hjf, e⟩
          · omega
          · have a := bo_ge r p hjm hjf
            have b := hb j
            rcases Int.lt_or_le (r.getD j 0 - p j) (bo m r u p) with hlt | hle
            · omega
            · have := hj j hjm hjm hjf (by omega)
              omega
        omega
end Go.Proofs.Ytkhpheebjkbihab

/-
  Chapter 8, plain: prices that climb from noughts end at the least prices at which the load is least.
-/
namespace Go.Proofs.Ytkhpheebjkbihab

/-- The price of a thing. -/
def P1 (p : List Int) : Nat → Int := fun j => p.getD j 0
/-- Bit j of a set. -/
def bt (S j : Nat) : Int := ((S / 2 ^ j % 2 : Nat) : Int)
def bts (m S : Nat) : Nat := match m with | 0 => 0 | k + 1 => bts k S + S / 2 ^ k % 2
/-- A bidder wants none but of a set. -/
def inS (m : Nat) (r : List Int) (p : Nat → Int) (S : Nat) : Bool := decide (0 < bo m r 0 p ∧ ∀ j, j < m → r.getD j 0 - p j = bo m r 0 p → S / 2 ^ j % 2 = 1)
def cntS (m : Nat) : List (List Int) → (Nat → Int) → Nat → Nat
  | [], _, _ => 0
  | r :: rs, p, S => (if inS m r p S = true then 1 else 0) + cntS m rs p S
/-- Prices that are one more for a set. -/
def upP (m : Nat) (p : Nat → Int) (S : Nat) : Nat → Int := fun j => if j < m then p j + bt S j else p j

theorem tk_zero (m j : Nat) : isTk m 0 j = false := by simp [isTk]
theorem bt_bd (S j : Nat) : 0 ≤ bt S j ∧ bt S j ≤ 1 := by unfold bt; omega
theorem up_nn {m : Nat} {p : Nat → Int} (hp : NN m p) (S : Nat) : NN m (upP m p S) := by
  refine ⟨fun j => ?_, fun j hj => ?_⟩
  · have := hp.1 j; have := bt_bd S j; simp only [upP]; split <;> omega
  · simp only [upP]; rw [if_neg (by omega)]; exact hp.2 j hj
theorem bo_up (m : Nat) (r : List Int) (p : Nat → Int) (S : Nat) : bo m r 0 (upP m p S) = bo m r 0 p - (if inS m r p S = true then 1 else 0) := by
  have a := bo_anti (m := m) r 0 (p := p) (q := upP m p S) (fun j hj => by have := bt_bd S j; simp only [upP]; rw [if_pos hj]; omega)
  have b := bo_unit (m := m) r 0 (p := upP m p S) (q := p) (fun j hj => by have := bt_bd S j; simp only [upP]; rw [if_pos hj]; omega)
  by_cases h : inS m r p S = true
  · rw [if_pos h]
    simp only [inS, decide_eq_true_eq] at h
    obtain ⟨h0, h1⟩ := h
    rcases bo_at m r 0 (upP m p S) with e | ⟨j, hj, hf, e⟩
    · omega
    · have c := bo_ge r p hj (tk_zero m j)
      simp only [upP] at e
      rw [if_pos hj] at e
      rcases Int.lt_or_le (r.getD j 0 - p j) (bo m r 0 p) with hlt | hle
      · have := bt_bd S j; omega
      · have := h1 j hj (by omega)
        have : bt S j = 1 := by unfold bt; omega
        omega
  · rw [if_neg h]
    have hn := bo_nonneg m r 0 (upP m p S)
    rcases Int.lt_or_le 0 (bo m r 0 p) with h0 | h0
    · obtain ⟨j, hj, he, hb⟩ : ∃ j, j < m ∧ r.getD j 0 - p j = bo m r 0 p ∧ S / 2 ^ j % 2 ≠ 1 := by
        refine Classical.byContradiction (fun hn => h ?_)
        simp only [inS, decide_eq_true_eq]
        exact ⟨h0, fun j hj he => Classical.byContradiction (fun hb => hn ⟨j, hj, he, hb⟩)⟩
      have c := bo_ge r (upP m p S) hj (tk_zero m j)
      simp only [upP] at c
      rw [if_pos hj] at c
      have : bt S j = 0 := by unfold bt; omega
      omega
    · omega
theorem sp_up (m : Nat) (p : Nat → Int) (S : Nat) : ∀ k, k ≤ m → spTo m 0 (upP m p S) k = spTo m 0 p k + bts k S := by
  intro k
  induction k with
  | zero => intro _; simp [spTo, bts]
  | succ k ih =>
    intro hk
    have := ih (by omega)
    unfold spTo bts
    simp only [tk_zero, Bool.false_eq_true, if_false]
    simp only [upP] at this ⊢
    rw [if_pos (by omega : k < m)]
    unfold bt
    omega
/-- What a step does to the load. -/
theorem lp_up (m : Nat) (rows : List (List Int)) (p : Nat → Int) (S : Nat) : lp m rows 0 (upP m p S) = lp m rows 0 p + bts m S - cntS m rows p S := by
  have a := sp_up m p S m (Nat.le_refl _)
  have b : boS m rows 0 (upP m p S) = boS m rows 0 p - cntS m rows p S := by
    induction rows with
    | nil => simp [boS, cntS]
    | cons r rs ih =>
      have := bo_up m r p S
      simp only [boS, cntS]
      split at this <;> simp_all <;> omega
  simp only [lp]
  omega

/-- The set with the fewest things, the least number of several, that too many want, among the first k. -/
def tmTo (m : Nat) (rows : List (List Int)) (p : Nat → Int) : Nat → Nat
  | 0 => 0
  | k + 1 => if bts m k < cntS m rows p k ∧ (tmTo m rows p k = 0 ∨ bts m k < bts m (tmTo m rows p k)) then k else tmTo m rows p k
def tm (m : Nat) (rows : List (List Int)) (p : Nat → Int) : Nat := tmTo m rows p (2 ^ m)
theorem cnt_zero (m : Nat) (rows : List (List Int)) (p : Nat → Int) : cntS m rows p 0 = 0 := by
  induction rows with
  | nil => rfl
  | cons r rs ih =>
    have : inS m r p 0 = false := by
      simp only [inS, decide_eq_false_iff_not]
      rintro ⟨h0, h1⟩
      rcases bo_at m r 0 p with e | ⟨j, hj, _, e⟩
      · omega
      · have := h1 j hj e.symm; simp at this
    simp [cntS, ih, this]
theorem tmTo_is (m : Nat) (rows : List (List Int)) (p : Nat → Int) (k : Nat) :
    (tmTo m rows p k = 0 ∧ ∀ s, s < k → cntS m rows p s ≤ bts m s) ∨
    (tmTo m rows p k < k ∧ 0 < tmTo m rows p k ∧ bts m (tmTo m rows p k) < cntS m rows p (tmTo m rows p k) ∧ ∀ s, s < k → bts m s < cntS m rows p s → bts m (tmTo m rows p k) ≤ bts m s) := by
  induction k with
  | zero => exact .inl ⟨rfl, fun s hs => absurd hs (by omega)⟩
  | succ k ih =>
    unfold tmTo
    by_cases h : bts m k < cntS m rows p k ∧ (tmTo m rows p k = 0 ∨ bts m k < bts m (tmTo m rows p k))
    · rw [if_pos h]
      have hk0 : 0 < k := by
        rcases Nat.eq_zero_or_pos k with e | e
        · rw [e, cnt_zero] at h; omega
        · exact e
      refine .inr ⟨by omega, hk0, h.1, fun s hs hc => ?_⟩
      rcases Nat.lt_or_ge s k with h' | h'
      · rcases ih with ⟨e, hn⟩ | ⟨_, hp, _, hm⟩
        · have := hn s h'; omega
        · have := hm s h' hc
          rcases h.2 with h2 | h2
          · omega
          · omega
      · obtain rfl : s = k := by omega
        exact Nat.le_refl _
    · rw [if_neg h]
      rcases ih with ⟨e, hn⟩ | ⟨hlt, hp, hc, hm⟩
      · refine .inl ⟨e, fun s hs => ?_⟩
        rcases Nat.lt_or_ge s k with h' | h'
        · exact hn s h'
        · obtain rfl : s = k := by omega
          exact Nat.le_of_not_lt (fun hx => h ⟨hx, .inl e⟩)
      · refine .inr ⟨by omega, hp, hc, fun s hs hcs => ?_⟩
        rcases Nat.lt_or_ge s k with h' | h'
        · exact hm s h' hcs
        · obtain rfl : s = k := by omega
          exact Nat.le_of_not_lt (fun hx => h ⟨hcs, .inr hx⟩)

/-- One step. -/
def upL (m : Nat) (p : List Int) (S : Nat) : List Int := (List.range m).map (fun j => p.getD j 0 + bt S j)
theorem upL_len (m : Nat) (p : List Int) (S : Nat) : (upL m p S).length = m := by simp [upL]
theorem upL_at (m : Nat) {p : List Int} (S : Nat) (hl : p.length = m) : P1 (upL m p S) = upP m (P1 p) S := by
  refine funext (fun j => ?_)
  simp only [P1, upP]
  by_cases h : j < m
  · rw [if_pos h]
    simp [upL, List.getD_eq_getElem?_getD, h]
  · rw [if_neg h]
    simp [upL, List.getD_eq_getElem?_getD, h, hl]
def clP (m : Nat) (rows : List (List Int)) : Nat → List Int → List Int
  | 0, p => p
  | n + 1, p => if tm m rows (P1 p) = 0 then p else clP m rows n (upL m p (tm m rows (P1 p)))
/-- Prices to which these climb. -/
def clF (m : Nat) (rows : List (List Int)) (p : List Int) : List Int := clP m rows (lp m rows 0 (P1 p)).toNat p

/-- Prices as a list. -/
def PL (m : Nat) (p : List Int) : Prop := p.length = m ∧ ∀ j, 0 ≤ P1 p j
theorem PL.nn {m : Nat} {p : List Int} (h : PL m p) : NN m (P1 p) := by
  refine ⟨h.2, fun j hj => ?_⟩
  simp only [P1]
  rw [List.getD_eq_getElem?_getD, List.getElem?_eq_none (by rw [h.1]; exact hj)]; rfl
theorem PL.up {m : Nat} {p : List Int} (h : PL m p) (S : Nat) : PL m (upL m p S) := by
  refine ⟨upL_len m p S, fun j => ?_⟩
  rw [upL_at m S h.1]
  exact (up_nn h.nn S).1 j
theorem pl_zero (m : Nat) : PL m (List.replicate m 0) := by
  refine ⟨List.length_replicate, fun j => ?_⟩
  simp only [P1, List.getD_eq_getElem?_getD]
  rcases Nat.lt_or_ge j m with h | h
  · simp [h]
  · rw [List.getElem?_eq_none (by simpa using h)]; simp
theorem tm_lt (m : Nat) (rows : List (List Int)) (p : Nat → Int) : tm m rows p < 2 ^ m := by
  rcases tmTo_is m rows p (2 ^ m) with ⟨e, _⟩ | ⟨h, _⟩
  · unfold tm; rw [e]; exact Nat.two_pow_pos m
  · exact h
theorem tm_down {m : Nat} {rows : List (List Int)} {p : List Int} (h : PL m p) (ht : tm m rows (P1 p) ≠ 0) : lp m rows 0 (P1 (upL m p (tm m rows (P1 p)))) < lp m rows 0 (P1 p) := by
  rw [upL_at m _ h.1, lp_up]
  rcases tmTo_is m rows (P1 p) (2 ^ m) with ⟨e, _⟩ | ⟨_, _, hc, _⟩
  · exact absurd e ht
  · unfold tm; omega
theorem clP_enough {m : Nat} {rows : List (List Int)} : ∀ (n k : Nat) (p : List Int), PL m p → (lp m rows 0 (P1 p)).toNat ≤ n → (lp m rows 0 (P1 p)).toNat ≤ k → clP m rows n p = clP m rows k p := by
  intro n
  induction n with
  | zero =>
    intro k p hp hn hk
    cases k with
    | zero => rfl
    | succ k =>
      rw [clP, clP]
      split
      · rfl
      · rename_i ht
        have := tm_down hp ht
        have := lp_nonneg rows 0 (hp.up (tm m rows (P1 p))).nn
        omega
  | succ n ih =>
    intro k p hp hn hk
    cases k with
    | zero =>
      rw [clP, clP]
      split
      · rfl
      · rename_i ht
        have := tm_down hp ht
        have := lp_nonneg rows 0 (hp.up (tm m rows (P1 p))).nn
        omega
    | succ k =>
      rw [clP, clP]
      split
      · rfl
      · rename_i ht
        have := tm_down hp ht
        have := lp_nonneg rows 0 (hp.up (tm m rows (P1 p))).nn
        exact ih k _ (hp.up _) (by omega) (by omega)
theorem clF_end {m : Nat} {rows : List (List Int)} {p : List Int} (ht : tm m rows (P1 p) = 0) : clF m rows p = p := by
  unfold clF
  cases (lp m rows 0 (P1 p)).toNat with
  | zero => rfl
  | succ n => rw [clP, if_pos ht]
theorem clF_step {m : Nat} {rows : List (List Int)} {p : List Int} (hp : PL m p) (ht : tm m rows (P1 p) ≠ 0) : clF m rows (upL m p (tm m rows (P1 p))) = clF m rows p := by
  have hd := tm_down hp ht
  have h0 := lp_nonneg rows 0 (hp.up (tm m rows (P1 p))).nn
  obtain ⟨n, hn⟩ : ∃ n, (lp m rows 0 (P1 p)).toNat = n + 1 := ⟨(lp m rows 0 (P1 p)).toNat - 1, by omega⟩
  have e : clF m rows p = clP m rows n (upL m p (tm m rows (P1 p))) := by
    unfold clF
    rw [hn, clP, if_neg ht]
  rw [e]
  exact clP_enough _ _ _ (hp.up _) (Nat.le_refl _) (by omega)

/-- Bits of sets of up to four things. -/
theorem bits_set {m : Nat} (hm : m ≤ 4) (f : Nat → Bool) : ∃ S, S < 2 ^ m ∧ ∀ j, j < m → (S / 2 ^ j % 2 = 1 ↔ f j = true) := by
  have key : ∀ a b c d : Bool, ∃ S, S < 2 ^ 4 ∧ ((S / 2 ^ 0 % 2 = 1 ↔ a = true) ∧ (S / 2 ^ 1 % 2 = 1 ↔ b = true) ∧ (S / 2 ^ 2 % 2 = 1 ↔ c = true) ∧ (S / 2 ^ 3 % 2 = 1 ↔ d = true)) := by decide
  have key3 : ∀ a b c : Bool, ∃ S, S < 2 ^ 3 ∧ ((S / 2 ^ 0 % 2 = 1 ↔ a = true) ∧ (S / 2 ^ 1 % 2 = 1 ↔ b = true) ∧ (S / 2 ^ 2 % 2 = 1 ↔ c = true)) := by decide
  have key2 : ∀ a b : Bool, ∃ S, S < 2 ^ 2 ∧ ((S / 2 ^ 0 % 2 = 1 ↔ a = true) ∧ (S / 2 ^ 1 % 2 = 1 ↔ b = true)) := by decide
  have key1 : ∀ a : Bool, ∃ S, S < 2 ^ 1 ∧ ((S / 2 ^ 0 % 2 = 1 ↔ a = true)) := by decide
  have hc : m = 0 ∨ m = 1 ∨ m = 2 ∨ m = 3 ∨ m = 4 := by omega
  rcases hc with rfl | rfl | rfl | rfl | rfl
  · exact ⟨0, by decide, fun j hj => absurd hj (by omega)⟩
  · obtain ⟨S, h, h0⟩ := key1 (f 0)
    exact ⟨S, h, fun j hj => by obtain rfl : j = 0 := by omega
                                exact h0⟩
  · obtain ⟨S, h, h0, h1⟩ := key2 (f 0) (f 1)
    refine ⟨S, h, fun j hj => ?_⟩
    have : j = 0 ∨ j = 1 := by omega
    rcases this with rfl | rfl <;> assumption
  · obtain ⟨S, h, h0, h1, h2⟩ := key3 (f 0) (f 1) (f 2)
    refine ⟨S, h, fun j hj => ?_⟩
    have : j = 0 ∨ j = 1 ∨ j = 2 := by omega
    rcases this with rfl | rfl | rfl <;> assumption
  · obtain ⟨S, h, h0, h1, h2, h3⟩ := key (f 0) (f 1) (f 2) (f 3)
    refine ⟨S, h, fun j hj => ?_⟩
    have : j = 0 ∨ j = 1 ∨ j = 2 ∨ j = 3 := by omega
    rcases this with rfl | rfl | rfl | rfl <;> assumption
theorem bts_le {A B : Nat} : ∀ m, (∀ j, j < m → A / 2 ^ j % 2 ≤ B / 2 ^ j % 2) → bts m A ≤ bts m B ∧ (bts m B ≤ bts m A → ∀ j, j < m → A / 2 ^ j % 2 = B / 2 ^ j % 2) := by
  intro m
  induction m with
  | zero => intro _; exact ⟨Nat.le_refl _, fun _ j hj => absurd hj (by omega)⟩
  | succ m ih =>
    intro h
    obtain ⟨a, b⟩ := ih (fun j hj => h j (by omega))
    have := h m (by omega)
    unfold bts
    refine ⟨by omega, fun hx j hj => ?_⟩
    rcases Nat.lt_or_ge j m with h' | h'
    · exact b (by omega) j h'
    · obtain rfl : j = m := by omega
      omega

/-- No step of the climb goes beyond prices at which the load is least. -/
theorem tm_low {m : Nat} (hm : m ≤ 4) {rows : List (List Int)} {p q : Nat → Int} (hp : NN m p) (hq : NN m q) (hmin : ∀ x, NN m x → lp m rows 0 q ≤ lp m rows 0 x) (hle : ∀ j, p j ≤ q j) (ht : tm m rows p ≠ 0) : ∀ j, upP m p (tm m rows p) j ≤ q j := by
  rcases tmTo_is m rows p (2 ^ m) with ⟨e, _⟩ | ⟨hlt, h0, hc, hmn⟩
  · exact absurd e ht
  have hS : tm m rows p = tmTo m rows p (2 ^ m) := rfl
  rw [← hS] at hlt h0 hc hmn
  generalize tm m rows p = S at *
  obtain ⟨S', hS', hb⟩ := bits_set hm (fun j => decide (S / 2 ^ j % 2 = 1 ∧ p j < q j))
  have hsub : ∀ j, j < m → S' / 2 ^ j % 2 ≤ S / 2 ^ j % 2 := by
    intro j hj
    have := hb j hj
    simp only [decide_eq_true_eq] at this
    omega
  obtain ⟨b1, b2⟩ := bts_le m hsub
  have s := lp_sm m rows 0 0 (by omega) q (upP m p S) hq (up_nn hp S)
  have e1 : mnP 0 (upP m p S) q = upP m p S' := by
    refine funext (fun j => ?_)
    have := hle j
    simp only [mnP, upP]
    by_cases hj : j < m
    · simp only [hj, if_true]
      have h1 := hb j hj
      simp only [decide_eq_true_eq] at h1
      unfold bt
      omega
    · simp only [hj, if_false]; omega
  have e2 := hmin _ (mx_nn (e := 0) (by omega) hq (up_nn hp S))
  rw [e1] at s
  have l1 := lp_up m rows p S
  have l2 := lp_up m rows p S'
  have hnot : ¬ (bts m S' < bts m S) := by
    intro hlt'
    have : ¬ (bts m S' < cntS m rows p S') := fun hx => by have := hmn S' hS' hx; omega
    omega
  have b3 := b2 (by omega)
  intro j
  by_cases hj : j < m
  · simp only [upP]; rw [if_pos hj]
    have := b3 j hj
    have h1 := hb j hj
    simp only [decide_eq_true_eq] at h1
    have := hle j
    unfold bt
    omega
  · simp only [upP]; rw [if_neg hj]; exact hle j
/-- Where no set is wanted by too many the load is least. -/
theorem tm_none {m : Nat} (hm : m ≤ 4) {rows : List (List Int)} {p : Nat → Int} (hp : NN m p) (ht : tm m rows p = 0) {q : Nat → Int} (hq : NN m q) (hle : ∀ j, p j ≤ q j) : lp m rows 0 p ≤ lp m rows 0 q := by
  refine sm_ge (lp_sm m rows 0) hp (fun x hx hb => ?_) hq hle
  obtain ⟨S, hS, hbS⟩ := bits_set hm (fun j => decide (p j < x j))
  have e : x = upP m p S := by
    refine funext (fun j => ?_)
    simp only [upP]
    by_cases hj : j < m
    · rw [if_pos hj]
      have h1 := hbS j hj
      have := hb j
      simp only [decide_eq_true_eq] at h1
      unfold bt
      omega
    · rw [if_neg hj, hx.2 j (by omega), hp.2 j (by omega)]
  rw [e, lp_up]
  rcases tmTo_is m rows p (2 ^ m) with ⟨_, hn⟩ | ⟨_, h0, _⟩
  · have := hn S hS; omega
  · exact absurd ht (by unfold tm; omega)

/-- The end of the climb: below all prices at which the load is least. -/
theorem clF_low {m : Nat} (hm : m ≤ 4) {rows : List (List Int)} {q : Nat → Int} (hq : NN m q) (hmin : ∀ x, NN m x → lp m rows 0 q ≤ lp m rows 0 x) :
    ∀ (n : Nat) (p : List Int), PL m p → (∀ j, P1 p j ≤ q j) → (lp m rows 0 (P1 p)).toNat ≤ n → PL m (clP m rows n p) ∧ (∀ j, P1 (clP m rows n p) j ≤ q j) ∧ tm m rows (P1 (clP m rows n p)) = 0 := by
  intro n
  induction n with
  | zero =>
    intro p hp hle hn
    refine ⟨hp, hle, Classical.byContradiction (fun ht => ?_)⟩
    have := tm_down hp ht
    have := lp_nonneg rows 0 (hp.up (tm m rows (P1 p))).nn
    omega
  | succ n ih =>
    intro p hp hle hn
    rw [clP]
    split
    · rename_i ht
      exact ⟨hp, hle, ht⟩
    · rename_i ht
      have := tm_down hp ht
      have := lp_nonneg rows 0 (hp.up (tm m rows (P1 p))).nn
      exact ih _ (hp.up _) (fun j => by rw [upL_at m _ hp.1]; exact tm_low hm hp.nn hq hmin hle ht j) (by omega)
/-- The prices to which noughts climb. -/
def ppP (m : Nat) (rows : List (List Int)) : List Int := clF m rows (List.replicate m 0)
theorem pp_least {m : Nat} (hm : m ≤ 4) {rows : List (List Int)} (hr : Rk m rows) : PL m (ppP m rows) ∧ lp m rows 0 (P1 (ppP m rows)) = (pb rows 0).1 ∧ tm m rows (P1 (ppP m rows)) = 0 ∧
    ∀ q, NN m q → lp m rows 0 q = (pb rows 0).1 → ∀ j, P1 (ppP m rows) j ≤ q j := by
  have z : ∀ j, P1 (List.replicate m (0 : Int)) j = 0 := by
    intro j
    simp only [P1, List.getD_eq_getElem?_getD]
    rcases Nat.lt_or_ge j m with h | h
    · simp [h]
    · rw [List.getElem?_eq_none (by simpa using h)]; rfl
  have low : ∀ q, NN m q → lp m rows 0 q = (pb rows 0).1 → PL m (ppP m rows) ∧ (∀ j, P1 (ppP m rows) j ≤ q j) ∧ tm m rows (P1 (ppP m rows)) = 0 := fun q hq he =>
    clF_low hm hq (fun x hx => by rw [he]; exact pb_weak hm hr hx 0 (by omega)) _ _ (pl_zero m) (fun j => by rw [z j]; exact hq.1 j) (Nat.le_refl _)
  obtain ⟨q, hq, he⟩ := pb_strong hm hr 0 (by omega)
  obtain ⟨a, b, c⟩ := low q hq he
  refine ⟨a, ?_, c, fun q hq he => (low q hq he).2.1⟩
  have h1 := tm_none hm a.nn c hq b
  have h2 := pb_weak hm hr a.nn 0 (by omega)
  omega
end Go.Proofs.Ytkhpheebjkbihab

/-
  Chapter 8, plain: prices that go with the best pairs, the least ones and the most ones, and what a bidder less turns.
-/
namespace Go.Proofs.Ytkhpheebjkbihab

/-- What is taken behind all. -/
def endU (m : Nat) : Nat → List Nat → Nat
  | u, [] => u
  | u, j :: js => endU m (nxU m u j) js
/-- All have what is best at prices. -/
def sptW (m : Nat) : List (List Int) → (Nat → Int) → List Nat → Prop
  | r :: rs, p, j :: js => r.getD j 0 - p j = bo m r 0 p ∧ sptW m rs p js
  | _, _, _ => True
def goW (m : Nat) (rows : List (List Int)) (p : Nat → Int) (js : List Nat) : Prop := sptW m rows p js ∧ ∀ j, j < m → isTk m (endU m 0 js) j = false → p j = 0

theorem end_tk {m : Nat} (hm : m ≤ 4) {rows : List (List Int)} : ∀ (u : Nat) (js : List Nat), u < 16 → Mt m rows u js → endU m u js < 16 ∧ ∀ k, isTk m (endU m u js) k = (isTk m u k || decide (k < m ∧ k ∈ js)) := by
  induction rows with
  | nil => intro u js hu h; rw [Mt] at h; rw [h]; exact ⟨hu, fun k => by simp [endU]⟩
  | cons r rs ih =>
    intro u js hu h
    obtain ⟨j, js', rfl, hj, hf, h'⟩ := h
    obtain ⟨h1, h2⟩ := nx_tk hm hu hj hf
    obtain ⟨h3, h4⟩ := ih _ _ h1 h'
    refine ⟨h3, fun k => ?_⟩
    show isTk m (endU m (nxU m u j) js') k = _
    rw [h4 k, h2 k]
    by_cases e : k = j
    · subst e
      by_cases hk : k < m <;> simp [hk]
    · simp [e]
theorem own_le {m : Nat} {r : List Int} (hr : r.length = m) {p : Nat → Int} (hp : NN m p) {j : Nat} (hj : j ≤ m) : r.getD j 0 - p j ≤ bo m r 0 p := by
  rcases Nat.lt_or_ge j m with h | h
  · exact bo_ge r p h (tk_zero m j)
  · have h1 := hp.2 j h
    have h2 : r.getD j 0 = 0 := by rw [List.getD_eq_getElem?_getD, List.getElem?_eq_none (by omega)]; rfl
    have := bo_nonneg m r 0 p
    omega
theorem cs_sum {m : Nat} (hm : m ≤ 4) {p : Nat → Int} (hp : NN m p) {rows : List (List Int)} (hr : Rk m rows) : ∀ (u : Nat) (js : List Nat), u < 16 → Mt m rows u js →
    ∃ g : Int, 0 ≤ g ∧ (g = 0 ↔ sptW m rows p js) ∧ boS m rows 0 p + spTo m u p m = vl rows js + g + spTo m (endU m u js) p m := by
  induction rows with
  | nil => intro u js hu h; rw [Mt] at h; rw [h]; exact ⟨0, Int.le_refl _, by simp [sptW], by simp [boS, vl, endU]⟩
  | cons r rs ih =>
    intro u js hu h
    obtain ⟨j, js', rfl, hj, hf, h'⟩ := h
    obtain ⟨h1, h2⟩ := nx_tk hm hu hj hf
    obtain ⟨g, g0, g1, g2⟩ := ih hr.tail _ _ h1 h'
    have a := own_le hr.head.1 hp hj
    have b : spTo m (nxU m u j) p m = spTo m u p m - p j := by
      rcases Nat.lt_or_ge j m with hjm | hjm
      · have := spTo_take hm hu hjm hf p m; rw [if_pos hjm] at this; exact this
      · have : nxU m u j = u := by unfold nxU; rw [if_neg (by omega)]
        rw [this, hp.2 j hjm]; omega
    refine ⟨g + (bo m r 0 p - (r.getD j 0 - p j)), by omega, ?_, ?_⟩
    · simp only [sptW]
      constructor
      · intro e; exact ⟨by omega, g1.1 (by omega)⟩
      · rintro ⟨e1, e2⟩; have := g1.2 e2; omega
    · simp only [boS, vl, endU]
      omega
theorem spTo_none {m : Nat} {u : Nat} {p : Nat → Int} (hp : ∀ j, 0 ≤ p j) : ∀ k, k ≤ m → (spTo m u p k = 0 ↔ ∀ j, j < k → isTk m u j = false → p j = 0) := by
  intro k
  induction k with
  | zero => intro _; simp [spTo]
  | succ k ih =>
    intro hk
    have i1 := ih (by omega)
    have n := spTo_nonneg (m := m) u hp k
    unfold spTo
    cases ht : isTk m u k with
    | true =>
      rw [if_pos rfl, i1]
      constructor
      · intro h j hj hf
        rcases Nat.lt_or_ge j k with h' | h'
        · exact h j h' hf
        · obtain rfl : j = k := by omega
          rw [ht] at hf; exact absurd hf (by simp)
      · intro h j hj; exact h j (by omega)
    | false =>
      rw [if_neg (by simp)]
      have := hp k
      constructor
      · intro h j hj hf
        rcases Nat.lt_or_ge j k with h' | h'
        · exact (i1.1 (by omega)) j h' hf
        · obtain rfl : j = k := by omega
          omega
      · intro h
        have a := i1.2 (fun j hj => h j (by omega))
        have b := h k (by omega) ht
        omega
/-- Prices go with the best pairs where the load is just what these are worth. -/
theorem go_iff {m : Nat} (hm : m ≤ 4) {rows : List (List Int)} (hr : Rk m rows) {p : Nat → Int} (hp : NN m p) : goW m rows p (pb rows 0).2 ↔ lp m rows 0 p = (pb rows 0).1 := by
  obtain ⟨a, b⟩ := pb_mt hr 0
  obtain ⟨g, g0, g1, g2⟩ := cs_sum hm hp hr 0 _ (by omega) a
  have c := spTo_none (u := endU m 0 (pb rows 0).2) hp.1 m (Nat.le_refl _)
  have d := spTo_nonneg (m := m) (endU m 0 (pb rows 0).2) hp.1 m
  unfold goW
  rw [← g1, ← c]
  simp only [lp]
  omega
/-- What goes with the pairs is no more than what things are worth. -/
theorem go_bd {m : Nat} (hm : m ≤ 4) {rows : List (List Int)} (hr : Rk m rows) {B : Int} (hB0 : 0 ≤ B) (hB : ∀ r ∈ rows, ∀ j, r.getD j 0 ≤ B) {p : Nat → Int} (hp : NN m p) (h : goW m rows p (pb rows 0).2) : ∀ j, p j ≤ B := by
  have key : ∀ (rows : List (List Int)) (js : List Nat), (∀ r ∈ rows, ∀ j, r.getD j 0 ≤ B) → js.length = rows.length → sptW m rows p js → ∀ j ∈ js, p j ≤ B := by
    intro rows
    induction rows with
    | nil => intro js _ hl _ j hj; have : js = [] := List.length_eq_zero_iff.1 hl; rw [this] at hj; exact absurd hj (by simp)
    | cons r rs ih =>
      intro js hB hl hs j hj
      cases js with
      | nil => simp at hl
      | cons i js =>
        obtain ⟨h1, h2⟩ := hs
        rcases List.mem_cons.1 hj with rfl | hj
        · have := bo_nonneg m r 0 p
          have := hB r (by simp) j
          omega
        · exact ih js (fun x hx => hB x (by simp [hx])) (by simpa using hl) h2 j hj
  intro j
  rcases Nat.lt_or_ge j m with hj | hj
  · obtain ⟨a, _⟩ := pb_mt hr 0
    obtain ⟨_, e⟩ := end_tk hm 0 _ (by omega) a
    cases ht : isTk m (endU m 0 (pb rows 0).2) j with
    | false => have := h.2 j hj ht; omega
    | true =>
      rw [e j, tk_zero] at ht
      simp only [Bool.false_or, decide_eq_true_eq] at ht
      exact key rows _ hB (pb_len hr 0) h.1 j ht.2
  · have := hp.2 j hj; omega

/-- What a thing takes when it is missing. -/
def mpP (rows : List (List Int)) (j : Nat) : Int := (pb rows 0).1 - (pb rows (2 ^ j)).1
def mpN (m : Nat) (rows : List (List Int)) : Nat → Int := fun j => if j < m then mpP rows j else 0
theorem nx_zero {m j : Nat} (hj : j < m) : nxU m 0 j = 2 ^ j := by unfold nxU; rw [if_pos hj]; omega
theorem mp_nonneg {m : Nat} (hm : m ≤ 4) {rows : List (List Int)} (hr : Rk m rows) {j : Nat} (hj : j < m) : 0 ≤ mpP rows j := by
  obtain ⟨h1, h2⟩ := nx_tk hm (u := 0) (by omega) (Nat.le_of_lt hj) (tk_zero m j)
  have := pb_less hm hr (u := nxU m 0 j) (v := 0) h1 (by omega) (fun k hk => by rw [tk_zero] at hk; exact absurd hk (by simp))
  rw [nx_zero hj] at this
  unfold mpP; omega
theorem mp_nn {m : Nat} (hm : m ≤ 4) {rows : List (List Int)} (hr : Rk m rows) : NN m (mpN m rows) := by
  refine ⟨fun j => ?_, fun j hj => ?_⟩
  · simp only [mpN]; split
    · exact mp_nonneg hm hr (by assumption)
    · exact Int.le_refl _
  · simp only [mpN]; rw [if_neg (by omega)]
/-- No prices at which the load is least are more. -/
theorem mp_ge {m : Nat} (hm : m ≤ 4) {rows : List (List Int)} (hr : Rk m rows) {q : Nat → Int} (hq : NN m q) (he : lp m rows 0 q = (pb rows 0).1) : ∀ j, q j ≤ mpN m rows j := by
  intro j
  simp only [mpN]
  split
  · rename_i hj
    obtain ⟨h1, _⟩ := nx_tk hm (u := 0) (by omega) (Nat.le_of_lt hj) (tk_zero m j)
    have a := pb_weak hm hr hq _ h1
    have b := lp_take hm rows (u := 0) (by omega) hj (tk_zero m j) q
    rw [nx_zero hj] at a b
    unfold mpP; omega
  · rename_i hj
    rw [hq.2 j (by omega)]; exact Int.le_refl _
theorem sum_le {m : Nat} {p q : Nat → Int} (hle : ∀ j, p j ≤ q j) (k : Nat) : spTo m 0 p k ≤ spTo m 0 q k := (sum_same (m := m) hle k).1
/-- And at these it is least. -/
theorem mp_min {m : Nat} (hm : m ≤ 4) {rows : List (List Int)} (hr : Rk m rows) : lp m rows 0 (mpN m rows) = (pb rows 0).1 := by
  have weak : ∀ q, NN m q → (pb rows 0).1 ≤ lp m rows 0 q := fun q hq => pb_weak hm hr hq 0 (by omega)
  obtain ⟨p0, hp0, he0⟩ := pb_strong hm hr 0 (by omega)
  obtain ⟨q, hq, hmin, hgr⟩ := gm_some (f := lp m rows 0) hp0 (fun x hx => by rw [he0]; exact weak x hx) (B := spTo m 0 (mpN m rows) m)
    (fun x hx hle => sum_le (mp_ge hm hr hx (by have := weak x hx; omega)) m)
  have heq : lp m rows 0 q = (pb rows 0).1 := by have := hmin p0 hp0; have := weak q hq; omega
  have : q = mpN m rows := by
    refine funext (fun j => ?_)
    have hle := mp_ge hm hr hq heq j
    rcases Nat.lt_or_ge j m with hj | hj
    · have hall : ∀ x, NN m x → lp m rows 0 q - q j ≤ lp m rows 0 x - x j := by
        intro x hx
        refine sm_all (lpj_sm m rows 0 j) hq (fun x hx hb => ?_) (fun x hx hb => ?_) hx
        · rcases Int.lt_or_le (lp m rows 0 x - x j) (lp m rows 0 q - q j) with hlt | hle
          · have := (hb j).2
            have e := hgr x hx (fun k => (hb k).1) (by omega)
            rw [e]; exact Int.le_refl _
          · exact hle
        · have := hmin x hx
          have := (hb j).1
          omega
      obtain ⟨h1, _⟩ := nx_tk hm (u := 0) (by omega) (Nat.le_of_lt hj) (tk_zero m j)
      obtain ⟨x, hx, hxe⟩ := pb_strong hm hr _ h1
      obtain ⟨K, hK0, hK⟩ := row_top rows j
      have hx' : NN m (fun k => if k = j then K else x k) := by
        refine ⟨fun k => ?_, fun k hk => ?_⟩
        · simp only; split
          · exact hK0
          · exact hx.1 k
        · simp only; rw [if_neg (by omega)]; exact hx.2 k hk
      have a := hall _ hx'
      rw [if_pos rfl] at a
      have b := lp_dear hm (u := 0) (by omega) hj (tk_zero m j) x hK
      rw [hxe, nx_zero hj] at b
      simp only [mpN] at hle ⊢
      rw [if_pos hj] at hle ⊢
      unfold mpP at hle ⊢
      omega
    · rw [hq.2 j hj]; simp only [mpN]; rw [if_neg (by omega)]
  rw [← this]; exact heq

theorem boS_erase (m : Nat) (u : Nat) (p : Nat → Int) {rows : List (List Int)} : ∀ i, i < rows.length → boS m rows u p = bo m (rows.getD i []) u p + boS m (rows.eraseIdx i) u p := by
  induction rows with
  | nil => intro i hi; simp at hi
  | cons r rs ih =>
    intro i hi
    cases i with
    | zero => simp [boS]
    | succ i =>
      have := ih i (by simpa using hi)
      simp only [List.eraseIdx_cons_succ, boS, List.getD_cons_succ]
      omega
theorem lp_erase (m : Nat) (u : Nat) (p : Nat → Int) {rows : List (List Int)} {i : Nat} (hi : i < rows.length) : lp m rows u p = bo m (rows.getD i []) u p + lp m (rows.eraseIdx i) u p := by
  have := boS_erase m u p i hi
  simp only [lp]; omega
theorem pp_lm {m : Nat} (hm : m ≤ 4) {rows : List (List Int)} (hr : Rk m rows) {i : Nat} (hi : i < rows.length) : LM m (fun q => bo m (rows.getD i []) 0 q + lp m (rows.eraseIdx i) 0 q) (P1 (ppP m rows)) := by
  obtain ⟨a, b, _, d⟩ := pp_least hm hr
  have e : (fun q => bo m (rows.getD i []) 0 q + lp m (rows.eraseIdx i) 0 q) = lp m rows 0 := funext (fun q => (lp_erase m 0 q hi).symm)
  rw [e]
  have weak : ∀ q, NN m q → (pb rows 0).1 ≤ lp m rows 0 q := fun q hq => pb_weak hm hr hq 0 (by omega)
  refine ⟨a.nn, fun q hq => by rw [b]; exact weak q hq, fun q hq hle hf => funext (fun j => ?_)⟩
  have := d q hq (by have := weak q hq; omega) j
  have := hle j
  omega
/-- The prices that climb are least without a bidder, too. -/
theorem pp_erase {m : Nat} (hm : m ≤ 4) {rows : List (List Int)} (hr : Rk m rows) {i : Nat} (hi : i < rows.length) : lp m (rows.eraseIdx i) 0 (P1 (ppP m rows)) = (pb (rows.eraseIdx i) 0).1 := by
  have hr' := rk_erase hr i
  have h := lm_less (lp_sm m (rows.eraseIdx i) 0) (fun p q hle => bo_anti _ 0 (fun j _ => hle j)) (fun p q hle => bo_unit _ 0 (fun j _ => hle j)) (pp_lm hm hr hi)
  obtain ⟨q, hq, he⟩ := pb_strong hm hr' 0 (by omega)
  have a := h q hq
  have b := pb_weak hm hr' (pp_least hm hr).1.nn 0 (by omega)
  omega
theorem spt_at {m : Nat} {p : Nat → Int} : ∀ (rows : List (List Int)) (js : List Nat) (i : Nat), js.length = rows.length → sptW m rows p js → i < rows.length → (rows.getD i []).getD (js.getD i 0) 0 - p (js.getD i 0) = bo m (rows.getD i []) 0 p := by
  intro rows
  induction rows with
  | nil => intro js i _ _ hi; simp at hi
  | cons r rs ih =>
    intro js i hl hs hi
    cases js with
    | nil => simp at hl
    | cons j js =>
      cases i with
      | zero => exact hs.1
      | succ i => exact ih js i (by simpa using hl) hs.2 (by simpa using hi)
/-- What pairs pay is the price of the own thing. -/
theorem pp_pays {m : Nat} (hm : m ≤ 4) {rows : List (List Int)} (hr : Rk m rows) {i : Nat} (hi : i < rows.length) : ppF rows i = P1 (ppP m rows) ((pb rows 0).2.getD i 0) := by
  obtain ⟨a, b, _, _⟩ := pp_least hm hr
  have g := (go_iff hm hr a.nn).2 b
  have s := spt_at rows _ i (pb_len hr 0) g.1 hi
  have e := pp_erase hm hr hi
  have l := lp_erase m 0 (P1 (ppP m rows)) hi
  unfold ppF
  omega
/-- A bidder less: no dearer. -/
theorem pp_more {m : Nat} (hm : m ≤ 4) {rows : List (List Int)} (hr : Rk m rows) {i : Nat} (hi : i < rows.length) : ∀ j, P1 (ppP m (rows.eraseIdx i)) j ≤ P1 (ppP m rows) j :=
  (pp_least hm (rk_erase hr i)).2.2.2 _ (pp_least hm hr).1.nn (pp_erase hm hr hi)
theorem mp_more {m : Nat} (hm : m ≤ 4) {rows : List (List Int)} (hr : Rk m rows) {i : Nat} (hi : i < rows.length) {j : Nat} (hj : j < m) : mpP (rows.eraseIdx i) j ≤ mpP rows j := by
  have hr' := rk_erase hr i
  have n1 := mp_nn hm hr
  have n2 := mp_nn hm hr'
  have m1 := mp_min hm hr
  have m2 := mp_min hm hr'
  have x1 := mn_nn (e := 0) (by omega) n1 n2
  have x2 := mx_nn (e := 0) (by omega) n1 n2
  have s := lp_sm m (rows.eraseIdx i) 0 0 (by omega) _ _ n1 n2
  have w1 := pb_weak hm hr' x1 0 (by omega)
  have b := bo_anti (m := m) (rows.getD i []) 0 (p := mpN m rows) (q := mxP 0 (mpN m rows) (mpN m (rows.eraseIdx i))) (fun j _ => by simp only [mxP]; omega)
  have l1 := lp_erase m 0 (mpN m rows) hi
  have l2 := lp_erase m 0 (mxP 0 (mpN m rows) (mpN m (rows.eraseIdx i))) hi
  have w2 := pb_weak hm hr x2 0 (by omega)
  have g := mp_ge hm hr x2 (by omega) j
  simp only [mxP, mpN] at g
  rw [if_pos hj, if_pos hj] at g
  omega
end Go.Proofs.Ytkhpheebjkbihab

/-
  Chapter 8: MostPairPrices of the model and of the program.
-/
namespace Go.Proofs.Ytkhpheebjkbihab
open Go.RowKit

open Classical in
/-- What each thing takes when it is missing, nil for others. -/
noncomputable def mpL (rows : List (List Int)) : List Int := if VR rows then (List.range (RW rows 0).length).map (mpP rows) else []
theorem mp_yes {rows : List (List Int)} (h : VR rows) : mpL rows = (List.range (RW rows 0).length).map (mpP rows) := by simp [mpL, h]
theorem mp_no {rows : List (List Int)} (h : ¬ VR rows) : mpL rows = [] := by simp [mpL, h]
theorem row_head {rows : List (List Int)} {w : World} {A : Option Addr} {c : Nat} (h : RdR w A c rows) (hv : VR rows) : ∃ b off A' c', A = some ⟨b, off, none⟩ ∧ w.cell? ⟨b, off, none⟩ = some (.slice A' (RW rows 0).length c') := by
  obtain ⟨b, off, r, A', c', rfl, hr, hc, _, _⟩ := h.at_ (k := 0) (by have := hv.1; omega)
  rw [rw_of hr.out]
  exact ⟨b, off, A', c', rfl, by simpa using hc⟩

set_option maxRecDepth 100000 in
set_option maxHeartbeats 2000000 in
theorem SMostPairPrices_any (A : Option Addr) (c : Nat) (rows : List (List Int)) (w : World) (h : RdR w A c rows) (hl : rows.length ≤ 1099511627776) (hl2 : ∀ r ∈ rows, r.length ≤ 1099511627776) :
    Calls Try.prog 61 #[.slice A rows.length c] w (NewL w (mpL rows)) := by
  have HV := Lib.hid (validRows_any A c rows w h hl hl2)
  by_cases hv : VR rows
  · obtain ⟨hk, h12, hm1, hm4⟩ := hv.rk
    obtain ⟨b, off, A', c', rfl, hc⟩ := row_head h hv
    rw [vr_true hv] at HV
    have HP : Hid (∀ (u : Nat) (w1 : World), u < 16 → Below w.heap.size w w1 → Calls Try.prog 118 #[.slice (some ⟨b, off, none⟩) rows.length c, .int .i64 0, .int .i64 (u : Int)] w1 (PwIs w1 (pb rows u))) := Lib.hid (fun u w1 hu hb => by
      have := pairWorth_any (some ⟨b, off, none⟩) c _ rows hm4 hk h12 hv.1.2 rows.length 0 u w1 (by omega) hu (h.below hb)
      exact this)
    have HC := Lib.hid hc
    have E1 := Lib.hid (mp_yes hv)
    have HBD := Lib.hid (fun u => (⟨pb_nonneg hk u, pb_top hk h12 u⟩ : _ ∧ _))
    have hn4 := hv.1.2
    have hn1 := hv.1.1
    clear hv hk h12 h hc
    generalize (RW rows 0).length = m at *
    obtain ⟨zs, hzs⟩ : ∃ zs, zs = (List.range m).map (mpP rows) := ⟨_, rfl⟩
    have hzl : zs.length = m := by rw [hzs]; simp
    have HZA : Hid (∀ k, k < m → zs.take (k + 1) = zs.take k ++ [(pb rows 0).1 - (pb rows (2 ^ k)).1]) := Lib.hid (fun k hk => by
      rw [List.take_add_one, hzs]
      simp [hk, mpP])
    rw [← hzs] at E1
    have HZL := Lib.hid hzl
    have H0 := HBD.out 0
    have hz0 : ((0 : Nat) : Int) = 0 := rfl
    have HP0 : Hid (∀ n, Calls Try.prog 118 #[.slice (some ⟨b, off, none⟩) rows.length c, .int .i64 0, .int .i64 0] (w.drewN n) (PwIs (w.drewN n) (pb rows 0))) := Lib.hid (fun n => HP.out 0 _ (by omega) (below_drewN' (Below.refl _ _) n))
    clear hzs hzl hz0
    go_enter Try.func61, Try.ntmps61
    go_wp2_with fail
    refine HV.out.mono ?_
    rintro e w1 ⟨rfl, n, rfl⟩
    go_wp2_with fail
    refine (HP0.out n).mono ?_
    rintro e w2 ⟨A2, c2, rfl, o2, b2⟩
    have HB2 := Lib.hid ((below_drewN' (Below.refl w.heap.size w) n).trans b2)
    clear b2 o2 HP0 HV
    generalize (pb rows 0).1 = s at *
    have HO0 : Hid (Own (w2.alloc (.cells #[] 3)) w.heap.size (some ⟨w2.heap.size, 0, none⟩) 0 (zs.take 0)) := Lib.hid ((own_empty w2).base HB2.out.size)
    have HB3 := Lib.hid (HB2.out.trans (((Below.refl w2.heap.size w2).alloc (Nat.le_refl _) (.cells #[] 3)).mono HB2.out.size))
    go_wp2
    go_loopw [5, 6] (fun out j wr => ∃ (k : Nat) (A1 : Option Addr) (c1 : Nat), k ≤ m ∧ j = .int .i64 k ∧ out = .slice A1 k c1 ∧ Hid (Own wr w.heap.size A1 c1 (zs.take k)) ∧ Hid (Below w.heap.size w wr)) (fun _ j _ => m - (intOf j).toNat)
    case atStart => exact ⟨0, _, _, Nat.zero_le _, rfl, rfl, HO0, HB3⟩
    case round =>
      obtain ⟨k, A1, c1, hk, rfl, rfl, HO, HB⟩ := hrel
      have hcr := (HB.out.cell (p := ⟨b, off, none⟩) (World.block_lt_of_cell? w _ HC.out)).trans HC.out
      have h1l : 1 ≤ rows.length := hn1
      by_cases hlt : k < m
      · have hza := HZA.out k hlt
        have hbd := HBD.out (2 ^ k)
        have h16 : 2 ^ k < 16 := by
          have : 2 ^ k ≤ 2 ^ 3 := Nat.pow_le_pow_right (by omega) (by omega)
          omega
        have HPW := Lib.hid (HP.out (2 ^ k) wr h16 HB.out)
        have HPO := Lib.hid (fun w1 => Spow4_any k (by omega) w1)
        obtain ⟨p, hp⟩ : ∃ p, p = 2 ^ k := ⟨_, rfl⟩
        rw [← hp] at hza hbd HPW HPO
        obtain ⟨y, js, hyj⟩ : ∃ y js, pb rows p = (y, js) := ⟨_, _, rfl⟩
        rw [hyj] at hza hbd HPW
        simp only at hza hbd
        have hsy : IntKind.i64.wrap (s - y) = s - y := IntWalk.i64_in _ (by omega)
        have HZ := Lib.hid hza
        have htk : (zs.take k).length = k := by rw [List.length_take, HZL.out]; omega
        have HTK := Lib.hid htk
        have hk1 : k + 1 ≤ 1099511627776 := by omega
        have HK1 := Lib.hid hk1
        clear hp hyj hza htk hk1 h16 HP HBD
        go_wp2_with fail
        refine (HPO.out _).mono ?_
        rintro e w4 ⟨rfl, rfl⟩
        go_wp2_with fail
        refine HPW.out.mono ?_
        rintro e w5 ⟨A5, c5, rfl, o5, b5⟩
        have HB5 := Lib.hid (HB.out.trans (b5.mono HB.out.size))
        have HO5 := Lib.hid ((HO.out.below b5).below ((Below.refl w5.heap.size w5).alloc (Nat.le_refl _) (.cells #[.int .i64 (s - y)] 3)))
        have HL5 := Lib.hid (own_lit w5 [s - y] (by simp)).rd
        have hsz : w.heap.size ≤ (w5.alloc (.cells #[.int .i64 (s - y)] 3)).heap.size := Nat.le_trans HB5.out.size ((Below.refl _ w5).alloc (Nat.le_refl _) (.cells #[.int .i64 (s - y)] 3)).size
        have HSZ := Lib.hid hsz
        clear b5 o5 hsz
        go_wp2_with (at_builtin; refine wpList_append_any rfl _ _ 27 Try.underlying27 rfl w.heap.size A1 c1 (zs.take k) k HTK.out rfl HO5.out (some ⟨w5.heap.size, 0, none⟩) 1 [s - y] 1 rfl rfl HL5.out HK1.out HSZ.out ?_; intro A6 c6 w6 ho6 hg6)
        have HB6 := Lib.hid (((HB5.out.trans ((((Below.refl _ w5).alloc (Nat.le_refl _) (.cells #[.int .i64 (s - y)] 3))).mono HB5.out.size))).grown hg6 HSZ.out (fun q e => (own_bk HO.out e).1))
        rw [← HZ.out] at ho6
        go_roundw
        case rel => exact ⟨k + 1, A6, c6, hlt, by go_num, rfl, Lib.hid ho6, HB6⟩
        case measure => simp [intOf]; omega
      · obtain rfl : k = m := by omega
        go_wp2
        go_ret
        rw [E1.out]
        have ho := HO.out
        rw [List.take_of_length_le (by rw [HZL.out]; exact Nat.le_refl _)] at ho
        exact ⟨A1, c1, by rw [HZL.out]; rfl, ho, HB.out⟩
  · rw [vr_false hv] at HV
    have E1 := Lib.hid (mp_no hv)
    go_enter Try.func61, Try.ntmps61
    go_wp2_with fail
    refine HV.out.mono ?_
    rintro e w1 ⟨rfl, n, rfl⟩
    go_wp2
    go_ret
    rw [E1.out]
    exact ⟨none, 0, rfl, own_none _ _, below_drewN' (Below.refl _ _) n⟩

set_option maxRecDepth 100000 in
set_option maxHeartbeats 2000000 in
theorem MostPairPrices_any (A : Option Addr) (c : Nat) (rows : List (List Int)) (w : World) (h : RdR w A c rows) (hl : rows.length ≤ 1099511627776) (hl2 : ∀ r ∈ rows, r.length ≤ 1099511627776) :
    Calls Try.prog 38 #[.slice A rows.length c] w (NewL w (mpL rows)) := by
  have HV := Lib.hid (ValidRows_any A c rows w h hl hl2)
  by_cases hv : VR rows
  · obtain ⟨hk, h12, hm1, hm4⟩ := hv.rk
    obtain ⟨b, off, A', c', rfl, hc⟩ := row_head h hv
    rw [vr_true hv] at HV
    have HF := Lib.hid (fun (u : Nat) w1 (hu : u < 2 ^ (RW rows 0).length) (b1 : Below w.heap.size w w1) => bestFrom_any _ hm4 hm1 rows hk h12 hv.1.2 (some ⟨b, off, none⟩) c u w1 hu (h.below b1))
    have HS : Hid (∀ (u : Nat) (v : Value) (w1 : World), PLs w1 v (prs rows (pb rows u).2) → Calls Try.prog 101 #[v] w1 fun e w' => e = .returned (.int .i64 (pb rows u).1) ∧ ∃ n, w' = w1.drewN n) := Lib.hid (fun u v w1 hp => by
      have hb := prs_bd (fun r hr j => ⟨(hk r hr).2 j, h12 r hr j⟩) (pb rows u).2
      have := sum_any _ v w1 hp (by have := hb.1; have := hv.1.2; omega) hb.2
      rwa [smP_prs, (pb_mt hk u).2] at this)
    have HC := Lib.hid hc
    have E1 := Lib.hid (mp_yes hv)
    have HBD := Lib.hid (fun u => (⟨pb_nonneg hk u, pb_top hk h12 u⟩ : _ ∧ _))
    have hn4 := hv.1.2
    have hn1 := hv.1.1
    clear hv hk h12 h hc
    generalize (RW rows 0).length = m at *
    obtain ⟨zs, hzs⟩ : ∃ zs, zs = (List.range m).map (mpP rows) := ⟨_, rfl⟩
    have hzl : zs.length = m := by rw [hzs]; simp
    have HZA : Hid (∀ k, k < m → zs[k]? = some ((pb rows 0).1 - (pb rows (2 ^ k)).1)) := Lib.hid (fun k hk => by
      rw [hzs]
      simp [hk, mpP])
    rw [← hzs] at E1
    have HZL := Lib.hid hzl
    have H0 := HBD.out 0
    have HF0 : Hid (∀ w1, Below w.heap.size w w1 → Calls Try.prog 100 #[.slice (some ⟨b, off, none⟩) rows.length c, .int .i64 0] w1 (PtrIs w1 (prs rows (pb rows 0).2))) := Lib.hid (fun w1 b1 => HF.out 0 w1 (Nat.two_pow_pos _) b1)
    clear hzs hzl
    go_enter Try.func38, Try.ntmps38
    go_wp2_with fail
    refine HV.out.mono ?_
    rintro e w1 ⟨rfl, b1⟩
    go_wp2_with fail
    refine (HF0.out w1 b1).mono ?_
    rintro e w2 ⟨v2, rfl, hp2, b2⟩
    go_wp2_with fail
    refine (HS.out 0 v2 w2 hp2).mono ?_
    rintro e w3 ⟨rfl, n3, hw3⟩
    have HB3 : Hid (Below w.heap.size w w3) := Lib.hid (by rw [hw3]; exact below_drewN' (b1.trans (b2.mono b1.size)) n3)
    clear hw3
    have hcr := (HB3.out.cell (p := ⟨b, off, none⟩) (World.block_lt_of_cell? w _ HC.out)).trans HC.out
    clear b1 b2 hp2 HF0 HV
    have h1l : 1 ≤ rows.length := hn1
    generalize (pb rows 0).1 = s at *
    go_wp2_with (at_make; refine wpList_make_ints rfl _ _ rfl w.heap.size m rfl rfl (by omega) HB3.out.size ?_; intro w4 ho4 hb4)
    have HO4 : Hid (Own w4 w.heap.size (some ⟨w3.heap.size, 0, none⟩) m (filled zs 0)) := Lib.hid (by rw [filled_zero, HZL.out]; exact ho4)
    have HB4 : Hid (Below w.heap.size w w4) := Lib.hid (HB3.out.trans hb4)
    clear ho4 hb4
    go_loopw [19] (fun i wr => ∃ k : Nat, k ≤ m ∧ i = .int .i64 k ∧ Hid (Own wr w.heap.size (some ⟨w3.heap.size, 0, none⟩) m (filled zs k)) ∧ Hid (Below w.heap.size w wr)) (fun i _ => m - (intOf i).toNat)
    case atStart => exact ⟨0, Nat.zero_le _, rfl, HO4, HB4⟩
    case round =>
      obtain ⟨k, hk, rfl, HO, HB⟩ := hrel
      by_cases hlt : k < m
      · have hza := HZA.out k hlt
        have hbd := HBD.out (2 ^ k)
        have hpm : 2 ^ k < 2 ^ m := Nat.pow_lt_pow_right (by omega) hlt
        have HFW := Lib.hid (HF.out (2 ^ k) wr hpm HB.out)
        have HSW := Lib.hid (HS.out (2 ^ k))
        have hsh := sh_pow (k := k) (by omega)
        obtain ⟨p, hp⟩ : ∃ p, p = 2 ^ k := ⟨_, rfl⟩
        rw [← hp] at hza hbd HFW HSW hsh
        obtain ⟨y, js, hyj⟩ : ∃ y js, pb rows p = (y, js) := ⟨_, _, rfl⟩
        rw [hyj] at hza hbd HFW HSW
        simp only at hza hbd
        have hsy : IntKind.i64.wrap (s - y) = s - y := IntWalk.i64_in _ (by omega)
        have HZ := Lib.hid hza
        clear hp hyj hza hpm HF HS HBD
        go_wp2_with fail
        refine HFW.out.mono ?_
        rintro e w5 ⟨v5, rfl, hp5, b5⟩
        have HS5 := Lib.hid (HSW.out v5 w5 hp5)
        have HB5 := Lib.hid (HB.out.trans (b5.mono HB.out.size))
        have HO5 := Lib.hid (HO.out.below b5)
        clear b5 hp5 HSW HFW
        go_wp2_with fail
        refine HS5.out.mono ?_
        rintro e w6 ⟨rfl, n6, rfl⟩
        have HO6 := Lib.hid (HO5.out.drewN n6)
        have hcg : ∃ z, (w5.drewN n6).cell? ⟨w3.heap.size, k, none⟩ = some (.int .i64 z) := by
          have hy : (filled zs k)[k]? = some ((filled zs k)[k]'(by rw [filled_len zs k (by rw [HZL.out]; exact hk), HZL.out]; exact hlt)) := List.getElem?_eq_getElem _
          exact ⟨_, HO6.out.cell hy⟩
        obtain ⟨z, hcg⟩ := hcg
        have hfr := HO6.out.free k
        have HO' : Hid (Own ((w5.drewN n6).setCell ⟨w3.heap.size, k, none⟩ (.int .i64 (s - y))) w.heap.size (some ⟨w3.heap.size, 0, none⟩) m (filled zs (k + 1))) := Lib.hid (by have := HO6.out.set_ k (s - y); rwa [filled_set zs k _ HZ.out] at this)
        have HB' := Lib.hid ((below_drewN' HB5.out n6).setCell (p := ⟨w3.heap.size, k, none⟩) HO.out.ge (.int .i64 (s - y)))
        go_wp2
        go_roundw
        case rel => exact ⟨k + 1, hlt, by go_num, HO', HB'⟩
        case measure => simp [intOf]; omega
      · obtain rfl : k = m := by omega
        go_wp2
        go_ret
        rw [E1.out]
        have ho := HO.out
        rw [← HZL.out, filled_all] at ho
        exact ⟨some ⟨w3.heap.size, 0, none⟩, zs.length, by rw [HZL.out]; rfl, ho, HB.out⟩
  · rw [vr_false hv] at HV
    have E1 := Lib.hid (mp_no hv)
    go_enter Try.func38, Try.ntmps38
    go_wp2_with fail
    refine HV.out.mono ?_
    rintro e w1 ⟨rfl, b1⟩
    go_wp2
    go_ret
    rw [E1.out]
    exact ⟨none, 0, rfl, own_none _ _, b1⟩

theorem mpL_len (rows : List (List Int)) : (mpL rows).length ≤ 1000 := by
  by_cases h : VR rows
  · rw [mp_yes h]; simp; have := h.rk.2.2.2; omega
  · rw [mp_no h]; simp
theorem MostPairPrices_both (rows : List (List Int)) : ∃ zs : List Int, zs.length ≤ 1000 ∧ (rows.length ≤ 1099511627776 → (∀ r ∈ rows, r.length ≤ 1099511627776) →
    (∀ A c w, RdR w A c rows → Calls Try.prog 61 #[.slice A rows.length c] w (NewL w zs)) ∧
    (∀ A c w, RdR w A c rows → Calls Try.prog 38 #[.slice A rows.length c] w (NewL w zs))) :=
  ⟨mpL rows, mpL_len rows, fun hl hl2 => ⟨fun A c w h => SMostPairPrices_any A c rows w h hl hl2, fun A c w h => MostPairPrices_any A c rows w h hl hl2⟩⟩
end Go.Proofs.Ytkhpheebjkbihab

/-
  Chapter 8: PairPays of the model.
-/
namespace Go.Proofs.Ytkhpheebjkbihab
open Go.RowKit

set_option maxHeartbeats 1000000 in
theorem SpairWithout_any (b off c i n : Nat) (m : Nat) (ts : List (List Int)) (w : World) (hn : ts.length = n) (hR : RdR w (some ⟨b, off, none⟩) c ts) (hi : i < n) (hl : n ≤ 4) (hm : m ≤ 4) (hk : Rk m ts) (h12 : R12 ts) :
    Calls Try.prog 120 #[.slice (some ⟨b, off, none⟩) n c, .int .i64 i] w fun e w' => e = .returned (.int .i64 (pb (ts.eraseIdx i) 0).1) ∧ Below w.heap.size w w' := by
  have hel : (ts.eraseIdx i).length = n - 1 := by rw [List.length_eraseIdx, if_pos (by omega), hn]
  have HPW : Hid (∀ (A3 : Option Addr) (c3 : Nat) (w3 : World), RdR w3 A3 c3 (ts.eraseIdx i) → Calls Try.prog 118 #[.slice A3 (n - 1) c3, .int .i64 0, .int .i64 0] w3 (PwIs w3 (pb (ts.eraseIdx i) 0))) := Lib.hid (fun A3 c3 w3 h3 => by
    have := pairWorth_any A3 c3 m (ts.eraseIdx i) hm (rk_erase hk i) (fun r hr => h12 r (List.mem_of_mem_eraseIdx hr)) (by omega) (ts.eraseIdx i).length 0 0 w3 (by omega) (by omega) h3
    rw [hel] at this
    exact this)
  have HEL := Lib.hid hel
  clear hk h12 hel
  obtain ⟨vs, hvs, hcell⟩ := hR.vals
  have hb0 : Below w.heap.size w (w.drew.alloc (.cells #[] 27)) := (below_drewN' (Below.refl w.heap.size w) 1).alloc (Nat.le_refl _) (.cells #[] 27)
  have hvl : vs.length = n := by rw [hvs.1, hn]
  have hc : n ≤ c := by rw [← hn]; exact hR.1
  have HV := Lib.hid hvs
  have HC := Lib.hid (fun (w1 : World) (hb : Below w.heap.size w w1) (k : Nat) (v : Value) (h : vs[k]? = some v) => (hb.cell (p := ⟨b, off + k, none⟩) (World.block_lt_of_cell? w _ (hcell k v h))).trans (hcell k v h))
  have hone := hvs.oneCell
  have HO := Lib.hid hone
  have ho := row_empty w.drew
  have hwi : IntKind.i64.wrap ((i : Int) + 1) = ((i + 1 : Nat) : Int) := IntWalk.i64_in _ (by omega)
  have hi1 : i + 1 ≤ n := hi
  have hic : i ≤ c := by omega
  have hi1c : i + 1 ≤ c := by omega
  clear hR hvs hcell hone
  have hadd : ∀ o j, (⟨b, o, none⟩ : Addr).add j = ⟨b, o + j, none⟩ := fun o j => by unfold Addr.add; split <;> simp_all
  have HAD := Lib.hid hadd
  have hb1 : Below w.heap.size w (w.alloc (.cells #[] 27)).drew := below_drewN' ((Below.refl w.heap.size w).alloc (Nat.le_refl _) (.cells #[] 27)) 1
  have HO1 : Hid ((w.alloc (.cells #[] 27)).drew.ownsRow w.heap.size 27 1 (.slice (some ⟨w.heap.size, 0, none⟩) 0 0) 0 []) := Lib.hid (row_empty w)
  have HN1 : Hid (∀ (W : World), Below w.heap.size w W → ∀ j u, (vs.take i)[j]? = some u → W.cell? ((⟨b, off, none⟩ : Addr).add j) = some u) := Lib.hid (fun W hW j u hu => by
    rw [HAD.out]; refine HC.out W hW j u ?_
    rw [List.getElem?_take] at hu; split at hu
    · exact hu
    · cases hu)
  have HN2 : Hid (∀ (W : World), Below w.heap.size w W → ∀ j u, (vs.drop (i + 1))[j]? = some u → W.cell? ((⟨b, off + (i + 1), none⟩ : Addr).add j) = some u) := Lib.hid (fun W hW j u hu => by
    rw [HAD.out, Nat.add_assoc]; refine HC.out W hW _ u ?_
    rw [List.getElem?_drop] at hu
    exact hu)
  have HTL : Hid ((vs.take i).length = i) := Lib.hid (by rw [List.length_take]; omega)
  have HDL : Hid ((vs.drop (i + 1)).length = n - (i + 1)) := Lib.hid (by rw [List.length_drop]; omega)
  have HT1 : Hid (∀ u ∈ vs.take i, u.oneCell' = true) := Lib.hid (fun u hu => HO.out u (List.mem_of_mem_take hu))
  have HT2 : Hid (∀ u ∈ vs.drop (i + 1), u.oneCell' = true) := Lib.hid (fun u hu => HO.out u (List.mem_of_mem_drop hu))
  have HEC : Hid (vs.take i ++ vs.drop (i + 1) = vs.eraseIdx i) := Lib.hid (erase_cut vs i)
  clear hadd
  by_cases hci : c = i + 1
  · subst hci
    obtain rfl : n = i + 1 := by omega
    have HT3 : Hid (vs.take i = vs.eraseIdx i) := Lib.hid (by
      rw [← HEC.out, List.drop_eq_nil_of_le (by omega), List.append_nil])
    have hi0 : i + 1 - (i + 1) = 0 := by omega
    have q1 : (i : Int) ≤ (i : Int) + 1 := by omega
    have q2 : (0 : Int) ≤ (i : Int) + 1 := by omega
    clear HN2 HDL HT2 HEC
    go_enter Try.func120, Try.ntmps120
    go_wp2_with fail
    go_region_law (first
      | (refine step_append_rows rfl _ _ rfl w.heap.size w.heap.size 0 0 [] rfl HO1.out ⟨b, off, none⟩ _ i (vs.take i) rfl HTL.out (HN1.out _ hb1) HT1.out i (by omega) (by omega) hb1.size ?_; intro g2 c2 w2 o2 g2'; have B2 : Below w.heap.size w w2 := hb1.grown g2' hb1.size (fun k e => by cases e; exact Nat.le_refl _); rw [List.nil_append] at o2)
      | (refine step_append_rows rfl _ _ rfl w.heap.size g2 c2 i (vs.take i) rfl o2 ⟨b, off, none⟩ _ 0 [] rfl rfl (fun j u hu => by simp at hu) (fun u hu => by simp at hu) i (by omega) (by omega) B2.size ?_; intro g3 c3 w3 o3 g3'; have B3 : Below w.heap.size w w3 := B2.grown g3' B2.size (fun k e => by cases e; exact (World.ownsRow.lt o2 g2 rfl).1); rw [List.append_nil, HT3.out] at o3))
    have hR3 : RdR w3 (some ⟨g3, 0, none⟩) c3 (ts.eraseIdx i) := CopyIs.shape_ o3 (HV.out.erase i) HEL.out B3
    have HPC := Lib.hid (HPW.out (some ⟨g3, 0, none⟩) c3 w3 hR3)
    rw [show i + 1 - 1 = i by omega] at HPC
    clear HPW hR3
    go_wp2_with fail
    refine HPC.out.mono ?_
    rintro e w5 ⟨A5, c5, rfl, _, b5⟩
    have B5 := B3.trans (b5.mono B3.size)
    clear b5
    go_wp2
    go_ret
    exact ⟨rfl, B5⟩
  · have q2 : (0 : Int) ≤ (i : Int) + 1 := by omega
    have q3 : (i : Int) + 1 ≤ (n : Int) := by omega
    go_enter Try.func120, Try.ntmps120
    go_wp2_with fail
    go_region_law (first
      | (refine step_append_rows rfl _ _ rfl w.heap.size w.heap.size 0 0 [] rfl HO1.out ⟨b, off, none⟩ _ i (vs.take i) rfl HTL.out (HN1.out _ hb1) HT1.out i (by omega) (by omega) hb1.size ?_; intro g2 c2 w2 o2 g2'; have B2 : Below w.heap.size w w2 := hb1.grown g2' hb1.size (fun k e => by cases e; exact Nat.le_refl _); rw [List.nil_append] at o2)
      | (refine step_append_rows rfl _ _ rfl w.heap.size g2 c2 i (vs.take i) rfl o2 ⟨b, off + (i + 1), none⟩ _ (n - (i + 1)) (vs.drop (i + 1)) rfl HDL.out (HN2.out _ B2) HT2.out (n - 1) (by omega) (by omega) B2.size ?_; intro g3 c3 w3 o3 g3'; have B3 : Below w.heap.size w w3 := B2.grown g3' B2.size (fun k e => by cases e; exact (World.ownsRow.lt o2 g2 rfl).1); rw [HEC.out] at o3))
    have hR3 : RdR w3 (some ⟨g3, 0, none⟩) c3 (ts.eraseIdx i) := CopyIs.shape_ o3 (HV.out.erase i) HEL.out B3
    have HPC := Lib.hid (HPW.out (some ⟨g3, 0, none⟩) c3 w3 hR3)
    clear HPW hR3
    go_wp2_with fail
    refine HPC.out.mono ?_
    rintro e w5 ⟨A5, c5, rfl, _, b5⟩
    have B5 := B3.trans (b5.mono B3.size)
    clear b5
    go_wp2
    go_ret
    exact ⟨rfl, B5⟩

open Classical in
/-- What all pay for pairs, nil for others. -/
noncomputable def ppL (rows : List (List Int)) : List Int := if VR rows then vls (ppF rows) rows.length else []
theorem pp_yes {rows : List (List Int)} (h : VR rows) : ppL rows = vls (ppF rows) rows.length := by simp [ppL, h]
theorem pp_no {rows : List (List Int)} (h : ¬ VR rows) : ppL rows = [] := by simp [ppL, h]
end Go.Proofs.Ytkhpheebjkbihab
