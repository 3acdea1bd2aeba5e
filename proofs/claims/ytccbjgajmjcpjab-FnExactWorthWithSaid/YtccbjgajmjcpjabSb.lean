/-
  Chapter 9, plain: sets of bidders that add less to more, the core, and the pivots in it.
-/
import Derived.Test.YtccbjgajmjcpjabSa
namespace Go.Proofs.Ytccbjgajmjcpjab

/-- More bidders add less to more. -/
def Nes (f : Nat → Int) (n : Nat) : Prop := ∀ a, a < 2 ^ n → ∀ b, b < 2 ^ n → f (a ||| b) + f (a &&& b) ≤ f a + f b

/-- Two one by one. -/
def Two (f : Nat → Int) : Prop := ∀ S i j, S / 2 ^ i % 2 = 0 → (S + 2 ^ i) / 2 ^ j % 2 = 0 → S / 2 ^ j % 2 = 0 → f (S + 2 ^ i + 2 ^ j) + f S ≤ f (S + 2 ^ i) + f (S + 2 ^ j)

/-- The set a with the things of b below k. -/
def mxS (a b k : Nat) : Nat := a ||| (b % 2 ^ k)
set_option maxRecDepth 100000 in
theorem mxS_step : ∀ a, a < 16 → ∀ b, b < 16 → ∀ k, k < 4 → (mxS a b (k + 1) = mxS a b k ∨ (mxS a b (k + 1) = mxS a b k + 2 ^ k ∧ mxS a b k / 2 ^ k % 2 = 0 ∧ b / 2 ^ k % 2 = 1 ∧ a / 2 ^ k % 2 = 0)) := by decide +kernel
theorem mxS_zero (a b : Nat) : mxS a b 0 = a := by simp [mxS, Nat.mod_one]
set_option maxRecDepth 100000 in
theorem mxS_four : ∀ a, a < 16 → ∀ b, b < 16 → mxS a b 4 = a ||| b := by decide +kernel
set_option maxRecDepth 100000 in
theorem mxS_off0 : ∀ a, a < 16 → ∀ b, b < 16 → ∀ c, c < 20 → (¬ (a / 2 ^ (c % 4) % 2 = 0 ∧ b / 2 ^ (c % 4) % 2 = 0) ∨ mxS a b (c / 4) / 2 ^ (c % 4) % 2 = 0) := by decide +kernel
theorem mxS_off (a : Nat) (ha : a < 16) (b : Nat) (hb : b < 16) (k : Nat) (hk : k < 5) (i : Nat) (hi : i < 4) : ¬ (a / 2 ^ i % 2 = 0 ∧ b / 2 ^ i % 2 = 0) ∨ mxS a b k / 2 ^ i % 2 = 0 := by
  have := mxS_off0 a ha b hb (k * 4 + i) (by omega)
  rwa [show (k * 4 + i) % 4 = i by omega, show (k * 4 + i) / 4 = k by omega] at this
set_option maxRecDepth 100000 in
theorem two_off : ∀ i, i < 4 → ∀ k, k < 4 → ∀ S, S < 16 → (¬ (i ≠ k ∧ S / 2 ^ i % 2 = 0 ∧ S / 2 ^ k % 2 = 0) ∨ (S + 2 ^ k) / 2 ^ i % 2 = 0) := by decide +kernel
set_option maxRecDepth 100000 in
theorem mxS_lt : ∀ a, a < 16 → ∀ b, b < 16 → ∀ k, k < 5 → mxS a b k < 16 := by decide +kernel
/-- What one adds, to less and to more. -/
theorem add_less {f : Nat → Int} (h : Two f) {a b i : Nat} (ha : a < 16) (hb : b < 16) (hi : i < 4) (za : a / 2 ^ i % 2 = 0) (zb : b / 2 ^ i % 2 = 0) : f ((a ||| b) + 2 ^ i) + f a ≤ f (a ||| b) + f (a + 2 ^ i) := by
  have key : ∀ k, k ≤ 4 → f (mxS a b k + 2 ^ i) + f a ≤ f (mxS a b k) + f (a + 2 ^ i) := by
    intro k
    induction k with
    | zero => intro _; rw [mxS_zero]; omega
    | succ k ih =>
      intro hk
      have ih := ih (by omega)
      rcases mxS_step a ha b hb k (by omega) with e | ⟨e, e1, e2, e3⟩
      · rw [e]; exact ih
      · have hne : i ≠ k := by rintro rfl; omega
        have o1 := (mxS_off a ha b hb k (by omega) i hi).resolve_left (fun h => h ⟨za, zb⟩)
        have o2 := (two_off i hi k (by omega) _ (mxS_lt a ha b hb k (by omega))).resolve_left (fun h => h ⟨hne, o1, e1⟩)
        have t := h (mxS a b k) k i e1 o2 o1
        rw [e]; omega
  have := key 4 (by omega)
  rwa [mxS_four a ha b hb] at this
set_option maxRecDepth 100000 in
theorem bits_in : ∀ a, a < 16 → ∀ b, b < 16 → ∀ k, k < 5 → a ||| mxS (a &&& b) b k = mxS a b k ∧ mxS (a &&& b) b k < 16 := by decide +kernel
set_option maxRecDepth 100000 in
theorem mxS_both : ∀ a, a < 16 → ∀ b, b < 16 → ∀ k, k < 4 → (¬ (a / 2 ^ k % 2 = 0 ∧ b / 2 ^ k % 2 = 1) ∨ (mxS (a &&& b) b (k + 1) = mxS (a &&& b) b k + 2 ^ k ∧ mxS (a &&& b) b k / 2 ^ k % 2 = 0 ∧ mxS (a &&& b) b k ||| mxS a b k = mxS a b k)) := by decide +kernel
set_option maxRecDepth 100000 in
theorem mxS_same : ∀ a, a < 16 → ∀ b, b < 16 → ∀ k, k < 4 → ¬ (a / 2 ^ k % 2 = 0 ∧ b / 2 ^ k % 2 = 1) → mxS (a &&& b) b (k + 1) = mxS (a &&& b) b k ∧ mxS a b (k + 1) = mxS a b k := by decide +kernel
set_option maxRecDepth 100000 in
theorem mxS_end : ∀ a, a < 16 → ∀ b, b < 16 → mxS (a &&& b) b 4 = b := by decide +kernel
theorem nes_of {f : Nat → Int} (h : Two f) {n : Nat} (hn : n ≤ 4) : Nes f n := by
  intro a ha b hb
  have h16 : 2 ^ n ≤ 16 := Nat.pow_le_pow_right (n := 2) (by omega) hn
  have ha : a < 16 := by omega
  have hb : b < 16 := by omega
  have key : ∀ k, k ≤ 4 → f (mxS a b k) + f (a &&& b) ≤ f a + f (mxS (a &&& b) b k) := by
    intro k
    induction k with
    | zero => intro _; rw [mxS_zero, mxS_zero]; omega
    | succ k ih =>
      intro hk
      have ih := ih (by omega)
      by_cases hc : a / 2 ^ k % 2 = 0 ∧ b / 2 ^ k % 2 = 1
      · obtain ⟨e1, e2, e3⟩ := (mxS_both a ha b hb k (by omega)).resolve_left (fun h => h hc)
        rcases mxS_step a ha b hb k (by omega) with e | ⟨e, q1, _, _⟩
        · exfalso
          have := mxS_step a ha b hb k (by omega)
          have hx : ∀ a, a < 16 → ∀ b, b < 16 → ∀ k, k < 4 → (¬ (a / 2 ^ k % 2 = 0 ∧ b / 2 ^ k % 2 = 1) ∨ ¬ mxS a b (k + 1) = mxS a b k) := by decide +kernel
          exact (hx a ha b hb k (by omega)).resolve_left (fun h => h hc) e
        · have t := add_less h (bits_in a ha b hb k (by omega)).2 (mxS_lt a ha b hb k (by omega)) (by omega : k < 4) e2 q1
          rw [e3] at t
          rw [e, e1]; omega
      · obtain ⟨e1, e2⟩ := mxS_same a ha b hb k (by omega) hc
        rw [e1, e2]; exact ih
  have := key 4 (by omega)
  rw [mxS_four a ha b hb, mxS_end a ha b hb] at this
  omega
/-- Where things may be moved more bidders add less to more. -/
theorem nes_ww {ts : List (List Int)} (h : ∀ t ∈ ts, VT t ∧ Mo (T t)) (h4 : ts.length ≤ 4) : Nes (ww ts) ts.length :=
  nes_of (fun _ _ _ h1 h2 h3 => ww_two h h1 h2 h3) h4

/-- What the bidders of a set have and the others pay, of the first k. -/
def hv (o p : Nat → Int) (S : Nat) : Nat → Int
  | 0 => 0
  | k + 1 => hv o p S k + (if S / 2 ^ k % 2 = 1 then o k else p k)
/-- The sum of the first k. -/
def smF (p : Nat → Int) : Nat → Int
  | 0 => 0
  | k + 1 => smF p k + p k
theorem hv_zero (o p : Nat → Int) : ∀ k, hv o p 0 k = smF p k
  | 0 => rfl
  | k + 1 => by simp only [hv, smF, hv_zero o p k, Nat.zero_div]; rw [if_neg (by decide)]
theorem hv_same (o : Nat → Int) (S : Nat) : ∀ k, hv o o S k = smF o k
  | 0 => rfl
  | k + 1 => by simp only [hv, smF, hv_same o S k]; split <;> rfl
theorem hv_congr {o o' p p' : Nat → Int} {S : Nat} : ∀ {k : Nat}, (∀ i, i < k → o i = o' i) → (∀ i, i < k → p i = p' i) → hv o p S k = hv o' p' S k
  | 0, _, _ => rfl
  | k + 1, h1, h2 => by
    simp only [hv, hv_congr (k := k) (fun i hi => h1 i (by omega)) (fun i hi => h2 i (by omega)), h1 k (by omega), h2 k (by omega)]
theorem smF_congr {p p' : Nat → Int} : ∀ {k : Nat}, (∀ i, i < k → p i = p' i) → smF p k = smF p' k
  | 0, _ => rfl
  | k + 1, h => by simp only [smF, smF_congr (k := k) (fun i hi => h i (by omega)), h k (by omega)]
theorem smF_le {p p' : Nat → Int} : ∀ {k : Nat}, (∀ i, i < k → p i ≤ p' i) → smF p k ≤ smF p' k
  | 0, _ => by simp [smF]
  | k + 1, h => by
    have := smF_le (k := k) (fun i hi => h i (by omega))
    have := h k (by omega)
    simp only [smF]; omega
theorem smF_eq {p p' : Nat → Int} : ∀ {k : Nat}, (∀ i, i < k → p i ≤ p' i) → smF p' k ≤ smF p k → ∀ i, i < k → p i = p' i
  | 0, _, _, i, hi => by omega
  | k + 1, h, hs, i, hi => by
    have h1 := smF_le (k := k) (fun i hi => h i (by omega))
    have h2 := h k (by omega)
    simp only [smF] at hs
    rcases Nat.lt_or_ge i k with hk | hk
    · exact smF_eq (k := k) (fun i hi => h i (by omega)) (by omega) i hk
    · have : i = k := by omega
      subst this; omega
theorem smF_bd {p : Nat → Int} {M : Int} : ∀ {k : Nat}, (∀ i, i < k → 0 ≤ p i ∧ p i ≤ M) → 0 ≤ smF p k ∧ smF p k ≤ M * k
  | 0, _ => by simp [smF]
  | k + 1, h => by
    have h1 := smF_bd (k := k) (fun i hi => h i (by omega))
    have h2 := h k (by omega)
    simp only [smF]
    rw [show M * ((k + 1 : Nat) : Int) = M * k + M by rw [Int.natCast_add, Int.mul_add]; simp]
    omega
theorem hv_bd {o p : Nat → Int} {M : Int} (S : Nat) : ∀ {k : Nat}, (∀ i, i < k → 0 ≤ o i ∧ o i ≤ M) → (∀ i, i < k → 0 ≤ p i ∧ p i ≤ M) → 0 ≤ hv o p S k ∧ hv o p S k ≤ M * k
  | 0, _, _ => by simp [hv]
  | k + 1, h, g => by
    have h1 := hv_bd S (k := k) (fun i hi => h i (by omega)) (fun i hi => g i (by omega))
    have h2 := h k (by omega)
    have h3 := g k (by omega)
    simp only [hv]
    rw [show M * ((k + 1 : Nat) : Int) = M * k + M by rw [Int.natCast_add, Int.mul_add]; simp]
    split <;> omega
set_option maxRecDepth 100000 in
theorem but_bits : ∀ n, n < 5 → ∀ i, i < n → ∀ k, k < n → ((2 ^ n - 1 - 2 ^ i) / 2 ^ k % 2 = if k = i then 0 else 1) ∧ 2 ^ n - 1 - 2 ^ i < 2 ^ n := by decide +kernel
theorem hv_but (o p : Nat → Int) {n i : Nat} (hn : n ≤ 4) (hi : i < n) : ∀ k, k ≤ n → hv o p (2 ^ n - 1 - 2 ^ i) k = smF o k + (if i < k then p i - o i else 0)
  | 0, _ => by simp [hv, smF]
  | k + 1, hk => by
    have ih := hv_but o p hn hi k (by omega)
    have hb := (but_bits n (by omega) i hi k (by omega)).1
    simp only [hv, smF, ih, hb]
    by_cases h1 : k = i
    · subst h1
      simp; omega
    · rw [if_neg h1, if_pos rfl]
      by_cases h2 : i < k
      · rw [if_pos h2, if_pos (by omega)]; omega
      · rw [if_neg h2, if_neg (by omega)]; omega

/-- What bidder i has of the best split. -/
noncomputable def ow (ts : List (List Int)) (i : Nat) : Int := T (ts.getD i []) (setOf (wayF ts) i)
theorem ow_sum {ts : List (List Int)} (hv : ∀ t ∈ ts, VT t) (hn : ts.length ≤ 4) : smF (ow ts) ts.length = sv ts 7 := by
  have h := hasTo_is (ts := ts) (wayF ts) ts.length (Nat.le_refl _)
  rw [List.take_length, wayF_worth (VTs.zeros hv) hn] at h
  rw [← h]
  have : ∀ k, smF (ow ts) k = hasTo ts (wayF ts) k := by
    intro k
    induction k with
    | zero => rfl
    | succ k ih => simp only [smF, hasTo, ih]; rfl
  exact this _
theorem ow_bd {ts : List (List Int)} (hv : ∀ t ∈ ts, VT t) {i : Nat} (h : i < ts.length) : 0 ≤ ow ts i ∧ ow ts i ≤ 30 := (hv _ (getD_mem h)).bd (setOf_lt (wayF ts) i)

/-- Payments in the core. -/
def InC (ts : List (List Int)) (p : Nat → Int) : Prop := (∀ i, i < ts.length → p i ≤ ow ts i) ∧ ∀ S, S < 2 ^ ts.length → ww ts S ≤ hv (ow ts) p S ts.length
theorem InC.congr {ts : List (List Int)} {p q : Nat → Int} (h : ∀ i, i < ts.length → p i = q i) (hp : InC ts p) : InC ts q :=
  ⟨fun i hi => by rw [← h i hi]; exact hp.1 i hi, fun S hS => by rw [← hv_congr (fun _ _ => rfl) h]; exact hp.2 S hS⟩

theorem got_sublist {l l' : List (List Int)} (h : l.Sublist l') : (∀ t ∈ l', T t 0 = 0) → ∀ {X : Nat} {v : Int}, Got l X v → Got l' X v := by
  induction h with
  | slnil => intro _ X v h; exact h
  | cons t _ ih =>
    intro hz X v h
    exact ⟨0, sub_zero X, v, by simpa using ih (fun t ht => hz t (List.mem_cons_of_mem _ ht)) h, by rw [hz t (by simp)]; omega⟩
  | cons_cons t _ ih =>
    rintro hz X v ⟨s, hs, u, hu, rfl⟩
    exact ⟨s, hs, u, ih (fun t ht => hz t (List.mem_cons_of_mem _ ht)) hu, rfl⟩
theorem ww_le {ts : List (List Int)} (hz : ∀ t ∈ ts, T t 0 = 0) (S : Nat) : ww ts S ≤ sv ts 7 :=
  got_le (got_sublist (ch_sub ts S) hz (got_sv (fun t ht => hz t (ch_mem ht)) 7))
/-- In the core all pay at least their pivots. -/
theorem inC_pivots {ts : List (List Int)} {p : Nat → Int} (hv : ∀ t ∈ ts, VT t) (hn : ts.length ≤ 4) (h : InC ts p) {i : Nat} (hi : i < ts.length) : pvF ts i ≤ p i := by
  have h1 := h.2 (2 ^ ts.length - 1 - 2 ^ i) (but_bits ts.length (by omega) i hi 0 (by omega)).2
  rw [ww_but hi, hv_but _ _ hn hi _ (Nat.le_refl _), if_pos hi, ow_sum hv hn] at h1
  unfold pvF
  rw [wayF_worth (VTs.zeros hv) hn]
  unfold ow at h1
  omega
/-- What the own sets are worth is in the core. -/
theorem inC_own {ts : List (List Int)} (hv : ∀ t ∈ ts, VT t) (hn : ts.length ≤ 4) : InC ts (ow ts) :=
  ⟨fun i _ => Int.le_refl _, fun S _ => by rw [hv_same, ow_sum hv hn]; exact ww_le (VTs.zeros hv) S⟩

/-- The set S with all from k on. -/
def rsS (n S k : Nat) : Nat := S % 2 ^ k + (2 ^ n - 2 ^ k)
set_option maxRecDepth 100000 in
theorem rsS_step : ∀ n, n < 5 → ∀ S, S < 2 ^ n → ∀ k, k < n → (if S / 2 ^ k % 2 = 1 then rsS n S (k + 1) = rsS n S k else
    rsS n S k ||| (2 ^ n - 1 - 2 ^ k) = 2 ^ n - 1 ∧ rsS n S k &&& (2 ^ n - 1 - 2 ^ k) = rsS n S (k + 1)) ∧ rsS n S k < 2 ^ n := by decide +kernel
/-- Where more bidders add less to more the pivots are in the core. -/
theorem nes_pivots {ts : List (List Int)} (hv : ∀ t ∈ ts, VT t) (hn : ts.length ≤ 4) (h : Nes (ww ts) ts.length) : InC ts (pvF ts) := by
  refine ⟨fun i hi => pv_le hv hn hi, fun S hS => ?_⟩
  have key : ∀ k, k ≤ ts.length → ww ts (rsS ts.length S k) ≤ sv ts 7 - smF (ow ts) k + Go.Proofs.Ytccbjgajmjcpjab.hv (ow ts) (pvF ts) S k := by
    intro k
    induction k with
    | zero =>
      intro _
      have e : rsS ts.length S 0 = 2 ^ ts.length - 1 := by simp [rsS, Nat.mod_one]
      rw [e, ww_all]; simp [smF, Go.Proofs.Ytccbjgajmjcpjab.hv]
    | succ k ih =>
      intro hk
      have ih := ih (by omega)
      obtain ⟨h1, h2⟩ := rsS_step ts.length (by omega) S hS k (by omega)
      simp only [smF, Go.Proofs.Ytccbjgajmjcpjab.hv]
      by_cases hb : S / 2 ^ k % 2 = 1
      · rw [if_pos hb] at h1 ⊢
        rw [h1]; omega
      · rw [if_neg hb] at h1 ⊢
        have h3 := h _ h2 (2 ^ ts.length - 1 - 2 ^ k) (but_bits ts.length (by omega) k (by omega) 0 (by omega)).2
        rw [h1.1, h1.2, ww_all, ww_but (by omega)] at h3
        have h4 := truth_has hv hn k
        unfold adF at h4
        have h5 : ow ts k = T (ts.getD k []) (setOf (wayF ts) k) := rfl
        omega
  have h1 := key ts.length (Nat.le_refl _)
  have e : rsS ts.length S ts.length = S := by simp [rsS, Nat.mod_eq_of_lt hS]
  rw [e, ow_sum hv hn] at h1
  omega

end Go.Proofs.Ytccbjgajmjcpjab
