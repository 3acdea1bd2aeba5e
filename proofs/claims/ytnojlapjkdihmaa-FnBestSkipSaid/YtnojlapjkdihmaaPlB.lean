/-
  Chapter 1 in plain arithmetic: when a bidder has the thing, and what second asks then.
-/
import Derived.Test.YtnojlapjkdihmaaLawsA
namespace Go.Proofs.Ytnojlapjkdihmaa

theorem findF_some {p : Nat → Bool} : ∀ (n k m : Nat), findF p n k = some m → p m = true ∧ k ≤ m ∧ m < k + n ∧ ∀ b, k ≤ b → b < m → p b = false
  | 0, k, m, h => by simp [findF] at h
  | n + 1, k, m, h => by
    rw [findF] at h
    split at h
    · rename_i hp
      have := Option.some.inj h
      subst this
      exact ⟨hp, Nat.le_refl _, by omega, fun b h1 h2 => by omega⟩
    · rename_i hp
      obtain ⟨h1, h2, h3, h4⟩ := findF_some n (k + 1) m h
      refine ⟨h1, by omega, by omega, fun b hb1 hb2 => ?_⟩
      rcases Nat.lt_or_ge k b with hkb | hkb
      · exact h4 b (by omega) hb2
      · obtain rfl : b = k := by omega
        simpa using hp

theorem gr_iff {xs : List Int} {i : Nat} {x : Int} (hx : xs[i]? = some x) :
    gr xs xs.length = i ↔ (∀ j y, j < i → xs[j]? = some y → y < x) ∧ (∀ (j : Nat) y, xs[j]? = some y → y ≤ x) := by
  have hi := (List.getElem?_eq_some_iff.1 hx).1
  have hg := gr_lt xs xs.length (by omega)
  obtain ⟨z, hz⟩ : ∃ z, xs[gr xs xs.length]? = some z := ⟨_, List.getElem?_eq_getElem hg⟩
  constructor
  · intro h
    rw [h, hx] at hz
    have hz := Option.some.inj hz
    refine ⟨fun j y hj hy => ?_, fun j y hy => ?_⟩
    · have := gr_first xs xs.length j (by rw [h]; exact hj)
      rw [h, getD_of hx, getD_of hy] at this
      exact this
    · exact gr_ge hy (by rw [h]; exact hx)
  · rintro ⟨h1, h2⟩
    rcases Nat.lt_trichotomy (gr xs xs.length) i with h | h | h
    · have h3 := h1 _ z h hz
      have h4 := gr_ge hx hz
      omega
    · exact h
    · have h3 := gr_first xs xs.length i h
      rw [getD_of hx, getD_of hz] at h3
      have h4 := h2 _ z hz
      omega

/-- The bidder i has the thing: of the greatest bids the first, and at least the reserve. -/
theorem at_iff {xs : List Int} {i : Nat} {x r : Int} (hx : xs[i]? = some x) :
    atOf xs r = i ↔ r ≤ x ∧ (∀ j y, j < i → xs[j]? = some y → y < x) ∧ (∀ (j : Nat) y, xs[j]? = some y → y ≤ x) := by
  have hi := (List.getElem?_eq_some_iff.1 hx).1
  have hg := gr_lt xs xs.length (by omega)
  rw [← gr_iff hx]
  by_cases hlt : xs.getD (gr xs xs.length) 0 < r
  · rw [atOf_none hlt]
    constructor
    · intro h; omega
    · rintro ⟨h1, h2⟩
      rw [h2, getD_of hx] at hlt
      omega
  · rw [atOf_some hlt]
    constructor
    · intro h
      have h' : gr xs xs.length = i := by omega
      rw [h', getD_of hx] at hlt
      exact ⟨by omega, h'⟩
    · rintro ⟨_, h⟩; rw [h]

theorem set_at {xs : List Int} {i : Nat} (hi : i < xs.length) (b : Int) : (xs.set i b)[i]? = some b := by simp [hi]
theorem set_other {xs : List Int} {i j : Nat} (h : j ≠ i) (b : Int) : (xs.set i b)[j]? = xs[j]? := by
  rw [List.getElem?_set]; rw [if_neg (fun e => h e.symm)]

/-- The greatest bid of the others. -/
def othersMax (xs : List Int) (i : Nat) : Int := nthG 0 (xs.eraseIdx i)

theorem others_ge {xs : List Int} {i j : Nat} {y : Int} (hj : j ≠ i) (hy : xs[j]? = some y) : y ≤ othersMax xs i := by
  have hl := (List.getElem?_eq_some_iff.1 hy).1
  have hm : y ∈ xs.eraseIdx i := by
    rcases Nat.lt_or_ge j i with h | h
    · exact List.mem_of_getElem? (i := j) (by rw [List.getElem?_eraseIdx, if_pos h]; exact hy)
    · exact List.mem_of_getElem? (i := j - 1) (by rw [List.getElem?_eraseIdx, if_neg (by omega), show j - 1 + 1 = j by omega]; exact hy)
  obtain ⟨k, hk, he⟩ := List.getElem_of_mem hm
  have := gr_max (xs.eraseIdx i) _ k hk
  rw [List.getD_eq_getElem?_getD, List.getElem?_eq_getElem hk, he] at this
  unfold othersMax
  rw [nthG_zero]
  exact this

theorem others_le {xs : List Int} {i : Nat} {M : Int} (h0 : 0 ≤ M) (h : ∀ (j : Nat) y, j ≠ i → xs[j]? = some y → y ≤ M) : othersMax xs i ≤ M := by
  refine nth_le 0 _ M h0 (fun y hy => ?_)
  obtain ⟨k, hk, he⟩ := List.getElem_of_mem hy
  have hk' : (xs.eraseIdx i)[k]? = some y := by rw [List.getElem?_eq_getElem hk, he]
  rw [List.getElem?_eraseIdx] at hk'
  split at hk'
  · exact h k y (by omega) hk'
  · exact h (k + 1) y (by omega) hk'

/-- What the bidder who has the thing pays by second. -/
theorem pay_second {xs : List Int} {i : Nat} {r : Int} (hi : i < xs.length) (h : atOf xs r = i) : (payOf 2 xs r)[i]? = some (max r (othersMax xs i)) := by
  obtain ⟨x, hx⟩ := at_some hi
  have hw := (at_iff hx).1 h
  have hg := (gr_iff hx).2 hw.2
  rw [payOf_some (by decide) (by rw [hg, getD_of hx]; omega), hg, List.getElem?_set, if_pos rfl, if_pos (by simpa using hi), show 2 - 1 = 0 + 1 from rfl, nthG_succ, hg]
  rfl

theorem others_set (xs : List Int) (i : Nat) (b : Int) : othersMax (xs.set i b) i = othersMax xs i := by
  unfold othersMax; rw [List.eraseIdx_set_eq]

theorem win_iff {xs : List Int} {i : Nat} {r b : Int} (hi : i < xs.length) :
    atOf (xs.set i b) r = i ↔ r ≤ b ∧ (∀ j y, j < i → xs[j]? = some y → y < b) ∧ (∀ (j : Nat) y, j ≠ i → xs[j]? = some y → y ≤ b) := by
  rw [at_iff (set_at hi b)]
  constructor
  · rintro ⟨h1, h2, h3⟩
    exact ⟨h1, fun j y hj hy => h2 j y hj (by rw [set_other (by omega)]; exact hy), fun j y hj hy => h3 j y (by rw [set_other hj]; exact hy)⟩
  · rintro ⟨h1, h2, h3⟩
    refine ⟨h1, fun j y hj hy => h2 j y hj (by rw [set_other (by omega)] at hy; exact hy), fun j y hy => ?_⟩
    by_cases hj : j = i
    · subst hj; rw [set_at hi] at hy; have := Option.some.inj hy; omega
    · rw [set_other hj] at hy; exact h3 j y hj hy

theorem win_up {xs : List Int} {i : Nat} {r b b' : Int} (hi : i < xs.length) (h : atOf (xs.set i b) r = i) (hb : b ≤ b') : atOf (xs.set i b') r = i := by
  rw [win_iff hi] at h ⊢
  exact ⟨by omega, fun j y hj hy => by have := h.2.1 j y hj hy; omega, fun j y hj hy => by have := h.2.2 j y hj hy; omega⟩

/-- What second asks of the one who has it is the least bid, or one less. -/
theorem least_price {xs : List Int} {i out : Nat} {r : Int} (hi : i < xs.length) (hr0 : 0 ≤ r) (h : leastF xs i r = some out) :
    max r (othersMax xs i) ≤ out ∧ (out : Int) - 1 ≤ max r (othersMax xs i) := by
  obtain ⟨h1, h2, h3, h4⟩ := findF_some 31 0 out h
  unfold winB at h1 h4
  have hw := (win_iff hi).1 (of_decide_eq_true h1)
  have hM : othersMax xs i ≤ out := others_le (by omega) hw.2.2
  refine ⟨by omega, ?_⟩
  have hp : 0 ≤ max r (othersMax xs i) := by omega
  obtain ⟨p, hpe⟩ := Int.eq_ofNat_of_zero_le hp
  rw [hpe]
  by_cases hlt : p + 1 < out
  · have := h4 (p + 1) (by omega) hlt
    have hn : ¬ atOf (xs.set i ((p + 1 : Nat) : Int)) r = i := of_decide_eq_false this
    exact absurd ((win_iff hi).2 ⟨by omega, fun j y hj hy => by have := others_ge (xs := xs) (i := i) (by omega) hy; omega, fun j y hj hy => by have := others_ge hj hy; omega⟩) hn
  · omega

theorem least_win {xs : List Int} {i out b : Nat} {r : Int} (hi : i < xs.length) (h : leastF xs i r = some out) (hb : out ≤ b) : atOf (xs.set i b) r = i := by
  obtain ⟨h1, _⟩ := findF_some 31 0 out h
  unfold winB at h1
  exact win_up hi (of_decide_eq_true h1) (by omega)
theorem least_lose {xs : List Int} {i out b : Nat} {r : Int} (h : leastF xs i r = some out) (hb : b < out) : atOf (xs.set i b) r ≠ i := by
  obtain ⟨_, _, _, h4⟩ := findF_some 31 0 out h
  have := h4 b (by omega) hb
  unfold winB at this
  exact of_decide_eq_false this
theorem least_le {xs : List Int} {i out : Nat} {r : Int} (h : leastF xs i r = some out) : out ≤ 30 := by
  have := (findF_some 31 0 out h).2.2.1; omega

theorem vB_set {xs : List Int} {i : Nat} {b : Int} (h : vB xs = true) (h0 : 0 ≤ b) (h1 : b ≤ 30) : vB (xs.set i b) = true := by
  simp only [vB, Bool.and_eq_true, List.all_eq_true, List.length_set] at h ⊢
  refine ⟨h.1, fun x hx => ?_⟩
  rcases List.mem_or_eq_of_mem_set hx with h2 | h2
  · exact h.2 x h2
  · subst h2; exact inR_true.2 ⟨h0, h1⟩

end Go.Proofs.Ytnojlapjkdihmaa
