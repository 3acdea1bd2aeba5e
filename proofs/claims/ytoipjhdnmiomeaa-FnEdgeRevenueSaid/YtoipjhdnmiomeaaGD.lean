/-
  The laws' helper that compares two slices of ints; what holds of a sale.
-/
import Derived.Test.YtoipjhdnmiomeaaGB
import Derived.Test.YtoipjhdnmiomeaaGC
import Derived.Deep.RegionWith
import Derived.RangeFuncNested
import Derived.RangeFuncBound
import Derived.RangeFuncCalls
import Derived.RangeFuncLeaves
import Derived.RangeFuncFrom
import Derived.Shelf.Abstract
import Derived.Shelf.RegionOpen
import Derived.OwnWalkIn
import Derived.TacticsInMore
import Derived.LoopNIn
import Derived.LoopIn
namespace Go.Proofs.Ytoipjhdnmiomeaa
open Go.RowKit

theorem nth_le : ∀ (m : Nat) (xs : List Int) (M : Int), 0 ≤ M → (∀ x ∈ xs, x ≤ M) → nthG m xs ≤ M
  | 0, xs, M, h0, h => by
    rw [nthG_zero, List.getD_eq_getElem?_getD]
    cases hx : xs[gr xs xs.length]? with
    | none => exact h0
    | some x => exact h x (List.mem_of_getElem? hx)
  | m + 1, xs, M, h0, h => by
    rw [nthG_succ]
    exact nth_le m _ M h0 (fun x hx => h x (List.mem_of_mem_eraseIdx hx))

theorem gr_ge {xs : List Int} {i : Nat} {x y : Int} (hx : xs[i]? = some x) (hy : xs[gr xs xs.length]? = some y) : x ≤ y := by
  have := gr_max xs xs.length i (List.getElem?_eq_some_iff.1 hx).1
  rw [getD_of hx, getD_of hy] at this
  exact this

/-- What a bidder pays, by all kinds but that by which all pay. -/
theorem pay_zero {kd : Nat} {xs : List Int} {r x p : Int} {i : Nat} (hk : kd ≠ 4) (hx : xs[i]? = some x) (hp : (payOf kd xs r)[i]? = some p) (hi : (i : Int) ≠ atOf xs r) : p = 0 := by
  have hl := (List.getElem?_eq_some_iff.1 hx).1
  by_cases hlt : xs.getD (gr xs xs.length) 0 < r
  · rw [payOf_none hk hlt, List.getElem?_replicate, if_pos hl] at hp
    exact (Option.some.inj hp).symm
  · rw [atOf_some hlt] at hi
    rw [payOf_some hk hlt, List.getElem?_set, if_neg (by omega), List.getElem?_replicate, if_pos hl] at hp
    exact (Option.some.inj hp).symm

theorem pay_le {kd : Nat} {xs : List Int} {r x p : Int} {i : Nat} (hv : vB xs = true) (hx : xs[i]? = some x) (hp : (payOf kd xs r)[i]? = some p) : p ≤ x := by
  have hb : ∀ y ∈ xs, 0 ≤ y := by
    simp only [vB, Bool.and_eq_true, List.all_eq_true] at hv
    intro y hy
    exact (inR_true.1 (hv.2 y hy)).1
  by_cases hk : kd = 4
  · subst hk
    rw [payOf_all] at hp
    rw [hx] at hp
    have := Option.some.inj hp
    omega
  · by_cases hi : (i : Int) = atOf xs r
    · have hl := (List.getElem?_eq_some_iff.1 hx).1
      by_cases hlt : xs.getD (gr xs xs.length) 0 < r
      · rw [atOf_none hlt] at hi; omega
      · rw [atOf_some hlt] at hi
        have hig : i = gr xs xs.length := by omega
        rw [payOf_some hk hlt, List.getElem?_set, if_pos hig.symm, if_pos (by simpa using (by omega : gr xs xs.length < xs.length))] at hp
        have hp := Option.some.inj hp
        rw [← hig, getD_of hx] at hlt
        have hn := nth_le (kd - 1) xs x (hb x (List.mem_of_getElem? hx)) (fun y hy => by
          obtain ⟨j, hj, he⟩ := List.getElem_of_mem hy
          have hj' : xs[j]? = some y := by rw [List.getElem?_eq_getElem hj, he]
          exact gr_ge hj' (by rw [← hig]; exact hx))
        omega
    · rw [pay_zero hk hx hp hi]; exact hb x (List.mem_of_getElem? hx)

theorem kind_all {s : ByteArray} {kd : Nat} (hk : KindIs s kd) : (s.toList == [97, 108, 108]) = decide (kd = 4) := by
  rcases hk with ⟨rfl, rfl⟩ | ⟨rfl, rfl⟩ | ⟨rfl, rfl⟩ | ⟨rfl, rfl⟩ <;> rw [Lib.toList_data] <;> decide

end Go.Proofs.Ytoipjhdnmiomeaa

/-
  Chapter 1 in plain arithmetic: when a bidder has the thing, and what second asks then.
-/
namespace Go.Proofs.Ytoipjhdnmiomeaa

theorem findF_some {p : Nat → Bool} : ∀ (n k m : Nat), findF p n k = some m → p m = true ∧ k ≤ m ∧ m < k + n ∧ ∀ b, k ≤ b → b < m → p b = false
  | 0, k, m, h => by simp [findF] at h
  | n + 1, k, m, h => by
    rw [findF] at h
    split at h
    · rename_i hp
      have := Option.some.inj h
      subst this
      exact ⟨hp, Nat.le_refl _, by omega, fun b h1 h2 => by omega⟩
    · rename_i hp
      obtain ⟨h1, h2, h3, h4⟩ := findF_some n (k + 1) m h
      refine ⟨h1, by omega, by omega, fun b hb1 hb2 => ?_⟩
      rcases Nat.lt_or_ge k b with hkb | hkb
      · exact h4 b (by omega) hb2
      · obtain rfl : b = k := by omega
        simpa using hp

theorem gr_iff {xs : List Int} {i : Nat} {x : Int} (hx : xs[i]? = some x) :
    gr xs xs.length = i ↔ (∀ j y, j < i → xs[j]? = some y → y < x) ∧ (∀ (j : Nat) y, xs[j]? = some y → y ≤ x) := by
  have hi := (List.getElem?_eq_some_iff.1 hx).1
  have hg := gr_lt xs xs.length (by omega)
  obtain ⟨z, hz⟩ : ∃ z, xs[gr xs xs.length]? = some z := ⟨_, List.getElem?_eq_getElem hg⟩
  constructor
  · intro h
    rw [h, hx] at hz
    have hz := Option.some.inj hz
    refine ⟨fun j y hj hy => ?_, fun j y hy => ?_⟩
    · have := gr_first xs xs.length j (by rw [h]; exact hj)
      rw [h, getD_of hx, getD_of hy] at this
      exact this
    · exact gr_ge hy (by rw [h]; exact hx)
  · rintro ⟨h1, h2⟩
    rcases Nat.lt_trichotomy (gr xs xs.length) i with h | h | h
    · have h3 := h1 _ z h hz
      have h4 := gr_ge hx hz
      omega
    · exact h
    · have h3 := gr_first xs xs.length i h
      rw [getD_of hx, getD_of hz] at h3
      have h4 := h2 _ z hz
      omega

/-- The bidder i has the thing: of the greatest bids the first, and at least the reserve. -/
theorem at_iff {xs : List Int} {i : Nat} {x r : Int} (hx : xs[i]? = some x) :
    atOf xs r = i ↔ r ≤ x ∧ (∀ j y, j < i → xs[j]? = some y → y < x) ∧ (∀ (j : Nat) y, xs[j]? = some y → y ≤ x) := by
  have hi := (List.getElem?_eq_some_iff.1 hx).1
  have hg := gr_lt xs xs.length (by omega)
  rw [← gr_iff hx]
  by_cases hlt : xs.getD (gr xs xs.length) 0 < r
  · rw [atOf_none hlt]
    constructor
    · intro h; omega
    · rintro ⟨h1, h2⟩
      rw [h2, getD_of hx] at hlt
      omega
  · rw [atOf_some hlt]
    constructor
    · intro h
      have h' : gr xs xs.length = i := by omega
      rw [h', getD_of hx] at hlt
      exact ⟨by omega, h'⟩
    · rintro ⟨_, h⟩; rw [h]

theorem set_at {xs : List Int} {i : Nat} (hi : i < xs.length) (b : Int) : (xs.set i b)[i]? = some b := by simp [hi]
theorem set_other {xs : List Int} {i j : Nat} (h : j ≠ i) (b : Int) : (xs.set i b)[j]? = xs[j]? := by
  rw [List.getElem?_set]; rw [if_neg (fun e => h e.symm)]

/-- The greatest bid of the others. -/
def othersMax (xs : List Int) (i : Nat) : Int := nthG 0 (xs.eraseIdx i)

theorem others_ge {xs : List Int} {i j : Nat} {y : Int} (hj : j ≠ i) (hy : xs[j]? = some y) : y ≤ othersMax xs i := by
  have hl := (List.getElem?_eq_some_iff.1 hy).1
  have hm : y ∈ xs.eraseIdx i := by
    rcases Nat.lt_or_ge j i with h | h
    · exact List.mem_of_getElem? (i := j) (by rw [List.getElem?_eraseIdx, if_pos h]; exact hy)
    · exact List.mem_of_getElem? (i := j - 1) (by rw [List.getElem?_eraseIdx, if_neg (by omega), show j - 1 + 1 = j by omega]; exact hy)
  obtain ⟨k, hk, he⟩ := List.getElem_of_mem hm
  have := gr_max (xs.eraseIdx i) _ k hk
  rw [List.getD_eq_getElem?_getD, List.getElem?_eq_getElem hk, he] at this
  unfold othersMax
  rw [nthG_zero]
  exact this

theorem others_le {xs : List Int} {i : Nat} {M : Int} (h0 : 0 ≤ M) (h : ∀ (j : Nat) y, j ≠ i → xs[j]? = some y → y ≤ M) : othersMax xs i ≤ M := by
  refine nth_le 0 _ M h0 (fun y hy => ?_)
  obtain ⟨k, hk, he⟩ := List.getElem_of_mem hy
  have hk' : (xs.eraseIdx i)[k]? = some y := by rw [List.getElem?_eq_getElem hk, he]
  rw [List.getElem?_eraseIdx] at hk'
  split at hk'
  · exact h k y (by omega) hk'
  · exact h (k + 1) y (by omega) hk'

/-- What the bidder who has the thing pays by second. -/
theorem pay_second {xs : List Int} {i : Nat} {r : Int} (hi : i < xs.length) (h : atOf xs r = i) : (payOf 2 xs r)[i]? = some (max r (othersMax xs i)) := by
  obtain ⟨x, hx⟩ := at_some hi
  have hw := (at_iff hx).1 h
  have hg := (gr_iff hx).2 hw.2
  rw [payOf_some (by decide) (by rw [hg, getD_of hx]; omega), hg, List.getElem?_set, if_pos rfl, if_pos (by simpa using hi), show 2 - 1 = 0 + 1 from rfl, nthG_succ, hg]
  rfl

theorem others_set (xs : List Int) (i : Nat) (b : Int) : othersMax (xs.set i b) i = othersMax xs i := by
  unfold othersMax; rw [List.eraseIdx_set_eq]

theorem win_iff {xs : List Int} {i : Nat} {r b : Int} (hi : i < xs.length) :
    atOf (xs.set i b) r = i ↔ r ≤ b ∧ (∀ j y, j < i → xs[j]? = some y → y < b) ∧ (∀ (j : Nat) y, j ≠ i → xs[j]? = some y → y ≤ b) := by
  rw [at_iff (set_at hi b)]
  constructor
  · rintro ⟨h1, h2, h3⟩
    exact ⟨h1, fun j y hj hy => h2 j y hj (by rw [set_other (by omega)]; exact hy), fun j y hj hy => h3 j y (by rw [set_other hj]; exact hy)⟩
  · rintro ⟨h1, h2, h3⟩
    refine ⟨h1, fun j y hj hy => h2 j y hj (by rw [set_other (by omega)] at hy; exact hy), fun j y hy => ?_⟩
    by_cases hj : j = i
    · subst hj; rw [set_at hi] at hy; have := Option.some.inj hy; omega
    · rw [set_other hj] at hy; exact h3 j y hj hy

theorem win_up {xs : List Int} {i : Nat} {r b b' : Int} (hi : i < xs.length) (h : atOf (xs.set i b) r = i) (hb : b ≤ b') : atOf (xs.set i b') r = i := by
  rw [win_iff hi] at h ⊢
  exact ⟨by omega, fun j y hj hy => by have := h.2.1 j y hj hy; omega, fun j y hj hy => by have := h.2.2 j y hj hy; omega⟩

/-- What second asks of the one who has it is the least bid, or one less. -/
theorem least_price {xs : List Int} {i out : Nat} {r : Int} (hi : i < xs.length) (hr0 : 0 ≤ r) (h : leastF xs i r = some out) :
    max r (othersMax xs i) ≤ out ∧ (out : Int) - 1 ≤ max r (othersMax xs i) := by
  obtain ⟨h1, h2, h3, h4⟩ := findF_some 31 0 out h
  unfold winB at h1 h4
  have hw := (win_iff hi).1 (of_decide_eq_true h1)
  have hM : othersMax xs i ≤ out := others_le (by omega) hw.2.2
  refine ⟨by omega, ?_⟩
  have hp : 0 ≤ max r (othersMax xs i) := by omega
  obtain ⟨p, hpe⟩ := Int.eq_ofNat_of_zero_le hp
  rw [hpe]
  by_cases hlt : p + 1 < out
  · have := h4 (p + 1) (by omega) hlt
    have hn : ¬ atOf (xs.set i ((p + 1 : Nat) : Int)) r = i := of_decide_eq_false this
    exact absurd ((win_iff hi).2 ⟨by omega, fun j y hj hy => by have := others_ge (xs := xs) (i := i) (by omega) hy; omega, fun j y hj hy => by have := others_ge hj hy; omega⟩) hn
  · omega

theorem least_win {xs : List Int} {i out b : Nat} {r : Int} (hi : i < xs.length) (h : leastF xs i r = some out) (hb : out ≤ b) : atOf (xs.set i b) r = i := by
  obtain ⟨h1, _⟩ := findF_some 31 0 out h
  unfold winB at h1
  exact win_up hi (of_decide_eq_true h1) (by omega)
theorem least_lose {xs : List Int} {i out b : Nat} {r : Int} (h : leastF xs i r = some out) (hb : b < out) : atOf (xs.set i b) r ≠ i := by
  obtain ⟨_, _, _, h4⟩ := findF_some 31 0 out h
  have := h4 b (by omega) hb
  unfold winB at this
  exact of_decide_eq_false this
theorem least_le {xs : List Int} {i out : Nat} {r : Int} (h : leastF xs i r = some out) : out ≤ 30 := by
  have := (findF_some 31 0 out h).2.2.1; omega

theorem vB_set {xs : List Int} {i : Nat} {b : Int} (h : vB xs = true) (h0 : 0 ≤ b) (h1 : b ≤ 30) : vB (xs.set i b) = true := by
  simp only [vB, Bool.and_eq_true, List.all_eq_true, List.length_set] at h ⊢
  refine ⟨h.1, fun x hx => ?_⟩
  rcases List.mem_or_eq_of_mem_set hx with h2 | h2
  · exact h.2 x h2
  · subst h2; exact inR_true.2 ⟨h0, h1⟩

end Go.Proofs.Ytoipjhdnmiomeaa

/-
  Chapter 1 in plain arithmetic: truth is best by second, and by first no more is gained.
-/
namespace Go.Proofs.Ytoipjhdnmiomeaa

theorem pay_ge {kd : Nat} {xs : List Int} {r x p : Int} {i : Nat} (hv : vB xs = true) (hr : 0 ≤ r) (hx : xs[i]? = some x) (hp : (payOf kd xs r)[i]? = some p) : 0 ≤ p := by
  have hb : ∀ y ∈ xs, 0 ≤ y := by
    simp only [vB, Bool.and_eq_true, List.all_eq_true] at hv
    intro y hy
    exact (inR_true.1 (hv.2 y hy)).1
  by_cases hk : kd = 4
  · subst hk
    rw [payOf_all, hx] at hp
    have := Option.some.inj hp
    have := hb x (List.mem_of_getElem? hx)
    omega
  · by_cases hi : (i : Int) = atOf xs r
    · by_cases hlt : xs.getD (gr xs xs.length) 0 < r
      · rw [atOf_none hlt] at hi; omega
      · rw [atOf_some hlt] at hi
        have hig : gr xs xs.length = i := by omega
        rw [payOf_some hk hlt, hig, List.getElem?_set, if_pos rfl, if_pos (by simpa using (List.getElem?_eq_some_iff.1 hx).1)] at hp
        have := Option.some.inj hp
        omega
    · rw [pay_zero hk hx hp hi]; omega

theorem gain_le {kd : Nat} {xs : List Int} {i : Nat} {v r : Int} (hv : vB xs = true) (hr : 0 ≤ r) (h0 : 0 ≤ v) (hi : i < xs.length) : gainF kd xs i v r ≤ v := by
  obtain ⟨x, hx⟩ := at_some hi
  obtain ⟨p, hp⟩ := at_some (xs := payOf kd xs r) (k := i) (by rw [payOf_len]; exact hi)
  have := pay_ge hv hr hx hp
  by_cases ha : atOf xs r = i
  · rw [gain_win rfl hp ha]; omega
  · rw [gain_lose rfl hp ha]; omega

theorem second_win {xs : List Int} {i : Nat} {v r b : Int} (hi : i < xs.length) (h : atOf (xs.set i b) r = i) : gainF 2 (xs.set i b) i v r = v - max r (othersMax xs i) := by
  have hp := pay_second (by rw [List.length_set]; exact hi) h
  rw [gain_win rfl hp h, others_set]
theorem any_lose {kd : Nat} {xs : List Int} {i : Nat} {v r b : Int} (hk : kd ≠ 4) (hi : i < xs.length) (h : atOf (xs.set i b) r ≠ i) : gainF kd (xs.set i b) i v r = 0 := by
  obtain ⟨p, hp⟩ := at_some (xs := payOf kd (xs.set i b) r) (k := i) (by rw [payOf_len, List.length_set]; exact hi)
  rw [gain_lose rfl hp h, pay_zero hk (set_at hi b) hp (fun e => h e.symm)]; rfl

/-- Truth never loses by second. -/
theorem truth_ge {xs : List Int} {i : Nat} {v r : Int} (hi : i < xs.length) (h0 : 0 ≤ v) : 0 ≤ gainF 2 (xs.set i v) i v r := by
  by_cases h : atOf (xs.set i v) r = i
  · rw [second_win hi h]
    have hw := (win_iff hi).1 h
    have := others_le h0 hw.2.2
    omega
  · rw [any_lose (by decide) hi h]; exact Int.le_refl 0

/-- No other bid has more by second. -/
theorem truth_best {xs : List Int} {i : Nat} {v r b : Int} (hi : i < xs.length) (h0 : 0 ≤ v) : gainF 2 (xs.set i b) i v r ≤ gainF 2 (xs.set i v) i v r := by
  have hT := truth_ge (r := r) hi h0
  by_cases h : atOf (xs.set i b) r = i
  · by_cases h' : atOf (xs.set i v) r = i
    · rw [second_win hi h, second_win hi h']; exact Int.le_refl _
    · rw [second_win hi h]
      have hp : v ≤ max r (othersMax xs i) := by
        rcases Int.lt_or_le (max r (othersMax xs i)) v with hlt | hge
        · exact absurd ((win_iff hi).2 ⟨by omega, fun j y hj hy => by have := others_ge (xs := xs) (i := i) (by omega) hy; omega, fun j y hj hy => by have := others_ge hj hy; omega⟩) h'
        · exact hge
      omega
  · rw [any_lose (by decide) hi h]; exact hT

/-- By first no more is gained than by truth by second. -/
theorem first_le {xs : List Int} {i : Nat} {v r b : Int} (hi : i < xs.length) (h0 : 0 ≤ v) (hb : 0 ≤ b) : gainF 1 (xs.set i b) i v r ≤ gainF 2 (xs.set i v) i v r := by
  have hT := truth_ge (r := r) hi h0
  by_cases h : atOf (xs.set i b) r = i
  · have hw := (win_iff hi).1 h
    have hM := others_le hb hw.2.2
    have hg := (gr_iff (set_at hi b)).2 ((at_iff (set_at hi b)).1 h).2
    have hp : (payOf 1 (xs.set i b) r)[i]? = some b := by
      rw [payOf_first (by rw [hg, getD_of (set_at hi b)]; omega), hg, getD_of (set_at hi b), List.getElem?_set, if_pos rfl, if_pos (by simpa using hi)]
    rw [gain_win rfl hp h]
    rcases Int.lt_or_le b v with hlt | hge
    · rw [second_win hi (win_up hi h (by omega))]; omega
    · omega
  · rw [any_lose (by decide) hi h]; exact hT

theorem best_spec (g : Nat → Int) : ∀ n, (bestF g n).1 ≤ n ∧ g (bestF g n).1 = (bestF g n).2 ∧ (∀ b, b ≤ n → g b ≤ (bestF g n).2) ∧ (∀ b, b < (bestF g n).1 → g b < (bestF g n).2)
  | 0 => ⟨Nat.le_refl _, rfl, fun b hb => by obtain rfl : b = 0 := by omega
                                             exact Int.le_refl _, fun b hb => by simp [bestF] at hb⟩
  | n + 1 => by
    obtain ⟨h1, h2, h3, h4⟩ := best_spec g n
    rw [bestF]
    split
    · rename_i hlt
      refine ⟨Nat.le_refl _, rfl, fun b hb => ?_, fun b hb => ?_⟩
      · rcases Nat.lt_or_ge b (n + 1) with h | h
        · have := h3 b (by omega)
          show g b ≤ g (n + 1)
          omega
        · obtain rfl : b = n + 1 := by omega
          exact Int.le_refl _
      · have h : b < n + 1 := hb
        have := h3 b (by omega)
        show g b < g (n + 1)
        omega
    · rename_i hge
      refine ⟨by omega, h2, fun b hb => ?_, h4⟩
      rcases Nat.lt_or_ge b (n + 1) with h | h
      · exact h3 b (by omega)
      · obtain rfl : b = n + 1 := by omega
        omega

/-- The best bid's gain by second is that of truth. -/
theorem best_second {xs : List Int} {i v : Nat} {r : Int} (hi : i < xs.length) (hv : v ≤ 30) : (bestF (gB 2 xs i v r) 30).2 = gainF 2 (xs.set i v) i v r := by
  obtain ⟨h1, h2, h3, _⟩ := best_spec (gB 2 xs i v r) 30
  have ha := h3 v hv
  have hb := truth_best (xs := xs) (i := i) (v := (v : Int)) (r := r) (b := ((bestF (gB 2 xs i v r) 30).1 : Int)) hi (by omega)
  rw [← h2] at ha ⊢
  unfold gB at ha hb ⊢
  omega
theorem best_first {xs : List Int} {i v : Nat} {r : Int} (hi : i < xs.length) : (bestF (gB 1 xs i v r) 30).2 ≤ gainF 2 (xs.set i v) i v r := by
  obtain ⟨h1, h2, h3, _⟩ := best_spec (gB 1 xs i v r) 30
  rw [← h2]
  exact first_le hi (by omega) (by omega)

theorem set_self {xs : List Int} {i : Nat} {x : Int} (hx : xs[i]? = some x) : xs.set i x = xs := by
  obtain ⟨hi, rfl⟩ := List.getElem?_eq_some_iff.1 hx
  exact List.set_getElem_self hi
theorem truth_best' {xs : List Int} {i : Nat} {v r : Int} (hi : i < xs.length) (h0 : 0 ≤ v) : gainF 2 xs i v r ≤ gainF 2 (xs.set i v) i v r := by
  obtain ⟨x, hx⟩ := at_some hi
  have := truth_best (xs := xs) (i := i) (v := v) (r := r) (b := x) hi h0
  rw [set_self hx] at this
  exact this
theorem wB_set {xs : List Int} {i : Nat} {b : Int} (h : wB xs i = true) (h0 : 0 ≤ b) (h1 : b ≤ 30) : wB (xs.set i b) i = true := by
  have hw := wB_le h
  exact wB_yes (vB_set hw.1 h0 h1) hw.2.1 (by rw [List.length_set]; exact hw.2.2.1)

end Go.Proofs.Ytoipjhdnmiomeaa

/-
  Chapter 1 in plain arithmetic: bids one after the other; where all rest.
-/
namespace Go.Proofs.Ytoipjhdnmiomeaa

/-- The bids that follow, the least digit first; none behind the last. -/
def nextR : List Int → Int → Option (List Int)
  | [], _ => none
  | x :: xs, top => if x < top then some ((x + 1) :: xs) else (nextR xs top).map (0 :: ·)
def nextF (xs : List Int) (top : Int) : Option (List Int) := (nextR xs.reverse top).map List.reverse

theorem nextF_nil (top : Int) : nextF [] top = none := rfl
theorem nextF_snoc (xs : List Int) (x top : Int) : nextF (xs ++ [x]) top = if x < top then some (xs ++ [x + 1]) else (nextF xs top).map (· ++ [0]) := by
  unfold nextF
  rw [List.reverse_append]
  simp only [List.reverse_cons, List.reverse_nil, List.nil_append, List.singleton_append, nextR]
  split
  · simp
  · cases nextR xs.reverse top <;> simp

/-- How many are still to come. -/
def leftR : List Int → Int → Nat
  | [], _ => 0
  | x :: xs, top => (top - x).toNat + (top.toNat + 1) * leftR xs top
theorem leftR_lt : ∀ (xs ys : List Int) (top : Int), 0 ≤ top → (∀ x ∈ xs, 0 ≤ x ∧ x ≤ top) → nextR xs top = some ys → leftR ys top < leftR xs top ∧ (∀ x ∈ ys, 0 ≤ x ∧ x ≤ top) ∧ ys.length = xs.length
  | [], ys, top, _, _, h => by simp [nextR] at h
  | x :: xs, ys, top, h0, hx, h => by
    rw [nextR] at h
    have hxx := hx x (by simp)
    split at h
    · have h := Option.some.inj h
      subst h
      refine ⟨?_, ?_, by simp⟩
      · simp only [leftR]; omega
      · intro z hz
        rcases List.mem_cons.1 hz with h | h
        · subst h; omega
        · exact hx z (by simp [h])
    · cases hn : nextR xs top with
      | none => rw [hn] at h; simp at h
      | some zs =>
        rw [hn] at h
        have h : 0 :: zs = ys := by simpa using h
        subst h
        obtain ⟨h1, h2, h3⟩ := leftR_lt xs zs top h0 (fun z hz => hx z (by simp [hz])) hn
        refine ⟨?_, ?_, by simp [h3]⟩
        · simp only [leftR]
          have hxt : (top - x).toNat = 0 := by omega
          have h4 : (top - 0).toNat = top.toNat := by omega
          have h5 : leftR xs top = leftR zs top + 1 + (leftR xs top - leftR zs top - 1) := by omega
          rw [hxt, h4, h5, Nat.mul_add, Nat.mul_add]
          omega
        · intro z hz
          rcases List.mem_cons.1 hz with h | h
          · subst h; omega
          · exact h2 z h

def leftF (xs : List Int) (top : Int) : Nat := leftR xs.reverse top
theorem leftF_lt {xs ys : List Int} {top : Int} (h0 : 0 ≤ top) (hx : ∀ x ∈ xs, 0 ≤ x ∧ x ≤ top) (h : nextF xs top = some ys) : leftF ys top < leftF xs top ∧ (∀ x ∈ ys, 0 ≤ x ∧ x ≤ top) ∧ ys.length = xs.length := by
  unfold nextF at h
  cases hn : nextR xs.reverse top with
  | none => rw [hn] at h; simp at h
  | some zs =>
    rw [hn] at h
    have h : zs.reverse = ys := by simpa using h
    subst h
    obtain ⟨h1, h2, h3⟩ := leftR_lt xs.reverse zs top h0 (fun z hz => hx z (by simpa using hz)) hn
    exact ⟨by unfold leftF; rw [List.reverse_reverse]; exact h1, fun z hz => h2 z (by simpa using hz), by rw [List.length_reverse, h3, List.length_reverse]⟩

/-- All bids from xs on, at most n of them. -/
def runF (top : Int) : Nat → List Int → List (List Int)
  | 0, _ => []
  | n + 1, xs => xs :: (match nextF xs top with
    | some ys => runF top n ys
    | none => [])
/-- All bids from xs on. -/
def allF (top : Int) (xs : List Int) : List (List Int) := runF top (leftF xs top + 1) xs

theorem runF_more (top : Int) (h0 : 0 ≤ top) : ∀ (n m : Nat) (xs : List Int), (∀ x ∈ xs, 0 ≤ x ∧ x ≤ top) → leftF xs top < n → leftF xs top < m → runF top n xs = runF top m xs
  | 0, m, xs, _, h, _ => by omega
  | n + 1, 0, xs, _, _, h => by omega
  | n + 1, m + 1, xs, hx, h1, h2 => by
    rw [runF, runF]
    cases hn : nextF xs top with
    | none => rfl
    | some ys =>
      obtain ⟨h3, h4, _⟩ := leftF_lt h0 hx hn
      simp only
      rw [runF_more top h0 n m ys h4 (by omega) (by omega)]

theorem allF_next {xs ys : List Int} {top : Int} (h0 : 0 ≤ top) (hx : ∀ x ∈ xs, 0 ≤ x ∧ x ≤ top) (h : nextF xs top = some ys) : allF top xs = xs :: allF top ys := by
  obtain ⟨h3, h4, _⟩ := leftF_lt h0 hx h
  unfold allF
  rw [runF, h]
  simp only
  rw [runF_more top h0 (leftF xs top) (leftF ys top + 1) ys h4 h3 (by omega)]
theorem allF_last {xs : List Int} {top : Int} (h : nextF xs top = none) : allF top xs = [xs] := by unfold allF; rw [runF, h]

/-- Whether the bidder i has no more of another bid up to top. -/
def restAt (kd : Nat) (vals bids : List Int) (top i : Nat) : Bool := (List.range (top + 1)).all (fun b => decide (gB kd bids i (vals.getD i 0) 0 b ≤ gainF kd bids i (vals.getD i 0) 0))
/-- Whether all rest. -/
def restF (kd : Nat) (vals bids : List Int) (top : Nat) : Bool := (List.range bids.length).all (restAt kd vals bids top)

theorem range_step {p : Nat → Bool} {k : Nat} (h : (List.range k).all p = true) (hk : p k = true) : (List.range (k + 1)).all p = true := by
  rw [List.range_succ, List.all_append, h]; simp [hk]
theorem range_bad {p : Nat → Bool} {k n : Nat} (hk : k < n) (h : p k = false) : (List.range n).all p = false := by
  rw [List.all_eq_false]
  exact ⟨k, List.mem_range.2 hk, by simp [h]⟩

theorem restAt_best (kd : Nat) (vals bids : List Int) (top i : Nat) : restAt kd vals bids top i = decide ((bestF (gB kd bids i (vals.getD i 0) 0) top).2 ≤ gainF kd bids i (vals.getD i 0) 0) := by
  obtain ⟨h1, h2, h3, _⟩ := best_spec (gB kd bids i (vals.getD i 0) 0) top
  rw [Bool.eq_iff_iff]
  simp only [restAt, List.all_eq_true, List.mem_range, decide_eq_true_eq]
  constructor
  · intro h
    rw [← h2]
    exact h _ (by omega)
  · intro h b hb
    have := h3 b (by omega)
    omega

end Go.Proofs.Ytoipjhdnmiomeaa

/-
  Chapter 1: the contracts of next, nextBids, honest, calm and allRest.
-/
namespace Go.Proofs.Ytoipjhdnmiomeaa
open Go.RowKit

/-- What of the first j is still to be turned, noughts behind. -/
def tailed (xs : List Int) (j : Nat) : List Int := xs.take j ++ List.replicate (xs.length - j) 0
theorem tailed_len (xs : List Int) (j : Nat) (hj : j ≤ xs.length) : (tailed xs j).length = xs.length := by simp [tailed]; omega
theorem tailed_all (xs : List Int) : tailed xs xs.length = xs := by simp [tailed]

theorem tailed_at {xs : List Int} {j : Nat} {x : Int} (hx : xs[j]? = some x) : (tailed xs (j + 1))[j]? = some x := by
  have hj := (List.getElem?_eq_some_iff.1 hx).1
  unfold tailed
  rw [List.getElem?_append_left (by simp; omega), List.getElem?_take_of_lt (by omega), hx]
theorem tailed_zero {xs : List Int} {j : Nat} (hj : j < xs.length) : (tailed xs (j + 1)).set j 0 = tailed xs j := by
  apply List.ext_getElem?
  intro k
  unfold tailed
  simp only [List.getElem?_set, List.getElem?_append, List.length_append, List.length_take, List.length_replicate, List.getElem?_take, List.getElem?_replicate]
  rcases Nat.lt_trichotomy k j with h | h | h
  · simp [show ¬ j = k by omega, show k < min (j + 1) xs.length by omega, show k < min j xs.length by omega, h, show k < j + 1 by omega]
  · subst h
    simp [show k < min (k + 1) xs.length + (xs.length - (k + 1)) by omega, show min k xs.length = k by omega, show 0 < xs.length - k by omega]
  · simp [show ¬ j = k by omega, show ¬ k < min (j + 1) xs.length by omega, show ¬ k < min j xs.length by omega]
    have e1 : k - min (j + 1) xs.length < xs.length - (j + 1) ↔ k - min j xs.length < xs.length - j := by omega
    by_cases hh : k - min (j + 1) xs.length < xs.length - (j + 1)
    · rw [if_pos hh, if_pos (e1.1 hh)]
    · rw [if_neg hh, if_neg (fun x => hh (e1.2 x))]

/-- Where the next bids come from when the last ones are at the top. -/
def NextIs (xs : List Int) (top : Int) (j : Nat) : Prop := nextF xs top = (nextF (xs.take j) top).map (· ++ List.replicate (xs.length - j) 0)
theorem NextIs.start (xs : List Int) (top : Int) : NextIs xs top xs.length := by unfold NextIs; simp
theorem NextIs.up {xs : List Int} {top x : Int} {j : Nat} (h : NextIs xs top (j + 1)) (hx : xs[j]? = some x) (hlt : x < top) : nextF xs top = some ((tailed xs (j + 1)).set j (x + 1)) := by
  have hj := (List.getElem?_eq_some_iff.1 hx).1
  have ht : xs.take (j + 1) = xs.take j ++ [x] := by rw [List.take_add_one, hx]; rfl
  rw [h, ht, nextF_snoc, if_pos hlt]
  simp only [Option.map_some]
  congr 1
  unfold tailed
  rw [ht, List.set_append, if_pos (by simp; omega), List.set_append, if_neg (by simp; omega)]
  simp [show min j xs.length = j by omega]
theorem NextIs.down {xs : List Int} {top x : Int} {j : Nat} (h : NextIs xs top (j + 1)) (hx : xs[j]? = some x) (hge : ¬ x < top) : NextIs xs top j := by
  have hj := (List.getElem?_eq_some_iff.1 hx).1
  have ht : xs.take (j + 1) = xs.take j ++ [x] := by rw [List.take_add_one, hx]; rfl
  unfold NextIs at h ⊢
  rw [h, ht, nextF_snoc, if_neg hge]
  rw [Option.map_map]
  congr 1
  funext l
  simp only [Function.comp, List.append_assoc]
  rw [show xs.length - j = 1 + (xs.length - (j + 1)) by omega, ← List.replicate_append_replicate]
  rfl
theorem NextIs.none_ {xs : List Int} {top : Int} (h : NextIs xs top 0) : nextF xs top = none := by rw [h]; simp [nextF_nil]

/-- What next hands back. -/
def NextOut (w : World) (o : Option (List Int)) (e : Ending) (w' : World) : Prop :=
  (∃ zs g c, o = some zs ∧ e = .returned (.slice (some ⟨g, 0, none⟩) zs.length c) ∧ Own w' w.heap.size (some ⟨g, 0, none⟩) c zs ∧ Below w.heap.size w w') ∨
  (o = none ∧ e = .returned (.slice none 0 0) ∧ Below w.heap.size w w')

set_option maxHeartbeats 800000 in
theorem next_any (A : Option Addr) (c : Nat) (xs : List Int) (top : Int) (w : World) (h : Rd w A c xs) (hl : xs.length ≤ 1048576) (ht0 : 0 ≤ top) (ht1 : top ≤ 1048576) (hb : ∀ x ∈ xs, 0 ≤ x ∧ x ≤ top) :
    Calls Try.prog 68 #[.slice A xs.length c, .int .i64 top] w (NextOut w (nextF xs top)) := by
  have hl2 : xs.length ≤ 1099511627776 := by omega
  have hb0 := (Below.refl w.heap.size w).alloc (Nat.le_refl _) (.cells #[] 3)
  have h1 := h.below hb0
  have HB := Lib.hid hb
  clear hb h
  go_enter Try.func68, Try.ntmps68
  go_wp2_with (at_builtin; refine wpList_clone rfl _ _ rfl w.heap.size w.heap.size rfl (own_empty w) A c xs rfl h1 hl2 hb0.size ?_; intro g c1 w1 ho hb1)
  have B1 := hb0.trans hb1
  clear hb0 hb1 h1
  go_loopw [6] (fun i wr => ∃ j : Nat, j ≤ xs.length ∧ i = .int .i64 ((j : Int) - 1) ∧ Own wr w.heap.size (some ⟨g, 0, none⟩) c1 (tailed xs j) ∧ Below w.heap.size w wr ∧ Hid (NextIs xs top j))
    (fun i _ => (intOf i + 1).toNat)
  case atStart => exact ⟨xs.length, Nat.le_refl _, rfl, by rw [tailed_all]; exact ho, B1, Lib.hid (NextIs.start xs top)⟩
  case round =>
    obtain ⟨j, hj, rfl, hor, hbr, HN⟩ := hrel
    cases j with
    | zero =>
      have HE := Lib.hid HN.out.none_
      go_wp2
      go_ret
      exact .inr ⟨HE.out, rfl, hbr⟩
    | succ j =>
      have hjl : j < xs.length := by omega
      have e1 : (((j + 1 : Nat) : Int) - 1) = (j : Int) := by omega
      rw [e1]
      obtain ⟨x, hx⟩ := at_some hjl
      have hxb := HB.out x (List.mem_of_getElem? hx)
      have hx0 := hxb.1
      have hx1 := hxb.2
      have hc := hor.cell (tailed_at hx)
      have hf := hor.free j
      by_cases hlt : x < top
      · have HE := Lib.hid (HN.out.up hx hlt)
        have HS := Lib.hid (hor.set_ j (x + 1))
        have HL : Hid (((tailed xs (j + 1)).set j (x + 1)).length = xs.length) := Lib.hid (by rw [List.length_set, tailed_len xs (j + 1) hj])
        have HB2 := Lib.hid (hbr.setCell hor.ge (p := ⟨g, j, none⟩) (.int .i64 (x + 1)))
        clear hx hxb hor e1
        go_wp2
        go_ret
        exact .inl ⟨_, g, c1, HE.out, by rw [HL.out]; rfl, HS.out, HB2.out⟩
      · have HE := Lib.hid (HN.out.down hx hlt)
        have HS : Hid (Own (wr.setCell ⟨g, j, none⟩ (.int .i64 0)) w.heap.size (some ⟨g, 0, none⟩) c1 (tailed xs j)) := Lib.hid (by
          have := hor.set_ j 0
          rwa [tailed_zero hjl] at this)
        have HB2 := Lib.hid (hbr.setCell hor.ge (p := ⟨g, j, none⟩) (.int .i64 0))
        clear hx hxb hor e1
        go_wp2
        go_roundw
        case rel => exact ⟨j, by omega, rfl, HS.out, HB2.out, HE⟩
        case measure => simp [intOf]

end Go.Proofs.Ytoipjhdnmiomeaa

/-
  Chapter 1, the model: the contracts of honest and calm.
-/
namespace Go.Proofs.Ytoipjhdnmiomeaa
open Go.RowKit

theorem Rd.cell {w : World} {b off c : Nat} {zs : List Int} (h : Rd w (some ⟨b, off, none⟩) c zs) {k : Nat} {x : Int} (hx : zs[k]? = some x) : w.cell? ⟨b, off + k, none⟩ = some (.int .i64 x) := by
  obtain ⟨b', off', e, hc⟩ := h.open_ (by have := (List.getElem?_eq_some_iff.1 hx).1; omega)
  injection e with e
  injection e with e1 e2
  subst e1 e2
  exact hc k x hx

/-- Of the bids up to m none is better. -/
def AllLow (kd : Nat) (xs : List Int) (i : Nat) (v now : Int) (m : Nat) : Prop := (List.range m).all (fun b => decide (gB kd xs i v 0 b ≤ now)) = true
theorem AllLow.zero (kd : Nat) (xs : List Int) (i : Nat) (v now : Int) : AllLow kd xs i v now 0 := rfl
theorem AllLow.up {kd : Nat} {xs : List Int} {i : Nat} {v now q : Int} {m : Nat} (h : AllLow kd xs i v now m) (hq : q = gB kd xs i v 0 m) (hle : ¬ now < q) : AllLow kd xs i v now (m + 1) :=
  range_step h (by rw [decide_eq_true_eq, ← hq]; omega)
theorem AllLow.done {kd : Nat} {vs xs : List Int} {i T : Nat} {v now : Int} (h : AllLow kd xs i v now (T + 1)) (hv : vs[i]? = some v) (hn : now = gainF kd xs i v 0) : restAt kd vs xs T i = true := by
  unfold restAt
  rw [getD_of hv, ← hn]
  exact h
theorem restF_bad {kd : Nat} {vs xs : List Int} {i T m : Nat} {v now q : Int} (hi : i < xs.length) (hm : m < T + 1) (hv : vs[i]? = some v) (hn : now = gainF kd xs i v 0) (hq : q = gB kd xs i v 0 m) (hlt : now < q) : restF kd vs xs T = false := by
  refine range_bad hi (range_bad hm ?_)
  rw [getD_of hv, ← hn, decide_eq_false_iff_not, ← hq]
  omega
/-- Of the first k all rest. -/
def RestTo (kd : Nat) (vs xs : List Int) (T k : Nat) : Prop := (List.range k).all (restAt kd vs xs T) = true
theorem RestTo.up {kd : Nat} {vs xs : List Int} {T k : Nat} (h : RestTo kd vs xs T k) (hr : restAt kd vs xs T k = true) : RestTo kd vs xs T (k + 1) := range_step h hr

end Go.Proofs.Ytoipjhdnmiomeaa

/-
  Chapter 1, the program: the contracts of nextBids, isTop and allRest.
-/
namespace Go.Proofs.Ytoipjhdnmiomeaa
open Go.RowKit

theorem grow_set (W : World) (g j : Nat) (v : Value) : W.grownBy (W.setCell ⟨g, j, none⟩ v) (some g) :=
  ⟨rfl, rfl, rfl, by show W.heap.size ≤ (W.heap.modify _ _).size; rw [Array.size_modify]; exact Nat.le_refl _, fun i _ hi => Below.heap_setCell W _ v i (fun e => hi (by rw [e]))⟩

/-- What nextBids does: the bids in their own block turned to those that follow. -/
def NextIn (w : World) (B g c : Nat) (xs : List Int) (top : Int) (e : Ending) (w' : World) : Prop :=
  (∃ zs, nextF xs top = some zs ∧ zs.length = xs.length ∧ e = .returned (.bool true) ∧ Own w' B (some ⟨g, 0, none⟩) c zs ∧ w.grownBy w' (some g)) ∨
  (nextF xs top = none ∧ e = .returned (.bool false) ∧ w.grownBy w' (some g))

set_option maxHeartbeats 800000 in
theorem nextBids_any (B g c : Nat) (xs : List Int) (top : Int) (w : World) (h : Own w B (some ⟨g, 0, none⟩) c xs) (hl : xs.length ≤ 1048576) (ht0 : 0 ≤ top) (ht1 : top ≤ 1048576) (hb : ∀ x ∈ xs, 0 ≤ x ∧ x ≤ top) :
    Calls Try.prog 95 #[.slice (some ⟨g, 0, none⟩) xs.length c, .int .i64 top] w (NextIn w B g c xs top) := by
  have HB := Lib.hid hb
  clear hb
  go_enter Try.func95, Try.ntmps95
  go_wp2
  go_loopw [5] (fun i wr => ∃ j : Nat, j ≤ xs.length ∧ i = .int .i64 ((j : Int) - 1) ∧ Own wr B (some ⟨g, 0, none⟩) c (tailed xs j) ∧ w.grownBy wr (some g) ∧ Hid (NextIs xs top j))
    (fun i _ => (intOf i + 1).toNat)
  case atStart => exact ⟨xs.length, Nat.le_refl _, rfl, by rw [tailed_all]; exact h, World.grownBy.refl _ _, Lib.hid (NextIs.start xs top)⟩
  case round =>
    obtain ⟨j, hj, rfl, hor, hbr, HN⟩ := hrel
    cases j with
    | zero =>
      have HE := Lib.hid HN.out.none_
      go_wp2
      go_ret
      exact .inr ⟨HE.out, rfl, hbr⟩
    | succ j =>
      have hjl : j < xs.length := by omega
      have e1 : (((j + 1 : Nat) : Int) - 1) = (j : Int) := by omega
      rw [e1]
      obtain ⟨x, hx⟩ := at_some hjl
      have hxb := HB.out x (List.mem_of_getElem? hx)
      have hx0 := hxb.1
      have hx1 := hxb.2
      have hc := hor.cell (tailed_at hx)
      have hf := hor.free j
      by_cases hlt : x < top
      · have HE := Lib.hid (HN.out.up hx hlt)
        have HS := Lib.hid (hor.set_ j (x + 1))
        have HL : Hid (((tailed xs (j + 1)).set j (x + 1)).length = xs.length) := Lib.hid (by rw [List.length_set, tailed_len xs (j + 1) hj])
        have HB2 := Lib.hid (hbr.trans (grow_set wr g j (.int .i64 (x + 1))))
        clear hx hxb hor e1
        go_wp2
        go_ret
        exact .inl ⟨_, HE.out, HL.out, rfl, HS.out, HB2.out⟩
      · have HE := Lib.hid (HN.out.down hx hlt)
        have HS : Hid (Own (wr.setCell ⟨g, j, none⟩ (.int .i64 0)) B (some ⟨g, 0, none⟩) c (tailed xs j)) := Lib.hid (by
          have := hor.set_ j 0
          rwa [tailed_zero hjl] at this)
        have HB2 := Lib.hid (hbr.trans (grow_set wr g j (.int .i64 0)))
        clear hx hxb hor e1
        go_wp2
        go_roundw
        case rel => exact ⟨j, by omega, rfl, HS.out, HB2.out, HE⟩
        case measure => simp [intOf]

theorem restF_bad2 {kd : Nat} {vs xs : List Int} {i T : Nat} {v now most : Int} (hi : i < xs.length) (hv : vs[i]? = some v) (hn : now = gainF kd xs i v 0) (hq : most = (bestF (gB kd xs i v 0) T).2) (hlt : now < most) : restF kd vs xs T = false := by
  refine range_bad hi ?_
  rw [restAt_best, getD_of hv, ← hn, ← hq, decide_eq_false_iff_not]
  omega
theorem restAt_good {kd : Nat} {vs xs : List Int} {i T : Nat} {v now most : Int} (hv : vs[i]? = some v) (hn : now = gainF kd xs i v 0) (hq : most = (bestF (gB kd xs i v 0) T).2) (hle : ¬ now < most) : restAt kd vs xs T i = true := by
  rw [restAt_best, getD_of hv, ← hn, ← hq, decide_eq_true_eq]
  omega
end Go.Proofs.Ytoipjhdnmiomeaa

/-
  Chapter 1, the model: the contract of IsTrue.
-/
namespace Go.Proofs.Ytoipjhdnmiomeaa
open Go.RowKit

/-- The numbers that a slice value reads as. -/
def readInts (w : World) : Value → List Int
  | .slice (some ⟨b, off, _⟩) len _ => (List.range len).map (fun k => match w.cell? ⟨b, off + k, none⟩ with
    | some (.int _ x) => x
    | _ => 0)
  | _ => []
theorem readInts_own {w : World} {B g c : Nat} {zs : List Int} (h : Own w B (some ⟨g, 0, none⟩) c zs) : readInts w (.slice (some ⟨g, 0, none⟩) zs.length c) = zs := by
  apply List.ext_getElem
  · simp [readInts]
  · intro i h1 h2
    have := h.cell (i := i) (List.getElem?_eq_getElem h2)
    simp [readInts, this]
/-- How many rounds are still to come. -/
def roundsLeft (top : Int) (w : World) (v : Value) : Nat := if readInts w v = [] then 0 else leftF (readInts w v) top + 1
theorem roundsLeft_own {w : World} {B g c : Nat} {zs : List Int} {top : Int} (h : Own w B (some ⟨g, 0, none⟩) c zs) (h1 : 1 ≤ zs.length) : roundsLeft top w (.slice (some ⟨g, 0, none⟩) zs.length c) = leftF zs top + 1 := by
  unfold roundsLeft
  rw [readInts_own h, if_neg (by intro e; rw [e] at h1; simp at h1)]
theorem roundsLeft_nil (top : Int) (w : World) : roundsLeft top w (.slice none 0 0) = 0 := by simp [roundsLeft, readInts]

/-- Whether by the kind no bid is better than the value, at any bids. -/
def isTrueF (kd n top : Nat) : Bool := (allF top (List.replicate n 0)).all (fun b => restF kd b b (top + 1))
/-- Bids that may come. -/
def Fit (top n : Nat) (ys : List Int) : Prop := ys.length = n ∧ ∀ x ∈ ys, 0 ≤ x ∧ x ≤ (top : Int)
theorem Fit.zero (top n : Nat) : Fit top n (List.replicate n 0) := ⟨by simp, fun x hx => by rw [List.eq_of_mem_replicate hx]; omega⟩
theorem Fit.next {top n : Nat} {ys zs : List Int} (h : Fit top n ys) (hn : nextF ys top = some zs) : Fit top n zs ∧ leftF zs top < leftF ys top := by
  obtain ⟨h1, h2, h3⟩ := leftF_lt (by omega) h.2 hn
  exact ⟨⟨by rw [h3]; exact h.1, h2⟩, h1⟩
theorem Fit.small {top n : Nat} {ys : List Int} (h : Fit top n ys) (ht : top ≤ 1048576) : Small ys := fun x hx => by have := h.2 x hx; omega

end Go.Proofs.Ytoipjhdnmiomeaa

/-
  Chapter 1, the program: a loop over all bids, where the body knows what lies behind the slice that it is handed.
-/
namespace Go.Proofs.Ytoipjhdnmiomeaa
open Go.RowKit Go.Shelf
attribute [local go_sem] Oper.semAt_some

/-- What the iterator leans on behind a round: its own block and the box of the top. -/
def SameTwo (bt g0 : Nat) (A B : World) : Prop := ∀ k, k = bt ∨ k = g0 → B.heap[k]? = A.heap[k]?

/-- An iterator over all bids of n bidders up to the top. -/
def IterB (P : Program) (gf : Nat) (lb : Array Value) (top n bt : Nat) (w0 : World) : Prop :=
  ∀ (l : Nat) (J : Option (List Int) → World → Prop) (Jx : World → Prop) (W : World), Below w0.heap.size w0 W →
    (∀ s A B, J s A → A.grownBy B (some W.heap.size) → J s B) → (∀ A B, Jx A → A.grownBy B (some W.heap.size) → Jx B) →
    (∀ ys gb c Wp W1, J (some ys) Wp → Below Wp.heap.size Wp W1 → Wp.heap.size ≤ gb → Fit top n ys → W.heap.size < gb → Own W1 W.heap.size (some ⟨gb, 0, none⟩) c ys →
      YieldAt Fence.wide 3 P l #[.slice (some ⟨gb, 0, none⟩) ys.length c] W1 fun e W' =>
        (e = .returned (.bool true) ∧ J (nextF ys top) W' ∧ SameTwo bt W.heap.size W1 W') ∨ (e = .returned (.bool false) ∧ Jx W')) →
    J (some (List.replicate n 0)) W →
    CallsIn Fence.wide 4 P gf (#[.func (.yield l) #[] #[]] ++ lb) W fun e W' => (∃ v, e = .returned v) ∧ (J none W' ∨ Jx W')

/-- What the loop's own turns leave as it is: those of its record, of the block for deferred calls, and of the iterator's own block. -/
def Stays (B : Nat) (I : World → Prop) : Prop :=
  ∀ (A C : World) (r : Nat), I A → A.grownBy C (some r) → (r = B + 2 ∨ (B ≤ r ∧ ∃ o, A.heap[r]? = some o ∧ o.isCells = false)) → I C

theorem Stays.alloc {B : Nat} {I : World → Prop} (h : Stays B I) {A : World} (o : Obj) (hA : I A) : I (A.alloc o) :=
  h A _ (B + 2) hA (World.grownBy_alloc A o _) (.inl rfl)
theorem Stays.put {B : Nat} {I : World → Prop} (h : Stays B I) {A : World} {k : Nat} {o : Obj} (o' : Obj) (hA : I A) (hB : B ≤ k) (hk : A.heap[k]? = some o) (ho : o.isCells = false) : I (A.putObj k o') :=
  h A _ k hA (grownBy_putObj' A k o') (.inr ⟨hB, o, hk, ho⟩)

/-- How a round may end. -/
def roundEnds (bt g0 : Nat) (I : Option (List Int) → World → Prop) (Ix : World → Prop) (s : Option (List Int)) (W : World) : Exit → Act → World → Prop
  | .normal, _, W' => KeepsOthers W W' ∧ SameTwo bt g0 W W' ∧ I s W'
  | .ret, _, W' => KeepsOthers W W' ∧ Ix W'
  | _, _, _ => False

set_option maxHeartbeats 1000000 in
theorem range_known {P : Program} {g : Operand} {p : Tmp} {assign body : Code} {Q : Exit → Act → World → Prop} {a : Act} {w : World} {gf : Nat} {lb : Array Value} {top n bt : Nat}
    (hg : a.eval g = .func (.func gf) #[] lb) (eg : Enters P gf) (hit : IterB P gf lb top n bt w) (hbt : bt < w.heap.size)
    (I : Option (List Int) → World → Prop) (Ix : World → Prop) (hI : ∀ s, Stays w.heap.size (I s)) (hIx : Stays w.heap.size Ix) (h0 : I (some (List.replicate n 0)) w) (a₁ : Value → Act)
    (hassign : ∀ (l : Nat) (v : Value) (W : World) (K : Act → World → Prop), K (a₁ v) W →
      assign.wpIn (Fence.wide.inRound l) 3 P (Exit.then K (fun _ _ _ => False)) { tmps := (#[p].zip #[v]).foldl (fun t (p, v) => t.setIfInBounds p v) a.tmps, defers := [] } W)
    (hbody : ∀ (l : Nat) (ys : List Int) (gb c : Nat) (Wp W : World), I (some ys) Wp → Wp.grownBy W (some (w.heap.size + 1)) → Wp.heap.size ≤ gb → I (some ys) W → Fit top n ys → w.heap.size + 2 < gb → Own W (w.heap.size + 2) (some ⟨gb, 0, none⟩) c ys →
      body.wpIn (Fence.wide.inRound l) 3 P (roundEnds bt (w.heap.size + 2) I Ix (nextF ys top) W) (a₁ (.slice (some ⟨gb, 0, none⟩) ys.length c)) W)
    (hdone : ∀ (D : Nat) (W : World), w.heap.size ≤ D → I none W → W.heap[D]? = some (.deferred (some [])) → Q .normal { a with defers := { target := .collected D, args := #[] } :: a.defers } W)
    (hstop : ∀ (D : Nat) (W : World), w.heap.size ≤ D → Ix W → W.heap[D]? = some (.deferred (some [])) → Code.ret.wpIn Fence.wide 5 P Q { a with defers := { target := .collected D, args := #[] } :: a.defers } W) :
    (Code.rangeFunc g #[p] assign body).wpIn Fence.wide 5 P Q a w := by
  refine wpIn_rangeFunc fun fn hfn => ?_
  -- the record in its states
  let R : LoopState → Option Code → Obj := fun st pe => .loop { state := st, pending := pe, fn, tmps := a.tmps, params := #[p], assign, body, defers := w.heap.size }
  let W1 : World := (w.alloc (.deferred (some []))).alloc (R .ready none)
  have hs : W1.heap.size = w.heap.size + 2 := by simp [W1]
  have hrec : W1.heap[w.heap.size + 1]? = some (R .ready none) := by
    have := World.alloc_heap_new (w.alloc (.deferred (some []))) (R .ready none)
    rwa [World.size_alloc] at this
  have hdef : W1.heap[w.heap.size]? = some (.deferred (some [])) := (Below.heap_alloc _ _ _ (by simp)).trans (World.alloc_heap_new w _)
  have hbel : Below w.heap.size w W1 := ((Below.refl _ w).alloc (Nat.le_refl _) _).alloc (by simp) _
  refine ⟨w.heap.size + 1, [{ target := .collected w.heap.size, args := #[] }], W1, { target := .fn (.func gf) lb, args := #[.func (.yield (w.heap.size + 1)) #[] #[]] }, W1, gf,
    #[.func (.yield (w.heap.size + 1)) #[] #[]] ++ lb, W1, run_enterLoop_outer _ _ _ _ _, ?_, fun _ _ => trivial, ?_, (fun h => by cases h), ?_⟩
  · simp only [resolve, hg]
    simp [go_sem]
  · simp [invoke, go_sem]
    exact eg _ _
  · refine (hit (w.heap.size + 1) (fun s W => I s W ∧ W.heap[w.heap.size + 1]? = some (R .ready none) ∧ W.heap[w.heap.size]? = some (.deferred (some [])))
      (fun W => Ix W ∧ W.heap[w.heap.size + 1]? = some (R .done (some .ret)) ∧ W.heap[w.heap.size]? = some (.deferred (some []))) W1 hbel ?_ ?_ ?_ ?_).mono ?_
    · rintro s A C ⟨hi, hl, hk⟩ hgr
      rw [hs] at hgr
      exact ⟨hI s A C _ hi hgr (.inl rfl), (hgr.block _ (Array.getElem?_eq_some_iff.1 hl).1 (by simp)).trans hl, (hgr.block _ (Array.getElem?_eq_some_iff.1 hk).1 (by simp)).trans hk⟩
    · rintro A C ⟨hi, hl, hk⟩ hgr
      rw [hs] at hgr
      exact ⟨hIx A C _ hi hgr (.inl rfl), (hgr.block _ (Array.getElem?_eq_some_iff.1 hl).1 (by simp)).trans hl, (hgr.block _ (Array.getElem?_eq_some_iff.1 hk).1 (by simp)).trans hk⟩
    · rintro ys gb c Wp W ⟨hip, hlp, hkp⟩ hbp hge hfit hgb hown
      rw [hs] at hgb hown
      have hgp : Wp.grownBy W (some (w.heap.size + 2)) := ⟨hbp.os, hbp.tape, hbp.output, hbp.size, fun i hi _ => hbp.block i hi⟩
      have hgl : Wp.grownBy W (some (w.heap.size + 1)) := ⟨hbp.os, hbp.tape, hbp.output, hbp.size, fun i hi _ => hbp.block i hi⟩
      have hi := hI _ Wp W _ hip hgp (.inl rfl)
      have hl := (hbp.block _ (Array.getElem?_eq_some_iff.1 hlp).1).trans hlp
      have hk := (hbp.block _ (Array.getElem?_eq_some_iff.1 hkp).1).trans hkp
      have hlt := (Array.getElem?_eq_some_iff.1 hl).1
      refine ⟨fn, _, assign, body, run_yield (r := { state := .ready, pending := none, fn, tmps := a.tmps, params := #[p], assign, body, defers := w.heap.size }) hl rfl,
        roundIn_of_wpIn hfn (hassign _ _ W _ ⟨_, run_beginRound hl rfl, ?_⟩)⟩
      -- the round is on: the record says so
      have hl2 := World.putObj_heap_same (w := W) (o := R .busy none) hlt
      have hk2 := (World.putObj_heap_other (w := W) (r := w.heap.size + 1) (o := R .busy none) (k := w.heap.size) (by omega)).trans hk
      have ho2 : Own (W.putObj (w.heap.size + 1) (R .busy none)) (w.heap.size + 2) (some ⟨gb, 0, none⟩) c ys :=
        World.ownsRow.kept hown (grownBy_putObj' W _ _) (.inr (by simp [Value.ownBlock]; omega))
      refine wpIn_mono (hbody _ ys gb c Wp _ hip (hgl.trans (grownBy_putObj' W _ _)) hge ((hI _).put _ hi (by omega) hl rfl) hfit hgb ho2) ?_
      rintro e a3 W3 hp
      cases e with
      | normal =>
        obtain ⟨hk3, hs3, hi3⟩ := hp
        have hl3 := hk3.same _ _ hl2 rfl
        refine ⟨_, _, run_endRound none hl3, .inl ⟨rfl, ⟨(hI _).put _ hi3 (by omega) hl3 rfl, World.putObj_heap_same (Array.getElem?_eq_some_iff.1 hl3).1, (World.putObj_heap_other (by omega)).trans (hk3.same _ _ hk2 rfl)⟩, fun k hkk => ?_⟩⟩
        rw [hs] at hkk
        have hne : k ≠ w.heap.size + 1 := by omega
        rw [World.putObj_heap_other hne, hs3 k hkk, World.putObj_heap_other hne]
      | ret =>
        obtain ⟨hk3, hi3⟩ := hp
        have hl3 := hk3.same _ _ hl2 rfl
        exact ⟨_, _, run_endRound (some .ret) hl3, .inr ⟨rfl, hIx.put _ hi3 (by omega) hl3 rfl, World.putObj_heap_same (Array.getElem?_eq_some_iff.1 hl3).1, (World.putObj_heap_other (by omega)).trans (hk3.same _ _ hk2 rfl)⟩⟩
      | exit id => exact hp.elim
      | goto t => exact hp.elim
      | panic ch => exact hp.elim
      | outgrown => exact hp.elim
    · exact ⟨(hI _).alloc _ ((hI _).alloc _ h0), hrec, hdef⟩
    · rintro e W2 ⟨⟨v, rfl⟩, ⟨hi, hl, hk⟩ | ⟨hi, hl, hk⟩⟩
      · exact ⟨none, _, run_endLoop hl (by simp), hdone _ _ (Nat.le_refl _) ((hI _).put _ hi (by omega) hl rfl) ((World.putObj_heap_other (by omega)).trans hk)⟩
      · exact ⟨some .ret, _, run_endLoop hl (by simp), hstop _ _ (Nat.le_refl _) (hIx.put _ hi (by omega) hl rfl) ((World.putObj_heap_other (by omega)).trans hk)⟩

end Go.Proofs.Ytoipjhdnmiomeaa

/-
  Chapter 1, the program: the contract of allBids, an iterator over all bids.
-/
namespace Go.Proofs.Ytoipjhdnmiomeaa
open Go.RowKit Go.Shelf
attribute [local go_sem] Oper.semAt_some

theorem wpListIn_make_ints {F : Fence} {m : Nat} {ops : Array Oper} {rest : List Oper} {o : Oper} {a : Act} {w : World} {Q : Exit → Act → World → Prop} (hg : o.guard = none) (l c : Operand)
    (hop : o.op = Op.makeSlice 23 l c) (base n : Nat) (hl : a.eval l = .int .i64 (n : Int)) (hc : a.eval c = .int .i64 (n : Int)) (hn : n ≤ 1099511627776) (hb : base ≤ w.heap.size)
    (hK : ∀ w', Own w' base (some ⟨w.heap.size, 0, none⟩) n (List.replicate n 0) → w.grownBy w' none → wpListIn F m Try.prog ops Q rest (a.put o.dst (.slice (some ⟨w.heap.size, 0, none⟩) n n)) w') :
    wpListIn F m Try.prog ops Q (o :: rest) a w := by
  obtain ⟨i0, hi, hz0, hz1, hz2⟩ := info_parts int_info
  refine wpListIn_plain hg fun K hK' => ?_
  obtain ⟨w', hrun, r1, r2⟩ := run_make_full (P := Try.prog) w base 23 3 i0 (.int .i64 0) 1 Try.underlying23 hi hz0 hz1 .i64 .i64 n (by rw [hz2]; omega) (by unfold maxLen; omega) hb
  have ho : Own w' base (some ⟨w.heap.size, 0, none⟩) n (List.replicate n 0) := by
    unfold Own
    simpa [toList_madeCells_one, Value.cells] using r1
  unfold Oper.wpIn
  refine ⟨by simp [Oper.about, hop], ?_⟩
  rw [Oper.semAt_plain F _ _ (by rw [hop]; intro c hc'; cases hc')]
  simp [execOp, hop, hl, hc, hrun, Result.andThen]
  exact hK' _ _ (hK w' ho r2)

theorem Own.same {w w' : World} {B g c : Nat} {zs : List Int} (h : Own w B (some ⟨g, 0, none⟩) c zs) (he : w'.heap[g]? = w.heap[g]?) : Own w' B (some ⟨g, 0, none⟩) c zs := by
  refine ⟨h.1, ?_⟩
  rcases h.2 with h2 | ⟨g', cap, cur, hv, hg, hh, r⟩
  · exact .inl h2
  · have hv' := hv
    injection hv' with hA _ _
    injection hA with hA
    injection hA with hA
    subst hA
    exact .inr ⟨g, cap, cur, hv, hg, he.trans hh, r⟩
theorem cell_same {w w' : World} {b : Nat} {v : Value} (h : w.cell? ⟨b, 0, none⟩ = some v) (he : w'.heap[b]? = w.heap[b]?) : w'.cell? ⟨b, 0, none⟩ = some v := by
  rw [← h]; unfold World.cell?; rw [he]
theorem grown_of_below {w w' : World} (h : Below w.heap.size w w') (r : Option Nat) : w.grownBy w' r := ⟨h.os, h.tape, h.output, h.size, fun i hi _ => h.block i hi⟩

theorem Clone_n {n : Nat} (b off c : Nat) (xs : List Int) (w : World) (hn : xs.length = n) (h : Rd w (some ⟨b, off, none⟩) c xs) (hl : n ≤ 1099511627776) :
    Calls Try.prog 89 #[.slice (some ⟨b, off, none⟩) n c] w (OutIs w xs) := by
  subst hn; exact Clone_any b off c xs w h hl
theorem nextBids_n {n : Nat} (B g c : Nat) (xs : List Int) (top : Int) (w : World) (hn : xs.length = n) (h : Own w B (some ⟨g, 0, none⟩) c xs) (hl : n ≤ 1048576) (ht0 : 0 ≤ top) (ht1 : top ≤ 1048576) (hb : ∀ x ∈ xs, 0 ≤ x ∧ x ≤ top) :
    Calls Try.prog 95 #[.slice (some ⟨g, 0, none⟩) n c, .int .i64 top] w (NextIn w B g c xs top) := by
  subst hn; exact nextBids_any B g c xs top w h hl ht0 ht1 hb
theorem roundsLeft_n {w : World} {B g c n : Nat} {zs : List Int} {top : Int} (hn : zs.length = n) (h : Own w B (some ⟨g, 0, none⟩) c zs) (h1 : 1 ≤ n) : roundsLeft top w (.slice (some ⟨g, 0, none⟩) n c) = leftF zs top + 1 := by
  subst hn; exact roundsLeft_own h h1

set_option maxRecDepth 100000 in
set_option maxHeartbeats 2000000 in
theorem allBids1_iter (top n bn bt : Nat) (w0 : World) (hn1 : 1 ≤ n) (hn : n ≤ 3) (ht : top ≤ 5) (hcn : w0.cell? ⟨bn, 0, none⟩ = some (.int .i64 n)) (hct : w0.cell? ⟨bt, 0, none⟩ = some (.int .i64 top)) :
    IterB Try.prog 94 #[.pointer (some ⟨bn, 0, none⟩), .pointer (some ⟨bt, 0, none⟩)] top n bt w0 := by
  intro l J Jx W hW hJ hJx hY h0
  have hbt0 := World.block_lt_of_cell? w0 _ hct
  have cn := (hW.cell (p := ⟨bn, 0, none⟩) (World.block_lt_of_cell? w0 _ hcn)).trans hcn
  have ct := (hW.cell (p := ⟨bt, 0, none⟩) hbt0).trans hct
  have hbt1 : bt < W.heap.size := Nat.lt_of_lt_of_le hbt0 hW.size
  clear hcn hct hbt0
  have hY' := Lib.hid hY
  have hJ' := Lib.hid hJ
  have hJx' := Lib.hid hJx
  clear hY hJ hJx hW
  refine callsIn_of_wp Try.func94 rfl trivial ?_ rfl
  simp only [Try.ntmps94, List.size_toArray, List.length_cons, List.length_nil, Nat.reduceAdd, Nat.reduceSub, Array.replicate_succ, Array.replicate_zero, List.push_toArray, List.append_toArray, List.nil_append, List.cons_append]
  gi_wp2_with (gi_at_make; refine wpListIn_make_ints rfl _ _ rfl W.heap.size n rfl rfl (by omega) (Nat.le_refl _) ?_; intro w1 ho hg)
  have hs1 : W.heap.size < w1.heap.size := ho.lt
  have h1 := hJ'.out _ _ _ h0 (hg.but _)
  have ct1 := (hg.cell_far ⟨bt, 0, none⟩ hbt1 (by simp)).trans ct
  clear cn ct h0 hg
  gi_loopw [15] (fun _ wr => ∃ ys, Own wr W.heap.size (some ⟨W.heap.size, 0, none⟩) n ys ∧ Hid (Fit top n ys) ∧ Hid (J (some ys) wr) ∧ wr.cell? ⟨bt, 0, none⟩ = some (.int .i64 top))
    (fun _ wr => roundsLeft top wr (.slice (some ⟨W.heap.size, 0, none⟩) n n))
  case atStart => exact ⟨List.replicate n 0, ho, Lib.hid (Fit.zero top n), Lib.hid h1, ct1⟩
  case round =>
    obtain ⟨ys, hor, HF, HJ, hct⟩ := hrel
    have HL := Lib.hid (roundsLeft_n (top := top) HF.out.1 hor hn1)
    gi_wp2_with (refine ⟨trivial, ?_⟩; gi_at_call 89; refine (callsIn_wide.2 (Clone_n _ _ _ _ _ HF.out.1 hor.rd (by omega))).mono ?_; rintro e w2 ⟨g, c1, rfl, o2, b2⟩)
    have hgb : W.heap.size < g := Nat.lt_of_lt_of_le hor.lt o2.ge
    have hor2 := hor.below b2
    have hct2 := (b2.cell (p := ⟨bt, 0, none⟩) (Nat.lt_trans hbt1 hor.lt)).trans hct
    obtain ⟨fn, tmps, assign, body, hy, hR⟩ := hY'.out ys g c1 wr w2 HJ.out b2 o2.ge HF.out hgb (o2.base (Nat.le_of_lt hor.lt))
    clear hct o2 hgb
    gi_wp2
    rw [hy]
    gi_wp2
    refine hR.mono ?_
    rintro e w3 (⟨rfl, hJ3, hk3⟩ | ⟨rfl, hJx3⟩)
    · have hor3 := hor2.same (hk3 _ (.inr rfl))
      have hct3 := cell_same hct2 (hk3 _ (.inl rfl))
      have HJ3 := Lib.hid hJ3
      clear hJ3 hk3 hor2 hct2 hy hR
      gi_wp2_with (refine ⟨trivial, ?_⟩; gi_at_call 95; refine (callsIn_wide.2 (nextBids_n _ _ _ _ _ _ HF.out.1 hor3 (by omega) (by omega) (by omega) HF.out.2)).mono ?_; rintro e w4 (⟨zs, HN, hzl, rfl, o4, gr4⟩ | ⟨HN, rfl, gr4⟩))
      · have HJ4 := HJ3.out
        rw [HN] at HJ4
        have HJ5 := Lib.hid (hJ'.out _ _ _ HJ4 gr4)
        obtain ⟨hf4, hl4⟩ := HF.out.next HN
        have HF4 := Lib.hid hf4
        have HL4 := Lib.hid hl4
        have hct4 := (gr4.cell_far ⟨bt, 0, none⟩ (Nat.lt_trans hbt1 hor3.lt) (by simp; omega)).trans hct3
        clear HN HJ4 hf4 hl4 hzl
        gi_wp2
        go_roundw
        case rel => exact ⟨zs, o4, HF4, HJ5, hct4⟩
        case measure => rw [HL.out, roundsLeft_n HF4.out.1 o4 hn1]; have := HL4.out; omega
      · have HJ4 := HJ3.out
        rw [HN] at HJ4
        have HJ5 := Lib.hid (hJ'.out _ _ _ HJ4 gr4)
        clear HN HJ4
        gi_wp2
        go_end0
        exact ⟨⟨_, rfl⟩, .inl HJ5.out⟩
    · have HX := Lib.hid hJx3
      clear hJx3 hor2 hct2 hy hR
      gi_wp2
      refine ⟨trivial, ?_⟩
      gi_wp2
      go_end0
      exact ⟨⟨_, rfl⟩, .inr HX.out⟩

set_option maxHeartbeats 1000000 in
theorem allBids_in (n top : Int) (w : World) :
    CallsIn Fence.wide 4 Try.prog 86 #[.int .i64 n, .int .i64 top] w fun e w' =>
      e = .returned (.func (.func 94) #[] #[.pointer (some ⟨w.heap.size, 0, none⟩), .pointer (some ⟨w.heap.size + 1, 0, none⟩)]) ∧ w' = (w.alloc (.cells #[.int .i64 n] 3)).alloc (.cells #[.int .i64 top] 3) := by
  refine callsIn_of_wp Try.func86 rfl trivial ?_ rfl
  simp only [Try.ntmps86, List.size_toArray, List.length_cons, List.length_nil, Nat.reduceAdd, Nat.reduceSub, Array.replicate_succ, Array.replicate_zero, List.push_toArray, List.append_toArray, List.nil_append, List.cons_append]
  gi_wp2
  go_ret
  exact ⟨rfl, rfl⟩

end Go.Proofs.Ytoipjhdnmiomeaa

/-
  Chapter 1 in plain arithmetic: by which kinds truth is best.
-/
namespace Go.Proofs.Ytoipjhdnmiomeaa

theorem runF_fit {top n : Nat} : ∀ (m : Nat) (xs : List Int), Fit top n xs → ∀ ys ∈ runF top m xs, Fit top n ys
  | 0, xs, _, ys, h => by simp [runF] at h
  | m + 1, xs, hf, ys, h => by
    rw [runF] at h
    rcases List.mem_cons.1 h with rfl | h
    · exact hf
    · cases hn : nextF xs top with
      | none => rw [hn] at h; simp at h
      | some zs =>
        rw [hn] at h
        exact runF_fit m zs (hf.next hn).1 ys h
theorem allF_fit {top n : Nat} {xs ys : List Int} (hf : Fit top n xs) (h : ys ∈ allF top xs) : Fit top n ys := runF_fit _ xs hf ys h

theorem set_own {xs : List Int} {i : Nat} {x : Int} (hx : xs[i]? = some x) : xs.set i x = xs := set_self hx

theorem second_true (n top : Nat) : isTrueF 2 n top = true := by
  unfold isTrueF
  rw [List.all_eq_true]
  intro ys hy
  have hf := allF_fit (Fit.zero top n) hy
  unfold restF
  rw [List.all_eq_true]
  intro i hi
  have hi : i < ys.length := List.mem_range.1 hi
  obtain ⟨x, hx⟩ := at_some hi
  unfold restAt
  rw [List.all_eq_true, getD_of hx]
  intro b _
  rw [decide_eq_true_eq]
  have := truth_best (xs := ys) (i := i) (v := x) (r := 0) (b := b) hi (hf.2 x (List.mem_of_getElem? hx)).1
  rw [set_own hx] at this
  exact this

theorem firstT : ∀ n top : Nat, 1 ≤ n → n ≤ 3 → top ≤ 5 → isTrueF 1 n top = decide (top = 0) := by
  intro n top h1 h2 h3
  have hn : n = 1 ∨ n = 2 ∨ n = 3 := by omega
  have ht : top = 0 ∨ top = 1 ∨ top = 2 ∨ top = 3 ∨ top = 4 ∨ top = 5 := by omega
  rcases hn with rfl | rfl | rfl <;> rcases ht with rfl | rfl | rfl | rfl | rfl | rfl <;> decide +kernel
theorem allT : ∀ n top : Nat, 1 ≤ n → n ≤ 3 → top ≤ 5 → isTrueF 4 n top = decide (top = 0) := by
  intro n top h1 h2 h3
  have hn : n = 1 ∨ n = 2 ∨ n = 3 := by omega
  have ht : top = 0 ∨ top = 1 ∨ top = 2 ∨ top = 3 ∨ top = 4 ∨ top = 5 := by omega
  rcases hn with rfl | rfl | rfl <;> rcases ht with rfl | rfl | rfl | rfl | rfl | rfl <;> decide +kernel
theorem thirdT : ∀ top : Nat, top ≤ 5 → isTrueF 3 3 top = decide (top = 0) := by
  intro top h3
  have ht : top = 0 ∨ top = 1 ∨ top = 2 ∨ top = 3 ∨ top = 4 ∨ top = 5 := by omega
  rcases ht with rfl | rfl | rfl | rfl | rfl | rfl <;> decide +kernel

end Go.Proofs.Ytoipjhdnmiomeaa
