/-
  The laws' helper that compares two slices of ints; what holds of a sale.
-/
import Derived.Test.YtnojlapjkdihmaaG13
import Derived.Test.YtnojlapjkdihmaaG05
import Derived.Test.YtnojlapjkdihmaaG12
namespace Go.Proofs.Ytnojlapjkdihmaa
open Go.RowKit

set_option maxHeartbeats 400000 in
theorem equalInts_any (A B : Option Addr) (c d : Nat) (xs ys : List Int) (w : World) (h1 : Rd w A c xs) (h2 : Rd w B d ys) (hl : xs.length ≤ 1099511627776) :
    Calls Try.prog 54 #[.slice A xs.length c, .slice B ys.length d] w (BoolIs w (eqB xs ys)) := by
  by_cases hlen : xs.length = ys.length
  · have he : ((xs.length : Int) != (ys.length : Int)) = false := by simp [hlen]
    have HL := Lib.hid hlen
    have hle : ys.length ≤ xs.length := by omega
    have hle' : xs.length ≤ ys.length := by omega
    clear hlen
    go_enter Try.func54, Try.ntmps54
    go_wp2
    go_loopw [5] (fun i wr => ∃ k n : Nat, k ≤ xs.length ∧ i = .int .i64 k ∧ wr = w.drewN n ∧ Hid (xs.take k = ys.take k))
      (fun i _ => xs.length - (intOf i).toNat)
    case atStart => exact ⟨0, 0, Nat.zero_le _, rfl, rfl, Lib.hid rfl⟩
    case round =>
      obtain ⟨k, n, hk, rfl, rfl, HT⟩ := hrel
      by_cases hlt : k < xs.length
      · obtain ⟨b1, o1, x, rfl, _, hx, hc1⟩ := h1.at_ hlt
        have hlt2 : k < ys.length := by omega
        obtain ⟨b2, o2, y, rfl, _, hy, hc2⟩ := h2.at_ hlt2
        by_cases hxy : x = y
        · subst hxy
          have hne : (x != x) = false := by simp
          have HT' := Lib.hid (take_step hx.out hy.out HT.out)
          go_wp2
          go_quiet (fail)
          go_wp2
          go_roundw
          case rel => exact ⟨k + 1, _, by omega, by go_num, rfl, HT'⟩
          case measure => simp [intOf]; omega
        · have hne : (x != y) = true := by simpa using hxy
          have HE := Lib.hid (eqB_at hx.out hy.out hxy)
          go_wp2
          go_quiet (fail)
          go_wp2
          go_ret
          exact ⟨by rw [HE.out]; rfl, n + nq, World.drewN_drewN _ _ _⟩
      · obtain rfl : k = xs.length := by omega
        have HE := Lib.hid (eqB_all HL.out HT.out)
        go_wp2
        go_ret
        exact ⟨by rw [HE.out]; rfl, _, rfl⟩
  · have he : ((xs.length : Int) != (ys.length : Int)) = true := by simp; omega
    have HE := Lib.hid (eqB_len hlen)
    go_enter Try.func54, Try.ntmps54
    go_wp2
    go_ret
    exact ⟨by rw [HE.out]; rfl, 0, rfl⟩

theorem equalInts_n (A B : Option Addr) (c d n : Nat) (xs : List Int) (w : World) (hn : xs.length = n) (h1 : Rd w A c xs) (h2 : Rd w B d xs) (hl : n ≤ 1099511627776) :
    Calls Try.prog 54 #[.slice A n c, .slice B n d] w (BoolIs w true) := by
  subst hn
  have := equalInts_any A B c d xs xs w h1 h2 hl
  rw [eqB_self] at this
  exact this

theorem nth_le : ∀ (m : Nat) (xs : List Int) (M : Int), 0 ≤ M → (∀ x ∈ xs, x ≤ M) → nthG m xs ≤ M
  | 0, xs, M, h0, h => by
    rw [nthG_zero, List.getD_eq_getElem?_getD]
    cases hx : xs[gr xs xs.length]? with
    | none => exact h0
    | some x => exact h x (List.mem_of_getElem? hx)
  | m + 1, xs, M, h0, h => by
    rw [nthG_succ]
    exact nth_le m _ M h0 (fun x hx => h x (List.mem_of_mem_eraseIdx hx))

theorem gr_ge {xs : List Int} {i : Nat} {x y : Int} (hx : xs[i]? = some x) (hy : xs[gr xs xs.length]? = some y) : x ≤ y := by
  have := gr_max xs xs.length i (List.getElem?_eq_some_iff.1 hx).1
  rw [getD_of hx, getD_of hy] at this
  exact this

/-- What a bidder pays, by all kinds but that by which all pay. -/
theorem pay_zero {kd : Nat} {xs : List Int} {r x p : Int} {i : Nat} (hk : kd ≠ 4) (hx : xs[i]? = some x) (hp : (payOf kd xs r)[i]? = some p) (hi : (i : Int) ≠ atOf xs r) : p = 0 := by
  have hl := (List.getElem?_eq_some_iff.1 hx).1
  by_cases hlt : xs.getD (gr xs xs.length) 0 < r
  · rw [payOf_none hk hlt, List.getElem?_replicate, if_pos hl] at hp
    exact (Option.some.inj hp).symm
  · rw [atOf_some hlt] at hi
    rw [payOf_some hk hlt, List.getElem?_set, if_neg (by omega), List.getElem?_replicate, if_pos hl] at hp
    exact (Option.some.inj hp).symm

theorem pay_le {kd : Nat} {xs : List Int} {r x p : Int} {i : Nat} (hv : vB xs = true) (hx : xs[i]? = some x) (hp : (payOf kd xs r)[i]? = some p) : p ≤ x := by
  have hb : ∀ y ∈ xs, 0 ≤ y := by
    simp only [vB, Bool.and_eq_true, List.all_eq_true] at hv
    intro y hy
    exact (inR_true.1 (hv.2 y hy)).1
  by_cases hk : kd = 4
  · subst hk
    rw [payOf_all] at hp
    rw [hx] at hp
    have := Option.some.inj hp
    omega
  · by_cases hi : (i : Int) = atOf xs r
    · have hl := (List.getElem?_eq_some_iff.1 hx).1
      by_cases hlt : xs.getD (gr xs xs.length) 0 < r
      · rw [atOf_none hlt] at hi; omega
      · rw [atOf_some hlt] at hi
        have hig : i = gr xs xs.length := by omega
        rw [payOf_some hk hlt, List.getElem?_set, if_pos hig.symm, if_pos (by simpa using (by omega : gr xs xs.length < xs.length))] at hp
        have hp := Option.some.inj hp
        rw [← hig, getD_of hx] at hlt
        have hn := nth_le (kd - 1) xs x (hb x (List.mem_of_getElem? hx)) (fun y hy => by
          obtain ⟨j, hj, he⟩ := List.getElem_of_mem hy
          have hj' : xs[j]? = some y := by rw [List.getElem?_eq_getElem hj, he]
          exact gr_ge hj' (by rw [← hig]; exact hx))
        omega
    · rw [pay_zero hk hx hp hi]; exact hb x (List.mem_of_getElem? hx)

theorem kind_all {s : ByteArray} {kd : Nat} (hk : KindIs s kd) : (s.toList == [97, 108, 108]) = decide (kd = 4) := by
  rcases hk with ⟨rfl, rfl⟩ | ⟨rfl, rfl⟩ | ⟨rfl, rfl⟩ | ⟨rfl, rfl⟩ <;> rw [Lib.toList_data] <;> decide

end Go.Proofs.Ytnojlapjkdihmaa

/-
  Chapter 1 in plain arithmetic: when a bidder has the thing, and what second asks then.
-/
namespace Go.Proofs.Ytnojlapjkdihmaa

theorem findF_some {p : Nat → Bool} : ∀ (n k m : Nat), findF p n k = some m → p m = true ∧ k ≤ m ∧ m < k + n ∧ ∀ b, k ≤ b → b < m → p b = false
  | 0, k, m, h => by simp [findF] at h
  | n + 1, k, m, h => by
    rw [findF] at h
    split at h
    · rename_i hp
      have := Option.some.inj h
      subst this
      exact ⟨hp, Nat.le_refl _, by omega, fun b h1 h2 => by omega⟩
    · rename_i hp
      obtain ⟨h1, h2, h3, h4⟩ := findF_some n (k + 1) m h
      refine ⟨h1, by omega, by omega, fun b hb1 hb2 => ?_⟩
      rcases Nat.lt_or_ge k b with hkb | hkb
      · exact h4 b (by omega) hb2
      · obtain rfl : b = k := by omega
        simpa using hp

theorem gr_iff {xs : List Int} {i : Nat} {x : Int} (hx : xs[i]? = some x) :
    gr xs xs.length = i ↔ (∀ j y, j < i → xs[j]? = some y → y < x) ∧ (∀ (j : Nat) y, xs[j]? = some y → y ≤ x) := by
  have hi := (List.getElem?_eq_some_iff.1 hx).1
  have hg := gr_lt xs xs.length (by omega)
  obtain ⟨z, hz⟩ : ∃ z, xs[gr xs xs.length]? = some z := ⟨_, List.getElem?_eq_getElem hg⟩
  constructor
  · intro h
    rw [h, hx] at hz
    have hz := Option.some.inj hz
    refine ⟨fun j y hj hy => ?_, fun j y hy => ?_⟩
    · have := gr_first xs xs.length j (by rw [h]; exact hj)
      rw [h, getD_of hx, getD_of hy] at this
      exact this
    · exact gr_ge hy (by rw [h]; exact hx)
  · rintro ⟨h1, h2⟩
    rcases Nat.lt_trichotomy (gr xs xs.length) i with h | h | h
    · have h3 := h1 _ z h hz
      have h4 := gr_ge hx hz
      omega
    · exact h
    · have h3 := gr_first xs xs.length i h
      rw [getD_of hx, getD_of hz] at h3
      have h4 := h2 _ z hz
      omega

/-- The bidder i has the thing: of the greatest bids the first, and at least the reserve. -/
theorem at_iff {xs : List Int} {i : Nat} {x r : Int} (hx : xs[i]? = some x) :
    atOf xs r = i ↔ r ≤ x ∧ (∀ j y, j < i → xs[j]? = some y → y < x) ∧ (∀ (j : Nat) y, xs[j]? = some y → y ≤ x) := by
  have hi := (List.getElem?_eq_some_iff.1 hx).1
  have hg := gr_lt xs xs.length (by omega)
  rw [← gr_iff hx]
  by_cases hlt : xs.getD (gr xs xs.length) 0 < r
  · rw [atOf_none hlt]
    constructor
    · intro h; omega
    · rintro ⟨h1, h2⟩
      rw [h2, getD_of hx] at hlt
      omega
  · rw [atOf_some hlt]
    constructor
    · intro h
      have h' : gr xs xs.length = i := by omega
      rw [h', getD_of hx] at hlt
      exact ⟨by omega, h'⟩
    · rintro ⟨_, h⟩; rw [h]

theorem set_at {xs : List Int} {i : Nat} (hi : i < xs.length) (b : Int) : (xs.set i b)[i]? = some b := by simp [hi]
theorem set_other {xs : List Int} {i j : Nat} (h : j ≠ i) (b : Int) : (xs.set i b)[j]? = xs[j]? := by
  rw [List.getElem?_set]; rw [if_neg (fun e => h e.symm)]

/-- The greatest bid of the others. -/
def othersMax (xs : List Int) (i : Nat) : Int := nthG 0 (xs.eraseIdx i)

theorem others_ge {xs : List Int} {i j : Nat} {y : Int} (hj : j ≠ i) (hy : xs[j]? = some y) : y ≤ othersMax xs i := by
  have hl := (List.getElem?_eq_some_iff.1 hy).1
  have hm : y ∈ xs.eraseIdx i := by
    rcases Nat.lt_or_ge j i with h | h
    · exact List.mem_of_getElem? (i := j) (by rw [List.getElem?_eraseIdx, if_pos h]; exact hy)
    · exact List.mem_of_getElem? (i := j - 1) (by rw [List.getElem?_eraseIdx, if_neg (by omega), show j - 1 + 1 = j by omega]; exact hy)
  obtain ⟨k, hk, he⟩ := List.getElem_of_mem hm
  have := gr_max (xs.eraseIdx i) _ k hk
  rw [List.getD_eq_getElem?_getD, List.getElem?_eq_getElem hk, he] at this
  unfold othersMax
  rw [nthG_zero]
  exact this

theorem others_le {xs : List Int} {i : Nat} {M : Int} (h0 : 0 ≤ M) (h : ∀ (j : Nat) y, j ≠ i → xs[j]? = some y → y ≤ M) : othersMax xs i ≤ M := by
  refine nth_le 0 _ M h0 (fun y hy => ?_)
  obtain ⟨k, hk, he⟩ := List.getElem_of_mem hy
  have hk' : (xs.eraseIdx i)[k]? = some y := by rw [List.getElem?_eq_getElem hk, he]
  rw [List.getElem?_eraseIdx] at hk'
  split at hk'
  · exact h k y (by omega) hk'
  · exact h (k + 1) y (by omega) hk'

/-- What the bidder who has the thing pays by second. -/
theorem pay_second {xs : List Int} {i : Nat} {r : Int} (hi : i < xs.length) (h : atOf xs r = i) : (payOf 2 xs r)[i]? = some (max r (othersMax xs i)) := by
  obtain ⟨x, hx⟩ := at_some hi
  have hw := (at_iff hx).1 h
  have hg := (gr_iff hx).2 hw.2
  rw [payOf_some (by decide) (by rw [hg, getD_of hx]; omega), hg, List.getElem?_set, if_pos rfl, if_pos (by simpa using hi), show 2 - 1 = 0 + 1 from rfl, nthG_succ, hg]
  rfl

theorem others_set (xs : List Int) (i : Nat) (b : Int) : othersMax (xs.set i b) i = othersMax xs i := by
  unfold othersMax; rw [List.eraseIdx_set_eq]

theorem win_iff {xs : List Int} {i : Nat} {r b : Int} (hi : i < xs.length) :
    atOf (xs.set i b) r = i ↔ r ≤ b ∧ (∀ j y, j < i → xs[j]? = some y → y < b) ∧ (∀ (j : Nat) y, j ≠ i → xs[j]? = some y → y ≤ b) := by
  rw [at_iff (set_at hi b)]
  constructor
  · rintro ⟨h1, h2, h3⟩
    exact ⟨h1, fun j y hj hy => h2 j y hj (by rw [set_other (by omega)]; exact hy), fun j y hj hy => h3 j y (by rw [set_other hj]; exact hy)⟩
  · rintro ⟨h1, h2, h3⟩
    refine ⟨h1, fun j y hj hy => h2 j y hj (by rw [set_other (by omega)] at hy; exact hy), fun j y hy => ?_⟩
    by_cases hj : j = i
    · subst hj; rw [set_at hi] at hy; have := Option.some.inj hy; omega
    · rw [set_other hj] at hy; exact h3 j y hj hy

theorem win_up {xs : List Int} {i : Nat} {r b b' : Int} (hi : i < xs.length) (h : atOf (xs.set i b) r = i) (hb : b ≤ b') : atOf (xs.set i b') r = i := by
  rw [win_iff hi] at h ⊢
  exact ⟨by omega, fun j y hj hy => by have := h.2.1 j y hj hy; omega, fun j y hj hy => by have := h.2.2 j y hj hy; omega⟩

/-- What second asks of the one who has it is the least bid, or one less. -/
theorem least_price {xs : List Int} {i out : Nat} {r : Int} (hi : i < xs.length) (hr0 : 0 ≤ r) (h : leastF xs i r = some out) :
    max r (othersMax xs i) ≤ out ∧ (out : Int) - 1 ≤ max r (othersMax xs i) := by
  obtain ⟨h1, h2, h3, h4⟩ := findF_some 31 0 out h
  unfold winB at h1 h4
  have hw := (win_iff hi).1 (of_decide_eq_true h1)
  have hM : othersMax xs i ≤ out := others_le (by omega) hw.2.2
  refine ⟨by omega, ?_⟩
  have hp : 0 ≤ max r (othersMax xs i) := by omega
  obtain ⟨p, hpe⟩ := Int.eq_ofNat_of_zero_le hp
  rw [hpe]
  by_cases hlt : p + 1 < out
  · have := h4 (p + 1) (by omega) hlt
    have hn : ¬ atOf (xs.set i ((p + 1 : Nat) : Int)) r = i := of_decide_eq_false this
    exact absurd ((win_iff hi).2 ⟨by omega, fun j y hj hy => by have := others_ge (xs := xs) (i := i) (by omega) hy; omega, fun j y hj hy => by have := others_ge hj hy; omega⟩) hn
  · omega

theorem least_win {xs : List Int} {i out b : Nat} {r : Int} (hi : i < xs.length) (h : leastF xs i r = some out) (hb : out ≤ b) : atOf (xs.set i b) r = i := by
  obtain ⟨h1, _⟩ := findF_some 31 0 out h
  unfold winB at h1
  exact win_up hi (of_decide_eq_true h1) (by omega)
theorem least_lose {xs : List Int} {i out b : Nat} {r : Int} (h : leastF xs i r = some out) (hb : b < out) : atOf (xs.set i b) r ≠ i := by
  obtain ⟨_, _, _, h4⟩ := findF_some 31 0 out h
  have := h4 b (by omega) hb
  unfold winB at this
  exact of_decide_eq_false this
theorem least_le {xs : List Int} {i out : Nat} {r : Int} (h : leastF xs i r = some out) : out ≤ 30 := by
  have := (findF_some 31 0 out h).2.2.1; omega

theorem vB_set {xs : List Int} {i : Nat} {b : Int} (h : vB xs = true) (h0 : 0 ≤ b) (h1 : b ≤ 30) : vB (xs.set i b) = true := by
  simp only [vB, Bool.and_eq_true, List.all_eq_true, List.length_set] at h ⊢
  refine ⟨h.1, fun x hx => ?_⟩
  rcases List.mem_or_eq_of_mem_set hx with h2 | h2
  · exact h.2 x h2
  · subst h2; exact inR_true.2 ⟨h0, h1⟩

end Go.Proofs.Ytnojlapjkdihmaa

/-
  Chapter 1 in plain arithmetic: truth is best by second, and by first no more is gained.
-/
namespace Go.Proofs.Ytnojlapjkdihmaa

theorem pay_ge {kd : Nat} {xs : List Int} {r x p : Int} {i : Nat} (hv : vB xs = true) (hr : 0 ≤ r) (hx : xs[i]? = some x) (hp : (payOf kd xs r)[i]? = some p) : 0 ≤ p := by
  have hb : ∀ y ∈ xs, 0 ≤ y := by
    simp only [vB, Bool.and_eq_true, List.all_eq_true] at hv
    intro y hy
    exact (inR_true.1 (hv.2 y hy)).1
  by_cases hk : kd = 4
  · subst hk
    rw [payOf_all, hx] at hp
    have := Option.some.inj hp
    have := hb x (List.mem_of_getElem? hx)
    omega
  · by_cases hi : (i : Int) = atOf xs r
    · by_cases hlt : xs.getD (gr xs xs.length) 0 < r
      · rw [atOf_none hlt] at hi; omega
      · rw [atOf_some hlt] at hi
        have hig : gr xs xs.length = i := by omega
        rw [payOf_some hk hlt, hig, List.getElem?_set, if_pos rfl, if_pos (by simpa using (List.getElem?_eq_some_iff.1 hx).1)] at hp
        have := Option.some.inj hp
        omega
    · rw [pay_zero hk hx hp hi]; omega

theorem gain_le {kd : Nat} {xs : List Int} {i : Nat} {v r : Int} (hv : vB xs = true) (hr : 0 ≤ r) (h0 : 0 ≤ v) (hi : i < xs.length) : gainF kd xs i v r ≤ v := by
  obtain ⟨x, hx⟩ := at_some hi
  obtain ⟨p, hp⟩ := at_some (xs := payOf kd xs r) (k := i) (by rw [payOf_len]; exact hi)
  have := pay_ge hv hr hx hp
  by_cases ha : atOf xs r = i
  · rw [gain_win rfl hp ha]; omega
  · rw [gain_lose rfl hp ha]; omega

theorem second_win {xs : List Int} {i : Nat} {v r b : Int} (hi : i < xs.length) (h : atOf (xs.set i b) r = i) : gainF 2 (xs.set i b) i v r = v - max r (othersMax xs i) := by
  have hp := pay_second (by rw [List.length_set]; exact hi) h
  rw [gain_win rfl hp h, others_set]
theorem any_lose {kd : Nat} {xs : List Int} {i : Nat} {v r b : Int} (hk : kd ≠ 4) (hi : i < xs.length) (h : atOf (xs.set i b) r ≠ i) : gainF kd (xs.set i b) i v r = 0 := by
  obtain ⟨p, hp⟩ := at_some (xs := payOf kd (xs.set i b) r) (k := i) (by rw [payOf_len, List.length_set]; exact hi)
  rw [gain_lose rfl hp h, pay_zero hk (set_at hi b) hp (fun e => h e.symm)]; rfl

/-- Truth never loses by second. -/
theorem truth_ge {xs : List Int} {i : Nat} {v r : Int} (hi : i < xs.length) (h0 : 0 ≤ v) : 0 ≤ gainF 2 (xs.set i v) i v r := by
  by_cases h : atOf (xs.set i v) r = i
  · rw [second_win hi h]
    have hw := (win_iff hi).1 h
    have := others_le h0 hw.2.2
    omega
  · rw [any_lose (by decide) hi h]; exact Int.le_refl 0

/-- No other bid has more by second. -/
theorem truth_best {xs : List Int} {i : Nat} {v r b : Int} (hi : i < xs.length) (h0 : 0 ≤ v) : gainF 2 (xs.set i b) i v r ≤ gainF 2 (xs.set i v) i v r := by
  have hT := truth_ge (r := r) hi h0
  by_cases h : atOf (xs.set i b) r = i
  · by_cases h' : atOf (xs.set i v) r = i
    · rw [second_win hi h, second_win hi h']; exact Int.le_refl _
    · rw [second_win hi h]
      have hp : v ≤ max r (othersMax xs i) := by
        rcases Int.lt_or_le (max r (othersMax xs i)) v with hlt | hge
        · exact absurd ((win_iff hi).2 ⟨by omega, fun j y hj hy => by have := others_ge (xs := xs) (i := i) (by omega) hy; omega, fun j y hj hy => by have := others_ge hj hy; omega⟩) h'
        · exact hge
      omega
  · rw [any_lose (by decide) hi h]; exact hT

/-- By first no more is gained than by truth by second. -/
theorem first_le {xs : List Int} {i : Nat} {v r b : Int} (hi : i < xs.length) (h0 : 0 ≤ v) (hb : 0 ≤ b) : gainF 1 (xs.set i b) i v r ≤ gainF 2 (xs.set i v) i v r := by
  have hT := truth_ge (r := r) hi h0
  by_cases h : atOf (xs.set i b) r = i
  · have hw := (win_iff hi).1 h
    have hM := others_le hb hw.2.2
    have hg := (gr_iff (set_at hi b)).2 ((at_iff (set_at hi b)).1 h).2
    have hp : (payOf 1 (xs.set i b) r)[i]? = some b := by
      rw [payOf_first (by rw [hg, getD_of (set_at hi b)]; omega), hg, getD_of (set_at hi b), List.getElem?_set, if_pos rfl, if_pos (by simpa using hi)]
    rw [gain_win rfl hp h]
    rcases Int.lt_or_le b v with hlt | hge
    · rw [second_win hi (win_up hi h (by omega))]; omega
    · omega
  · rw [any_lose (by decide) hi h]; exact hT

theorem best_spec (g : Nat → Int) : ∀ n, (bestF g n).1 ≤ n ∧ g (bestF g n).1 = (bestF g n).2 ∧ (∀ b, b ≤ n → g b ≤ (bestF g n).2) ∧ (∀ b, b < (bestF g n).1 → g b < (bestF g n).2)
  | 0 => ⟨Nat.le_refl _, rfl, fun b hb => by obtain rfl : b = 0 := by omega
                                             exact Int.le_refl _, fun b hb => by simp [bestF] at hb⟩
  | n + 1 => by
    obtain ⟨h1, h2, h3, h4⟩ := best_spec g n
    rw [bestF]
    split
    · rename_i hlt
      refine ⟨Nat.le_refl _, rfl, fun b hb => ?_, fun b hb => ?_⟩
      · rcases Nat.lt_or_ge b (n + 1) with h | h
        · have := h3 b (by omega)
          show g b ≤ g (n + 1)
          omega
        · obtain rfl : b = n + 1 := by omega
          exact Int.le_refl _
      · have h : b < n + 1 := hb
        have := h3 b (by omega)
        show g b < g (n + 1)
        omega
    · rename_i hge
      refine ⟨by omega, h2, fun b hb => ?_, h4⟩
      rcases Nat.lt_or_ge b (n + 1) with h | h
      · exact h3 b (by omega)
      · obtain rfl : b = n + 1 := by omega
        omega

/-- The best bid's gain by second is that of truth. -/
theorem best_second {xs : List Int} {i v : Nat} {r : Int} (hi : i < xs.length) (hv : v ≤ 30) : (bestF (gB 2 xs i v r) 30).2 = gainF 2 (xs.set i v) i v r := by
  obtain ⟨h1, h2, h3, _⟩ := best_spec (gB 2 xs i v r) 30
  have ha := h3 v hv
  have hb := truth_best (xs := xs) (i := i) (v := (v : Int)) (r := r) (b := ((bestF (gB 2 xs i v r) 30).1 : Int)) hi (by omega)
  rw [← h2] at ha ⊢
  unfold gB at ha hb ⊢
  omega
theorem best_first {xs : List Int} {i v : Nat} {r : Int} (hi : i < xs.length) : (bestF (gB 1 xs i v r) 30).2 ≤ gainF 2 (xs.set i v) i v r := by
  obtain ⟨h1, h2, h3, _⟩ := best_spec (gB 1 xs i v r) 30
  rw [← h2]
  exact first_le hi (by omega) (by omega)

theorem set_self {xs : List Int} {i : Nat} {x : Int} (hx : xs[i]? = some x) : xs.set i x = xs := by
  obtain ⟨hi, rfl⟩ := List.getElem?_eq_some_iff.1 hx
  exact List.set_getElem_self hi
theorem truth_best' {xs : List Int} {i : Nat} {v r : Int} (hi : i < xs.length) (h0 : 0 ≤ v) : gainF 2 xs i v r ≤ gainF 2 (xs.set i v) i v r := by
  obtain ⟨x, hx⟩ := at_some hi
  have := truth_best (xs := xs) (i := i) (v := v) (r := r) (b := x) hi h0
  rw [set_self hx] at this
  exact this
theorem wB_set {xs : List Int} {i : Nat} {b : Int} (h : wB xs i = true) (h0 : 0 ≤ b) (h1 : b ≤ 30) : wB (xs.set i b) i = true := by
  have hw := wB_le h
  exact wB_yes (vB_set hw.1 h0 h1) hw.2.1 (by rw [List.length_set]; exact hw.2.2.1)

end Go.Proofs.Ytnojlapjkdihmaa

/-
  Chapter 1 in plain arithmetic: bids one after the other; where all rest.
-/
namespace Go.Proofs.Ytnojlapjkdihmaa

/-- Whether the bidder i has no more of another bid up to top. -/
def restAt (kd : Nat) (vals bids : List Int) (top i : Nat) : Bool := (List.range (top + 1)).all (fun b => decide (gB kd bids i (vals.getD i 0) 0 b ≤ gainF kd bids i (vals.getD i 0) 0))
/-- Whether all rest. -/
def restF (kd : Nat) (vals bids : List Int) (top : Nat) : Bool := (List.range bids.length).all (restAt kd vals bids top)

theorem range_step {p : Nat → Bool} {k : Nat} (h : (List.range k).all p = true) (hk : p k = true) : (List.range (k + 1)).all p = true := by
  rw [List.range_succ, List.all_append, h]; simp [hk]
theorem range_bad {p : Nat → Bool} {k n : Nat} (hk : k < n) (h : p k = false) : (List.range n).all p = false := by
  rw [List.all_eq_false]
  exact ⟨k, List.mem_range.2 hk, by simp [h]⟩

theorem restAt_best (kd : Nat) (vals bids : List Int) (top i : Nat) : restAt kd vals bids top i = decide ((bestF (gB kd bids i (vals.getD i 0) 0) top).2 ≤ gainF kd bids i (vals.getD i 0) 0) := by
  obtain ⟨h1, h2, h3, _⟩ := best_spec (gB kd bids i (vals.getD i 0) 0) top
  rw [Bool.eq_iff_iff]
  simp only [restAt, List.all_eq_true, List.mem_range, decide_eq_true_eq]
  constructor
  · intro h
    rw [← h2]
    exact h _ (by omega)
  · intro h b hb
    have := h3 b (by omega)
    omega

end Go.Proofs.Ytnojlapjkdihmaa
