/-
  Chapter 1 in plain arithmetic: truth is best by second, and by first no more is gained.
-/
import Derived.Test.YtnojlapjkdihmaaBest
import Derived.Test.YtnojlapjkdihmaaPlB
import Derived.Test.YtnojlapjkdihmaaG14
namespace Go.Proofs.Ytnojlapjkdihmaa

theorem pay_ge {kd : Nat} {xs : List Int} {r x p : Int} {i : Nat} (hv : vB xs = true) (hr : 0 ≤ r) (hx : xs[i]? = some x) (hp : (payOf kd xs r)[i]? = some p) : 0 ≤ p := by
  have hb : ∀ y ∈ xs, 0 ≤ y := by
    simp only [vB, Bool.and_eq_true, List.all_eq_true] at hv
    intro y hy
    exact (inR_true.1 (hv.2 y hy)).1
  by_cases hk : kd = 4
  · subst hk
    rw [payOf_all, hx] at hp
    have := Option.some.inj hp
    have := hb x (List.mem_of_getElem? hx)
    omega
  · by_cases hi : (i : Int) = atOf xs r
    · by_cases hlt : xs.getD (gr xs xs.length) 0 < r
      · rw [atOf_none hlt] at hi; omega
      · rw [atOf_some hlt] at hi
        have hig : gr xs xs.length = i := by omega
        rw [payOf_some hk hlt, hig, List.getElem?_set, if_pos rfl, if_pos (by simpa using (List.getElem?_eq_some_iff.1 hx).1)] at hp
        have := Option.some.inj hp
        omega
    · rw [pay_zero hk hx hp hi]; omega

theorem gain_le {kd : Nat} {xs : List Int} {i : Nat} {v r : Int} (hv : vB xs = true) (hr : 0 ≤ r) (h0 : 0 ≤ v) (hi : i < xs.length) : gainF kd xs i v r ≤ v := by
  obtain ⟨x, hx⟩ := at_some hi
  obtain ⟨p, hp⟩ := at_some (xs := payOf kd xs r) (k := i) (by rw [payOf_len]; exact hi)
  have := pay_ge hv hr hx hp
  by_cases ha : atOf xs r = i
  · rw [gain_win rfl hp ha]; omega
  · rw [gain_lose rfl hp ha]; omega

theorem second_win {xs : List Int} {i : Nat} {v r b : Int} (hi : i < xs.length) (h : atOf (xs.set i b) r = i) : gainF 2 (xs.set i b) i v r = v - max r (othersMax xs i) := by
  have hp := pay_second (by rw [List.length_set]; exact hi) h
  rw [gain_win rfl hp h, others_set]
theorem any_lose {kd : Nat} {xs : List Int} {i : Nat} {v r b : Int} (hk : kd ≠ 4) (hi : i < xs.length) (h : atOf (xs.set i b) r ≠ i) : gainF kd (xs.set i b) i v r = 0 := by
  obtain ⟨p, hp⟩ := at_some (xs := payOf kd (xs.set i b) r) (k := i) (by rw [payOf_len, List.length_set]; exact hi)
  rw [gain_lose rfl hp h, pay_zero hk (set_at hi b) hp (fun e => h e.symm)]; rfl

/-- Truth never loses by second. -/
theorem truth_ge {xs : List Int} {i : Nat} {v r : Int} (hi : i < xs.length) (h0 : 0 ≤ v) : 0 ≤ gainF 2 (xs.set i v) i v r := by
  by_cases h : atOf (xs.set i v) r = i
  · rw [second_win hi h]
    have hw := (win_iff hi).1 h
    have := others_le h0 hw.2.2
    omega
  · rw [any_lose (by decide) hi h]; exact Int.le_refl 0

/-- No other bid has more by second. -/
theorem truth_best {xs : List Int} {i : Nat} {v r b : Int} (hi : i < xs.length) (h0 : 0 ≤ v) : gainF 2 (xs.set i b) i v r ≤ gainF 2 (xs.set i v) i v r := by
  have hT := truth_ge (r := r) hi h0
  by_cases h : atOf (xs.set i b) r = i
  · by_cases h' : atOf (xs.set i v) r = i
    · rw [second_win hi h, second_win hi h']; exact Int.le_refl _
    · rw [second_win hi h]
      have hp : v ≤ max r (othersMax xs i) := by
        rcases Int.lt_or_le (max r (othersMax xs i)) v with hlt | hge
        · exact absurd ((win_iff hi).2 ⟨by omega, fun j y hj hy => by have := others_ge (xs := xs) (i := i) (by omega) hy; omega, fun j y hj hy => by have := others_ge hj hy; omega⟩) h'
        · exact hge
      omega
  · rw [any_lose (by decide) hi h]; exact hT

/-- By first no more is gained than by truth by second. -/
theorem first_le {xs : List Int} {i : Nat} {v r b : Int} (hi : i < xs.length) (h0 : 0 ≤ v) (hb : 0 ≤ b) : gainF 1 (xs.set i b) i v r ≤ gainF 2 (xs.set i v) i v r := by
  have hT := truth_ge (r := r) hi h0
  by_cases h : atOf (xs.set i b) r = i
  · have hw := (win_iff hi).1 h
    have hM := others_le hb hw.2.2
    have hg := (gr_iff (set_at hi b)).2 ((at_iff (set_at hi b)).1 h).2
    have hp : (payOf 1 (xs.set i b) r)[i]? = some b := by
      rw [payOf_first (by rw [hg, getD_of (set_at hi b)]; omega), hg, getD_of (set_at hi b), List.getElem?_set, if_pos rfl, if_pos (by simpa using hi)]
    rw [gain_win rfl hp h]
    rcases Int.lt_or_le b v with hlt | hge
    · rw [second_win hi (win_up hi h (by omega))]; omega
    · omega
  · rw [any_lose (by decide) hi h]; exact hT

theorem best_spec (g : Nat → Int) : ∀ n, (bestF g n).1 ≤ n ∧ g (bestF g n).1 = (bestF g n).2 ∧ (∀ b, b ≤ n → g b ≤ (bestF g n).2) ∧ (∀ b, b < (bestF g n).1 → g b < (bestF g n).2)
  | 0 => ⟨Nat.le_refl _, rfl, fun b hb => by obtain rfl : b = 0 := by omega
                                             exact Int.le_refl _, fun b hb => by simp [bestF] at hb⟩
  | n + 1 => by
    obtain ⟨h1, h2, h3, h4⟩ := best_spec g n
    rw [bestF]
    split
    · rename_i hlt
      refine ⟨Nat.le_refl _, rfl, fun b hb => ?_, fun b hb => ?_⟩
      · rcases Nat.lt_or_ge b (n + 1) with h | h
        · have := h3 b (by omega)
          show g b ≤ g (n + 1)
          omega
        · obtain rfl : b = n + 1 := by omega
          exact Int.le_refl _
      · have h : b < n + 1 := hb
        have := h3 b (by omega)
        show g b < g (n + 1)
        omega
    · rename_i hge
      refine ⟨by omega, h2, fun b hb => ?_, h4⟩
      rcases Nat.lt_or_ge b (n + 1) with h | h
      · exact h3 b (by omega)
      · obtain rfl : b = n + 1 := by omega
        omega

/-- The best bid's gain by second is that of truth. -/
theorem best_second {xs : List Int} {i v : Nat} {r : Int} (hi : i < xs.length) (hv : v ≤ 30) : (bestF (gB 2 xs i v r) 30).2 = gainF 2 (xs.set i v) i v r := by
  obtain ⟨h1, h2, h3, _⟩ := best_spec (gB 2 xs i v r) 30
  have ha := h3 v hv
  have hb := truth_best (xs := xs) (i := i) (v := (v : Int)) (r := r) (b := ((bestF (gB 2 xs i v r) 30).1 : Int)) hi (by omega)
  rw [← h2] at ha ⊢
  unfold gB at ha hb ⊢
  omega
theorem best_first {xs : List Int} {i v : Nat} {r : Int} (hi : i < xs.length) : (bestF (gB 1 xs i v r) 30).2 ≤ gainF 2 (xs.set i v) i v r := by
  obtain ⟨h1, h2, h3, _⟩ := best_spec (gB 1 xs i v r) 30
  rw [← h2]
  exact first_le hi (by omega) (by omega)

theorem set_self {xs : List Int} {i : Nat} {x : Int} (hx : xs[i]? = some x) : xs.set i x = xs := by
  obtain ⟨hi, rfl⟩ := List.getElem?_eq_some_iff.1 hx
  exact List.set_getElem_self hi
theorem truth_best' {xs : List Int} {i : Nat} {v r : Int} (hi : i < xs.length) (h0 : 0 ≤ v) : gainF 2 xs i v r ≤ gainF 2 (xs.set i v) i v r := by
  obtain ⟨x, hx⟩ := at_some hi
  have := truth_best (xs := xs) (i := i) (v := v) (r := r) (b := x) hi h0
  rw [set_self hx] at this
  exact this
theorem wB_set {xs : List Int} {i : Nat} {b : Int} (h : wB xs i = true) (h0 : 0 ≤ b) (h1 : b ≤ 30) : wB (xs.set i b) i = true := by
  have hw := wB_le h
  exact wB_yes (vB_set hw.1 h0 h1) hw.2.1 (by rw [List.length_set]; exact hw.2.2.1)

end Go.Proofs.Ytnojlapjkdihmaa

/-
  Chapter 1 in plain arithmetic: bids one after the other; where all rest.
-/
namespace Go.Proofs.Ytnojlapjkdihmaa

/-- Whether the bidder i has no more of another bid up to top. -/
def restAt (kd : Nat) (vals bids : List Int) (top i : Nat) : Bool := (List.range (top + 1)).all (fun b => decide (gB kd bids i (vals.getD i 0) 0 b ≤ gainF kd bids i (vals.getD i 0) 0))
/-- Whether all rest. -/
def restF (kd : Nat) (vals bids : List Int) (top : Nat) : Bool := (List.range bids.length).all (restAt kd vals bids top)

theorem range_step {p : Nat → Bool} {k : Nat} (h : (List.range k).all p = true) (hk : p k = true) : (List.range (k + 1)).all p = true := by
  rw [List.range_succ, List.all_append, h]; simp [hk]
theorem range_bad {p : Nat → Bool} {k n : Nat} (hk : k < n) (h : p k = false) : (List.range n).all p = false := by
  rw [List.all_eq_false]
  exact ⟨k, List.mem_range.2 hk, by simp [h]⟩

theorem restAt_best (kd : Nat) (vals bids : List Int) (top i : Nat) : restAt kd vals bids top i = decide ((bestF (gB kd bids i (vals.getD i 0) 0) top).2 ≤ gainF kd bids i (vals.getD i 0) 0) := by
  obtain ⟨h1, h2, h3, _⟩ := best_spec (gB kd bids i (vals.getD i 0) 0) top
  rw [Bool.eq_iff_iff]
  simp only [restAt, List.all_eq_true, List.mem_range, decide_eq_true_eq]
  constructor
  · intro h
    rw [← h2]
    exact h _ (by omega)
  · intro h b hb
    have := h3 b (by omega)
    omega

end Go.Proofs.Ytnojlapjkdihmaa
