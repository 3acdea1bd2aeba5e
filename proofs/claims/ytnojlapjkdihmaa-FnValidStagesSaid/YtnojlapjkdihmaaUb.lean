/-
  Chapter 3 in plain arithmetic: units given one by one to the one to whom one more is worth the most are worth most.
-/
import Derived.Test.YtnojlapjkdihmaaUa
namespace Go.Proofs.Ytnojlapjkdihmaa

/-- What one more is worth to bidder i, who has h i. -/
def nxv (R : Nat → List Int) (h : Nat → Nat) (i : Nat) : Int := (R i).getD (h i) 0
/-- Of the first m bidders the first one to whom one more is worth the most, -1 if none has a number for it. -/
def nx (R : Nat → List Int) (h : Nat → Nat) : Nat → Int
  | 0 => -1
  | m + 1 => if h m < (R m).length ∧ (nx R h m < 0 ∨ nxv R h (nx R h m).toNat < nxv R h m) then m else nx R h m

theorem nx_is (R : Nat → List Int) (h : Nat → Nat) : ∀ m, (nx R h m = -1 ∧ ∀ j, j < m → (R j).length ≤ h j) ∨
    ∃ a, a < m ∧ nx R h m = (a : Int) ∧ h a < (R a).length ∧ ∀ j, j < m → h j < (R j).length → nxv R h j ≤ nxv R h a
  | 0 => .inl ⟨rfl, fun j hj => absurd hj (by omega)⟩
  | m + 1 => by
    rw [nx]
    rcases nx_is R h m with ⟨e, hn⟩ | ⟨a, ha, e, hca, hmax⟩
    · by_cases hc : h m < (R m).length
      · rw [if_pos ⟨hc, .inl (by omega)⟩]
        refine .inr ⟨m, by omega, rfl, hc, fun j hj hcj => ?_⟩
        rcases Nat.lt_or_ge j m with hjm | hjm
        · have := hn j hjm; omega
        · obtain rfl : j = m := by omega
          exact Int.le_refl _
      · rw [if_neg (fun x => hc x.1)]
        refine .inl ⟨e, fun j hj => ?_⟩
        rcases Nat.lt_or_ge j m with hjm | hjm
        · exact hn j hjm
        · obtain rfl : j = m := by omega
          omega
    · rw [e]
      simp only [Int.toNat_natCast]
      by_cases hc : h m < (R m).length ∧ ((a : Int) < 0 ∨ nxv R h a < nxv R h m)
      · rw [if_pos hc]
        have h2 : nxv R h a < nxv R h m := by rcases hc.2 with x | x <;> omega
        refine .inr ⟨m, by omega, rfl, hc.1, fun j hj hcj => ?_⟩
        rcases Nat.lt_or_ge j m with hjm | hjm
        · have := hmax j hjm hcj; omega
        · obtain rfl : j = m := by omega
          exact Int.le_refl _
      · rw [if_neg hc]
        refine .inr ⟨a, by omega, rfl, hca, fun j hj hcj => ?_⟩
        rcases Nat.lt_or_ge j m with hjm | hjm
        · exact hmax j hjm hcj
        · obtain rfl : j = m := by omega
          have : ¬ nxv R h a < nxv R h j := fun x => hc ⟨hcj, .inr x⟩
          omega

/-- One unit more is given. -/
def stp (R : Nat → List Int) (n : Nat) (h : Nat → Nat) : Nat → Nat := fun i => if (i : Int) = nx R h n then h i + 1 else h i
/-- How many of k units each bidder has. -/
def aw (R : Nat → List Int) (n : Nat) : Nat → Nat → Nat
  | 0 => fun _ => 0
  | k + 1 => stp R n (aw R n k)

theorem stp_none {R : Nat → List Int} {n : Nat} {h : Nat → Nat} (e : nx R h n = -1) : stp R n h = h := by
  funext i
  unfold stp
  rw [e, if_neg (by omega)]
theorem stp_some {R : Nat → List Int} {n a : Nat} {h : Nat → Nat} (e : nx R h n = (a : Int)) : stp R n h = fun i => if i = a then h i + 1 else h i := by
  funext i
  unfold stp
  rw [e]
  by_cases hi : i = a
  · rw [if_pos hi, if_pos (by omega)]
  · rw [if_neg hi, if_neg (by omega)]
theorem aw_still {R : Nat → List Int} {n k : Nat} (e : nx R (aw R n k) n = -1) : ∀ j, aw R n (k + j) = aw R n k
  | 0 => rfl
  | j + 1 => by
    show stp R n (aw R n (k + j)) = _
    rw [aw_still e j, stp_none e]

def Good (R : Nat → List Int) (n : Nat) : Prop := ∀ i, i < n → RowOk (R i)
/-- Every number had is at least every next one. -/
structure Fair (R : Nat → List Int) (h : Nat → Nat) (n : Nat) : Prop where
  len : ∀ i, i < n → h i ≤ (R i).length
  top : ∀ i, i < n → ∀ (p : Nat) (x : Int), p < h i → (R i)[p]? = some x → ∀ j, j < n → ∀ y : Int, (R j)[h j]? = some y → y ≤ x

theorem nxv_of {R : Nat → List Int} {h : Nat → Nat} {j : Nat} {y : Int} (hy : (R j)[h j]? = some y) : nxv R h j = y := by
  unfold nxv; rw [List.getD_eq_getElem?_getD, hy]; rfl

theorem fair_step {R : Nat → List Int} {n : Nat} {h : Nat → Nat} (hg : Good R n) (hf : Fair R h n) : Fair R (stp R n h) n := by
  rcases nx_is R h n with ⟨e, _⟩ | ⟨a, ha, e, hca, hmax⟩
  · rw [stp_none e]; exact hf
  · rw [stp_some e]
    have hza : (R a)[h a]? = some (R a)[h a] := List.getElem?_eq_getElem hca
    -- what is next now was next, or is behind what was
    have hnext : ∀ j, j < n → ∀ y : Int, (R j)[if j = a then h j + 1 else h j]? = some y → ∃ z, (R j)[h j]? = some z ∧ y ≤ z := by
      intro j hj y hy
      by_cases hja : j = a
      · subst hja
        rw [if_pos rfl] at hy
        exact ⟨_, hza, ((hg j hj).2 _ _ hy).2.2 (h j) _ (by omega) hza⟩
      · rw [if_neg hja] at hy
        exact ⟨y, hy, Int.le_refl _⟩
    refine ⟨fun i hi => ?_, fun i hi p x hp hx j hj y hy => ?_⟩
    · show (if i = a then h i + 1 else h i) ≤ _
      have := hf.len i hi
      split
      · subst_vars; omega
      · exact this
    · obtain ⟨z, hz, hyz⟩ := hnext j hj y hy
      have hp : p < if i = a then h i + 1 else h i := hp
      rcases Nat.lt_or_ge p (h i) with hpl | hpl
      · have := hf.top i hi p x hpl hx j hj z hz; omega
      · by_cases hia : i = a
        · subst hia
          rw [if_pos rfl] at hp
          obtain rfl : p = h i := by omega
          rw [hza] at hx
          cases hx
          have h1 := hmax j hj (by have := (List.getElem?_eq_some_iff.1 hz).1; omega)
          rw [nxv_of hz, nxv_of hza] at h1
          omega
        · rw [if_neg hia] at hp; omega

theorem cnt_step {R : Nat → List Int} {n a : Nat} {h : Nat → Nat} (ha : a < n) (e : nx R h n = (a : Int)) : cnt (stp R n h) n = cnt h n + 1 := by
  rw [stp_some e]
  have h1 : cnt (fun i => if i = a then h i + 1 else h i) n - ((if a = a then h a + 1 else h a : Nat) : Int) = cnt h n - h a :=
    sumTo_one (f := fun i => ((if i = a then h i + 1 else h i : Nat) : Int)) (g := fun i => (h i : Int)) ha (fun j _ hne => by simp only [if_neg hne])
  rw [if_pos rfl] at h1
  have e2 : ((h a + 1 : Nat) : Int) = h a + 1 := by push_cast; rfl
  omega
theorem val_step {R : Nat → List Int} {n a : Nat} {h : Nat → Nat} (ha : a < n) (e : nx R h n = (a : Int)) (hc : h a < (R a).length) : val R (stp R n h) n = val R h n + nxv R h a := by
  rw [stp_some e]
  have h1 : val R (fun i => if i = a then h i + 1 else h i) n - pre (R a) (if a = a then h a + 1 else h a) = val R h n - pre (R a) (h a) :=
    sumTo_one (f := fun i => pre (R i) (if i = a then h i + 1 else h i)) (g := fun i => pre (R i) (h i)) ha (fun j _ hne => by simp only [if_neg hne])
  have hza : (R a)[h a]? = some (R a)[h a] := List.getElem?_eq_getElem hc
  rw [if_pos rfl, pre_step hza] at h1
  rw [nxv_of hza]
  omega

theorem fair_aw {R : Nat → List Int} {n : Nat} (hg : Good R n) : ∀ k, Fair R (aw R n k) n
  | 0 => ⟨fun i _ => Nat.zero_le _, fun i _ p x hp => absurd hp (by simp [aw])⟩
  | k + 1 => fair_step hg (fair_aw hg k)
theorem cnt_aw {R : Nat → List Int} {n : Nat} : ∀ k : Nat, (cnt (aw R n k) n = k ∨ nx R (aw R n k) n = -1) ∧ cnt (aw R n k) n ≤ k
  | 0 => by
    have : cnt (aw R n 0) n = 0 := by
      have := sumTo_const 0 n
      simpa [cnt, aw] using this
    exact ⟨.inl (by omega), by omega⟩
  | k + 1 => by
    obtain ⟨h1, h2⟩ := cnt_aw (R := R) (n := n) k
    show (cnt (stp R n (aw R n k)) n = _ ∨ nx R (stp R n (aw R n k)) n = -1) ∧ cnt (stp R n (aw R n k)) n ≤ _
    rcases nx_is R (aw R n k) n with ⟨e, _⟩ | ⟨a, ha, e, _⟩
    · rw [stp_none e]
      exact ⟨.inr e, by omega⟩
    · rw [cnt_step ha e]
      rcases h1 with h1 | h1
      · exact ⟨.inl (by omega), by omega⟩
      · omega

/-- What the next unit is worth to the one who would have it. -/
def nxt (R : Nat → List Int) (h : Nat → Nat) (n : Nat) : Int := if nx R h n = -1 then 0 else nxv R h (nx R h n).toNat
theorem nxt_none {R : Nat → List Int} {h : Nat → Nat} {n : Nat} (e : nx R h n = -1) : nxt R h n = 0 := by unfold nxt; rw [if_pos e]
theorem nxt_some {R : Nat → List Int} {h : Nat → Nat} {n a : Nat} (e : nx R h n = (a : Int)) : nxt R h n = nxv R h a := by unfold nxt; rw [e, if_neg (by omega)]; simp

theorem nxt_nn {R : Nat → List Int} {h : Nat → Nat} {n : Nat} (hg : Good R n) : 0 ≤ nxt R h n ∧ nxt R h n ≤ 30 := by
  rcases nx_is R h n with ⟨e, _⟩ | ⟨a, ha, e, hca, _⟩
  · rw [nxt_none e]; omega
  · have hza : (R a)[h a]? = some (R a)[h a] := List.getElem?_eq_getElem hca
    rw [nxt_some e, nxv_of hza]
    have := (hg a ha).2 _ _ hza
    omega
/-- The next one is at least all that are not had, and no more than any had. -/
theorem nxt_cut {R : Nat → List Int} {h : Nat → Nat} {n : Nat} (hg : Good R n) (hf : Fair R h n) {i : Nat} (hi : i < n) :
    (∀ (j : Nat) (x : Int), j < h i → (R i)[j]? = some x → nxt R h n ≤ x) ∧ (∀ (j : Nat) (x : Int), h i ≤ j → (R i)[j]? = some x → x ≤ nxt R h n) := by
  rcases nx_is R h n with ⟨e, hn⟩ | ⟨a, ha, e, hca, hmax⟩
  · rw [nxt_none e]
    refine ⟨fun j x _ hx => ((hg i hi).2 j x hx).1, fun j x hj hx => ?_⟩
    have := hn i hi
    have := (List.getElem?_eq_some_iff.1 hx).1
    omega
  · have hza : (R a)[h a]? = some (R a)[h a] := List.getElem?_eq_getElem hca
    rw [nxt_some e, nxv_of hza]
    refine ⟨fun j x hj hx => hf.top i hi j x hj hx a ha _ hza, fun j x hj hx => ?_⟩
    have hjl := (List.getElem?_eq_some_iff.1 hx).1
    have hci : h i < (R i).length := by omega
    have hzi : (R i)[h i]? = some (R i)[h i] := List.getElem?_eq_getElem hci
    have h1 := hmax i hi hci
    rw [nxv_of hzi, nxv_of hza] at h1
    rcases Nat.lt_or_ge (h i) j with hlt | hge
    · have := ((hg i hi).2 j x hx).2.2 (h i) _ hlt hzi
      omega
    · obtain rfl : j = h i := by omega
      rw [hzi] at hx; cases hx
      exact h1

theorem val_dual {R : Nat → List Int} {h : Nat → Nat} {n : Nat} (hg : Good R n) (hf : Fair R h n) : val R h n = cnt h n * nxt R h n + ovs (nxt R h n) R n := by
  have e : val R h n = sumTo (fun i => (h i : Int) * nxt R h n + over (nxt R h n) (R i)) n :=
    sumTo_congr (fun i hi => had_is (R i) (h i) (hf.len i hi) (nxt_cut hg hf hi).1 (nxt_cut hg hf hi).2)
  rw [e, sumTo_add, sumTo_mul]
  rfl

/-- The best of k units by a price each. -/
theorem aw_dual {R : Nat → List Int} {n : Nat} (hg : Good R n) (k : Nat) : val R (aw R n k) n = k * nxt R (aw R n k) n + ovs (nxt R (aw R n k) n) R n := by
  rw [val_dual hg (fair_aw hg k)]
  rcases (cnt_aw (R := R) (n := n) k).1 with h | h
  · rw [h]
  · rw [nxt_none h]; simp
theorem aw_best {R : Nat → List Int} {n : Nat} (hg : Good R n) (k : Nat) : val R (aw R n k) n = bst R n k := by
  have h1 := bst_ge (R := R) n k (cnt_aw (R := R) (n := n) k).2
  have h2 := bst_bound (R := R) (nxt_nn (h := aw R n k) hg).1 n k
  rw [← aw_dual hg k] at h2
  omega
theorem bst_dual {R : Nat → List Int} {n : Nat} (hg : Good R n) (k : Nat) : ∃ t, 0 ≤ t ∧ t ≤ 30 ∧ bst R n k = k * t + ovs t R n :=
  ⟨nxt R (aw R n k) n, (nxt_nn hg).1, (nxt_nn hg).2, by rw [← aw_best hg k]; exact aw_dual hg k⟩

/-- One unit more. -/
theorem bst_succ {R : Nat → List Int} {n : Nat} (hg : Good R n) (k : Nat) : bst R n (k + 1) = bst R n k + nxt R (aw R n k) n := by
  rw [← aw_best hg, ← aw_best hg]
  show val R (stp R n (aw R n k)) n = _
  rcases nx_is R (aw R n k) n with ⟨e, _⟩ | ⟨a, ha, e, hca, _⟩
  · rw [stp_none e, nxt_none e]; omega
  · rw [val_step ha e hca, nxt_some e]
theorem nxt_anti {R : Nat → List Int} {n : Nat} (hg : Good R n) (k : Nat) : nxt R (aw R n (k + 1)) n ≤ nxt R (aw R n k) n := by
  rcases nx_is R (aw R n k) n with ⟨e, _⟩ | ⟨a, ha, e, hca, _⟩
  · have := aw_still e 1
    rw [this]; exact Int.le_refl _
  · have h1 := (nxt_cut hg (fair_aw hg (k + 1)) ha).1 (aw R n k a) _ (by show _ < stp R n (aw R n k) a; rw [stp_some e]; simp) (List.getElem?_eq_getElem hca)
    rw [nxt_some e, nxv_of (List.getElem?_eq_getElem hca)]
    exact h1

/-- The best leans on what is above each price alone. -/
theorem bst_same {R R' : Nat → List Int} {n n' : Nat} (hg : Good R n) (hg' : Good R' n') (h : ∀ t, 0 ≤ t → ovs t R n = ovs t R' n') (k : Nat) : bst R n k = bst R' n' k := by
  obtain ⟨t, ht, _, e⟩ := bst_dual hg k
  obtain ⟨t', ht', _, e'⟩ := bst_dual hg' k
  have h1 := bst_bound (R := R) ht' n k
  have h2 := bst_bound (R := R') ht n' k
  rw [h t' ht'] at h1
  rw [← h t ht] at h2
  omega
theorem bst_le600 {R : Nat → List Int} {n : Nat} (hg : Good R n) (k : Nat) : bst R n k ≤ 150 * n := by
  rw [← aw_best hg k]
  have := sumTo_le (f := fun i => pre (R i) (aw R n k i)) (g := fun _ => 150) (n := n) (fun i hi => (pre_le150 (hg i hi) _).2)
  rw [sumTo_const] at this
  unfold val
  omega
theorem bst_mono {R : Nat → List Int} {n : Nat} {j k : Nat} (hjk : j ≤ k) (hg : Good R n) : bst R n j ≤ bst R n k := by
  rw [← aw_best hg j]
  exact bst_ge n k (by have := (cnt_aw (R := R) (n := n) j).2; omega)

/-- How many there are. -/
theorem cnt_min {R : Nat → List Int} {n : Nat} (hg : Good R n) (k : Nat) : cnt (aw R n k) n = min (k : Int) (sumTo (fun i => ((R i).length : Int)) n) := by
  obtain ⟨h1, h2⟩ := cnt_aw (R := R) (n := n) k
  have h3 : cnt (aw R n k) n ≤ sumTo (fun i => ((R i).length : Int)) n := sumTo_le (fun i hi => by have := (fair_aw hg k).len i hi; omega)
  rcases h1 with h1 | h1
  · omega
  · have h4 : sumTo (fun i => ((R i).length : Int)) n ≤ cnt (aw R n k) n := by
      rcases nx_is R (aw R n k) n with ⟨e, hn⟩ | ⟨a, ha, e, _⟩
      · exact sumTo_le (fun i hi => by have := hn i hi; omega)
      · omega
    omega

end Go.Proofs.Ytnojlapjkdihmaa
