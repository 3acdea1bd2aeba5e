/-
  Chapter 3 in plain arithmetic: units given one by one to the one to whom one more is worth the most are worth most.
-/
import Derived.Test.YtnojlapjkdihmaaG01
import Derived.Deep.Matrix
namespace Go.Proofs.Ytnojlapjkdihmaa

/-- What one more is worth to bidder i, who has h i. -/
def nxv (R : Nat → List Int) (h : Nat → Nat) (i : Nat) : Int := (R i).getD (h i) 0
/-- Of the first m bidders the first one to whom one more is worth the most, -1 if none has a number for it. -/
def nx (R : Nat → List Int) (h : Nat → Nat) : Nat → Int
  | 0 => -1
  | m + 1 => if h m < (R m).length ∧ (nx R h m < 0 ∨ nxv R h (nx R h m).toNat < nxv R h m) then m else nx R h m

theorem nx_is (R : Nat → List Int) (h : Nat → Nat) : ∀ m, (nx R h m = -1 ∧ ∀ j, j < m → (R j).length ≤ h j) ∨
    ∃ a, a < m ∧ nx R h m = (a : Int) ∧ h a < (R a).length ∧ ∀ j, j < m → h j < (R j).length → nxv R h j ≤ nxv R h a
  | 0 => .inl ⟨rfl, fun j hj => absurd hj (by omega)⟩
  | m + 1 => by
    rw [nx]
    rcases nx_is R h m with ⟨e, hn⟩ | ⟨a, ha, e, hca, hmax⟩
    · by_cases hc : h m < (R m).length
      · rw [if_pos ⟨hc, .inl (by omega)⟩]
        refine .inr ⟨m, by omega, rfl, hc, fun j hj hcj => ?_⟩
        rcases Nat.lt_or_ge j m with hjm | hjm
        · have := hn j hjm; omega
        · obtain rfl : j = m := by omega
          exact Int.le_refl _
      · rw [if_neg (fun x => hc x.1)]
        refine .inl ⟨e, fun j hj => ?_⟩
        rcases Nat.lt_or_ge j m with hjm | hjm
        · exact hn j hjm
        · obtain rfl : j = m := by omega
          omega
    · rw [e]
      simp only [Int.toNat_natCast]
      by_cases hc : h m < (R m).length ∧ ((a : Int) < 0 ∨ nxv R h a < nxv R h m)
      · rw [if_pos hc]
        have h2 : nxv R h a < nxv R h m := by rcases hc.2 with x | x <;> omega
        refine .inr ⟨m, by omega, rfl, hc.1, fun j hj hcj => ?_⟩
        rcases Nat.lt_or_ge j m with hjm | hjm
        · have := hmax j hjm hcj; omega
        · obtain rfl : j = m := by omega
          exact Int.le_refl _
      · rw [if_neg hc]
        refine .inr ⟨a, by omega, rfl, hca, fun j hj hcj => ?_⟩
        rcases Nat.lt_or_ge j m with hjm | hjm
        · exact hmax j hjm hcj
        · obtain rfl : j = m := by omega
          have : ¬ nxv R h a < nxv R h j := fun x => hc ⟨hcj, .inr x⟩
          omega

/-- One unit more is given. -/
def stp (R : Nat → List Int) (n : Nat) (h : Nat → Nat) : Nat → Nat := fun i => if (i : Int) = nx R h n then h i + 1 else h i
/-- How many of k units each bidder has. -/
def aw (R : Nat → List Int) (n : Nat) : Nat → Nat → Nat
  | 0 => fun _ => 0
  | k + 1 => stp R n (aw R n k)

theorem stp_none {R : Nat → List Int} {n : Nat} {h : Nat → Nat} (e : nx R h n = -1) : stp R n h = h := by
  funext i
  unfold stp
  rw [e, if_neg (by omega)]
theorem stp_some {R : Nat → List Int} {n a : Nat} {h : Nat → Nat} (e : nx R h n = (a : Int)) : stp R n h = fun i => if i = a then h i + 1 else h i := by
  funext i
  unfold stp
  rw [e]
  by_cases hi : i = a
  · rw [if_pos hi, if_pos (by omega)]
  · rw [if_neg hi, if_neg (by omega)]
theorem aw_still {R : Nat → List Int} {n k : Nat} (e : nx R (aw R n k) n = -1) : ∀ j, aw R n (k + j) = aw R n k
  | 0 => rfl
  | j + 1 => by
    show stp R n (aw R n (k + j)) = _
    rw [aw_still e j, stp_none e]

def Good (R : Nat → List Int) (n : Nat) : Prop := ∀ i, i < n → RowOk (R i)
/-- Every number had is at least every next one. -/
structure Fair (R : Nat → List Int) (h : Nat → Nat) (n : Nat) : Prop where
  len : ∀ i, i < n → h i ≤ (R i).length
  top : ∀ i, i < n → ∀ (p : Nat) (x : Int), p < h i → (R i)[p]? = some x → ∀ j, j < n → ∀ y : Int, (R j)[h j]? = some y → y ≤ x

theorem nxv_of {R : Nat → List Int} {h : Nat → Nat} {j : Nat} {y : Int} (hy : (R j)[h j]? = some y) : nxv R h j = y := by
  unfold nxv; rw [List.getD_eq_getElem?_getD, hy]; rfl

theorem fair_step {R : Nat → List Int} {n : Nat} {h : Nat → Nat} (hg : Good R n) (hf : Fair R h n) : Fair R (stp R n h) n := by
  rcases nx_is R h n with ⟨e, _⟩ | ⟨a, ha, e, hca, hmax⟩
  · rw [stp_none e]; exact hf
  · rw [stp_some e]
    have hza : (R a)[h a]? = some (R a)[h a] := List.getElem?_eq_getElem hca
    -- what is next now was next, or is behind what was
    have hnext : ∀ j, j < n → ∀ y : Int, (R j)[if j = a then h j + 1 else h j]? = some y → ∃ z, (R j)[h j]? = some z ∧ y ≤ z := by
      intro j hj y hy
      by_cases hja : j = a
      · subst hja
        rw [if_pos rfl] at hy
        exact ⟨_, hza, ((hg j hj).2 _ _ hy).2.2 (h j) _ (by omega) hza⟩
      · rw [if_neg hja] at hy
        exact ⟨y, hy, Int.le_refl _⟩
    refine ⟨fun i hi => ?_, fun i hi p x hp hx j hj y hy => ?_⟩
    · show (if i = a then h i + 1 else h i) ≤ _
      have := hf.len i hi
      split
      · subst_vars; omega
      · exact this
    · obtain ⟨z, hz, hyz⟩ := hnext j hj y hy
      have hp : p < if i = a then h i + 1 else h i := hp
      rcases Nat.lt_or_ge p (h i) with hpl | hpl
      · have := hf.top i hi p x hpl hx j hj z hz; omega
      · by_cases hia : i = a
        · subst hia
          rw [if_pos rfl] at hp
          obtain rfl : p = h i := by omega
          rw [hza] at hx
          cases hx
          have h1 := hmax j hj (by have := (List.getElem?_eq_some_iff.1 hz).1; omega)
          rw [nxv_of hz, nxv_of hza] at h1
          omega
        · rw [if_neg hia] at hp; omega

theorem cnt_step {R : Nat → List Int} {n a : Nat} {h : Nat → Nat} (ha : a < n) (e : nx R h n = (a : Int)) : cnt (stp R n h) n = cnt h n + 1 := by
  rw [stp_some e]
  have h1 : cnt (fun i => if i = a then h i + 1 else h i) n - ((if a = a then h a + 1 else h a : Nat) : Int) = cnt h n - h a :=
    sumTo_one (f := fun i => ((if i = a then h i + 1 else h i : Nat) : Int)) (g := fun i => (h i : Int)) ha (fun j _ hne => by simp only [if_neg hne])
  rw [if_pos rfl] at h1
  have e2 : ((h a + 1 : Nat) : Int) = h a + 1 := by push_cast; rfl
  omega
theorem val_step {R : Nat → List Int} {n a : Nat} {h : Nat → Nat} (ha : a < n) (e : nx R h n = (a : Int)) (hc : h a < (R a).length) : val R (stp R n h) n = val R h n + nxv R h a := by
  rw [stp_some e]
  have h1 : val R (fun i => if i = a then h i + 1 else h i) n - pre (R a) (if a = a then h a + 1 else h a) = val R h n - pre (R a) (h a) :=
    sumTo_one (f := fun i => pre (R i) (if i = a then h i + 1 else h i)) (g := fun i => pre (R i) (h i)) ha (fun j _ hne => by simp only [if_neg hne])
  have hza : (R a)[h a]? = some (R a)[h a] := List.getElem?_eq_getElem hc
  rw [if_pos rfl, pre_step hza] at h1
  rw [nxv_of hza]
  omega

theorem fair_aw {R : Nat → List Int} {n : Nat} (hg : Good R n) : ∀ k, Fair R (aw R n k) n
  | 0 => ⟨fun i _ => Nat.zero_le _, fun i _ p x hp => absurd hp (by simp [aw])⟩
  | k + 1 => fair_step hg (fair_aw hg k)
theorem cnt_aw {R : Nat → List Int} {n : Nat} : ∀ k : Nat, (cnt (aw R n k) n = k ∨ nx R (aw R n k) n = -1) ∧ cnt (aw R n k) n ≤ k
  | 0 => by
    have : cnt (aw R n 0) n = 0 := by
      have := sumTo_const 0 n
      simpa [cnt, aw] using this
    exact ⟨.inl (by omega), by omega⟩
  | k + 1 => by
    obtain ⟨h1, h2⟩ := cnt_aw (R := R) (n := n) k
    show (cnt (stp R n (aw R n k)) n = _ ∨ nx R (stp R n (aw R n k)) n = -1) ∧ cnt (stp R n (aw R n k)) n ≤ _
    rcases nx_is R (aw R n k) n with ⟨e, _⟩ | ⟨a, ha, e, _⟩
    · rw [stp_none e]
      exact ⟨.inr e, by omega⟩
    · rw [cnt_step ha e]
      rcases h1 with h1 | h1
      · exact ⟨.inl (by omega), by omega⟩
      · omega

/-- What the next unit is worth to the one who would have it. -/
def nxt (R : Nat → List Int) (h : Nat → Nat) (n : Nat) : Int := if nx R h n = -1 then 0 else nxv R h (nx R h n).toNat
theorem nxt_none {R : Nat → List Int} {h : Nat → Nat} {n : Nat} (e : nx R h n = -1) : nxt R h n = 0 := by unfold nxt; rw [if_pos e]
theorem nxt_some {R : Nat → List Int} {h : Nat → Nat} {n a : Nat} (e : nx R h n = (a : Int)) : nxt R h n = nxv R h a := by unfold nxt; rw [e, if_neg (by omega)]; simp

theorem nxt_nn {R : Nat → List Int} {h : Nat → Nat} {n : Nat} (hg : Good R n) : 0 ≤ nxt R h n ∧ nxt R h n ≤ 30 := by
  rcases nx_is R h n with ⟨e, _⟩ | ⟨a, ha, e, hca, _⟩
  · rw [nxt_none e]; omega
  · have hza : (R a)[h a]? = some (R a)[h a] := List.getElem?_eq_getElem hca
    rw [nxt_some e, nxv_of hza]
    have := (hg a ha).2 _ _ hza
    omega
/-- The next one is at least all that are not had, and no more than any had. -/
theorem nxt_cut {R : Nat → List Int} {h : Nat → Nat} {n : Nat} (hg : Good R n) (hf : Fair R h n) {i : Nat} (hi : i < n) :
    (∀ (j : Nat) (x : Int), j < h i → (R i)[j]? = some x → nxt R h n ≤ x) ∧ (∀ (j : Nat) (x : Int), h i ≤ j → (R i)[j]? = some x → x ≤ nxt R h n) := by
  rcases nx_is R h n with ⟨e, hn⟩ | ⟨a, ha, e, hca, hmax⟩
  · rw [nxt_none e]
    refine ⟨fun j x _ hx => ((hg i hi).2 j x hx).1, fun j x hj hx => ?_⟩
    have := hn i hi
    have := (List.getElem?_eq_some_iff.1 hx).1
    omega
  · have hza : (R a)[h a]? = some (R a)[h a] := List.getElem?_eq_getElem hca
    rw [nxt_some e, nxv_of hza]
    refine ⟨fun j x hj hx => hf.top i hi j x hj hx a ha _ hza, fun j x hj hx => ?_⟩
    have hjl := (List.getElem?_eq_some_iff.1 hx).1
    have hci : h i < (R i).length := by omega
    have hzi : (R i)[h i]? = some (R i)[h i] := List.getElem?_eq_getElem hci
    have h1 := hmax i hi hci
    rw [nxv_of hzi, nxv_of hza] at h1
    rcases Nat.lt_or_ge (h i) j with hlt | hge
    · have := ((hg i hi).2 j x hx).2.2 (h i) _ hlt hzi
      omega
    · obtain rfl : j = h i := by omega
      rw [hzi] at hx; cases hx
      exact h1

theorem val_dual {R : Nat → List Int} {h : Nat → Nat} {n : Nat} (hg : Good R n) (hf : Fair R h n) : val R h n = cnt h n * nxt R h n + ovs (nxt R h n) R n := by
  have e : val R h n = sumTo (fun i => (h i : Int) * nxt R h n + over (nxt R h n) (R i)) n :=
    sumTo_congr (fun i hi => had_is (R i) (h i) (hf.len i hi) (nxt_cut hg hf hi).1 (nxt_cut hg hf hi).2)
  rw [e, sumTo_add, sumTo_mul]
  rfl

/-- The best of k units by a price each. -/
theorem aw_dual {R : Nat → List Int} {n : Nat} (hg : Good R n) (k : Nat) : val R (aw R n k) n = k * nxt R (aw R n k) n + ovs (nxt R (aw R n k) n) R n := by
  rw [val_dual hg (fair_aw hg k)]
  rcases (cnt_aw (R := R) (n := n) k).1 with h | h
  · rw [h]
  · rw [nxt_none h]; simp
theorem aw_best {R : Nat → List Int} {n : Nat} (hg : Good R n) (k : Nat) : val R (aw R n k) n = bst R n k := by
  have h1 := bst_ge (R := R) n k (cnt_aw (R := R) (n := n) k).2
  have h2 := bst_bound (R := R) (nxt_nn (h := aw R n k) hg).1 n k
  rw [← aw_dual hg k] at h2
  omega
theorem bst_dual {R : Nat → List Int} {n : Nat} (hg : Good R n) (k : Nat) : ∃ t, 0 ≤ t ∧ t ≤ 30 ∧ bst R n k = k * t + ovs t R n :=
  ⟨nxt R (aw R n k) n, (nxt_nn hg).1, (nxt_nn hg).2, by rw [← aw_best hg k]; exact aw_dual hg k⟩

/-- One unit more. -/
theorem bst_succ {R : Nat → List Int} {n : Nat} (hg : Good R n) (k : Nat) : bst R n (k + 1) = bst R n k + nxt R (aw R n k) n := by
  rw [← aw_best hg, ← aw_best hg]
  show val R (stp R n (aw R n k)) n = _
  rcases nx_is R (aw R n k) n with ⟨e, _⟩ | ⟨a, ha, e, hca, _⟩
  · rw [stp_none e, nxt_none e]; omega
  · rw [val_step ha e hca, nxt_some e]
theorem nxt_anti {R : Nat → List Int} {n : Nat} (hg : Good R n) (k : Nat) : nxt R (aw R n (k + 1)) n ≤ nxt R (aw R n k) n := by
  rcases nx_is R (aw R n k) n with ⟨e, _⟩ | ⟨a, ha, e, hca, _⟩
  · have := aw_still e 1
    rw [this]; exact Int.le_refl _
  · have h1 := (nxt_cut hg (fair_aw hg (k + 1)) ha).1 (aw R n k a) _ (by show _ < stp R n (aw R n k) a; rw [stp_some e]; simp) (List.getElem?_eq_getElem hca)
    rw [nxt_some e, nxv_of (List.getElem?_eq_getElem hca)]
    exact h1

/-- The best leans on what is above each price alone. -/
theorem bst_same {R R' : Nat → List Int} {n n' : Nat} (hg : Good R n) (hg' : Good R' n') (h : ∀ t, 0 ≤ t → ovs t R n = ovs t R' n') (k : Nat) : bst R n k = bst R' n' k := by
  obtain ⟨t, ht, _, e⟩ := bst_dual hg k
  obtain ⟨t', ht', _, e'⟩ := bst_dual hg' k
  have h1 := bst_bound (R := R) ht' n k
  have h2 := bst_bound (R := R') ht n' k
  rw [h t' ht'] at h1
  rw [← h t ht] at h2
  omega
theorem bst_le600 {R : Nat → List Int} {n : Nat} (hg : Good R n) (k : Nat) : bst R n k ≤ 150 * n := by
  rw [← aw_best hg k]
  have := sumTo_le (f := fun i => pre (R i) (aw R n k i)) (g := fun _ => 150) (n := n) (fun i hi => (pre_le150 (hg i hi) _).2)
  rw [sumTo_const] at this
  unfold val
  omega
theorem bst_mono {R : Nat → List Int} {n : Nat} {j k : Nat} (hjk : j ≤ k) (hg : Good R n) : bst R n j ≤ bst R n k := by
  rw [← aw_best hg j]
  exact bst_ge n k (by have := (cnt_aw (R := R) (n := n) j).2; omega)

/-- How many there are. -/
theorem cnt_min {R : Nat → List Int} {n : Nat} (hg : Good R n) (k : Nat) : cnt (aw R n k) n = min (k : Int) (sumTo (fun i => ((R i).length : Int)) n) := by
  obtain ⟨h1, h2⟩ := cnt_aw (R := R) (n := n) k
  have h3 : cnt (aw R n k) n ≤ sumTo (fun i => ((R i).length : Int)) n := sumTo_le (fun i hi => by have := (fair_aw hg k).len i hi; omega)
  rcases h1 with h1 | h1
  · omega
  · have h4 : sumTo (fun i => ((R i).length : Int)) n ≤ cnt (aw R n k) n := by
      rcases nx_is R (aw R n k) n with ⟨e, hn⟩ | ⟨a, ha, e, _⟩
      · exact sumTo_le (fun i hi => by have := hn i hi; omega)
      · omega
    omega

end Go.Proofs.Ytnojlapjkdihmaa

/-
  Rows of ints in memory, wherever they lie: what reads as rows, and how it stays.
-/
namespace Go.Proofs.Ytnojlapjkdihmaa
open Go.RowKit

/-- A value that reads as a row. -/
def Row1 (w : World) (v : Value) (r : List Int) : Prop := ∃ (A : Option Addr) (c : Nat), v = .slice A r.length c ∧ r.length ≤ c ∧ Rd w A c r

/-- The slice (A, as long as rows, c) reads as rows of ints. -/
def RdR (w : World) (A : Option Addr) (c : Nat) (rows : List (List Int)) : Prop :=
  rows.length ≤ c ∧ ((rows = [] ∧ (A = none → c = 0)) ∨ ∃ b off, A = some ⟨b, off, none⟩ ∧ ∀ (k : Nat) (r : List Int), rows[k]? = some r → ∃ v, w.cell? ⟨b, off + k, none⟩ = some v ∧ Row1 w v r)

theorem Row1.below {w w' : World} {v : Value} {r : List Int} (h : Row1 w v r) (hb : Below w.heap.size w w') : Row1 w' v r := by
  obtain ⟨A, c, e, hc, hr⟩ := h
  exact ⟨A, c, e, hc, hr.below hb⟩
theorem RdR.below {w w' : World} {A : Option Addr} {c : Nat} {rows : List (List Int)} (h : RdR w A c rows) (hb : Below w.heap.size w w') : RdR w' A c rows := by
  refine ⟨h.1, ?_⟩
  rcases h.2 with h | ⟨b, off, rfl, hc⟩
  · exact .inl h
  · refine .inr ⟨b, off, rfl, fun k r hk => ?_⟩
    obtain ⟨v, hv, hr⟩ := hc k r hk
    exact ⟨v, (hb.cell (p := ⟨b, off + k, none⟩) (World.block_lt_of_cell? w _ hv)).trans hv, hr.below hb⟩
theorem RdR.drewN {w : World} {A : Option Addr} {c : Nat} {rows : List (List Int)} (h : RdR w A c rows) (n : Nat) : RdR (w.drewN n) A c rows := h
theorem RdR.nil (w : World) : RdR w none 0 [] := ⟨by simp, .inl ⟨rfl, fun _ => rfl⟩⟩

/-- Row k. -/
theorem RdR.at_ {w : World} {A : Option Addr} {c k : Nat} {rows : List (List Int)} (h : RdR w A c rows) (hk : k < rows.length) :
    ∃ b off r A' c', A = some ⟨b, off, none⟩ ∧ Hid (rows[k]? = some r) ∧ w.cell? ⟨b, off + k, none⟩ = some (.slice A' r.length c') ∧ Hid (r.length ≤ c') ∧ Hid (Rd w A' c' r) := by
  rcases h.2 with ⟨rfl, _⟩ | ⟨b, off, rfl, hc⟩
  · simp at hk
  · have e : rows[k]? = some rows[k] := List.getElem?_eq_getElem hk
    obtain ⟨v, hv, A', c', rfl, h1, h2⟩ := hc k _ e
    exact ⟨b, off, _, A', c', rfl, e, hv, h1, h2⟩
/-- Where the rows lie. -/
theorem RdR.open_ {w : World} {A : Option Addr} {c : Nat} {rows : List (List Int)} (h : RdR w A c rows) (h1 : 1 ≤ rows.length) :
    ∃ b off, A = some ⟨b, off, none⟩ ∧ rows.length ≤ c ∧ ∀ (k : Nat) (r : List Int), rows[k]? = some r → ∃ A' c', w.cell? ⟨b, off + k, none⟩ = some (.slice A' r.length c') ∧ r.length ≤ c' ∧ Rd w A' c' r := by
  rcases h.2 with ⟨rfl, _⟩ | ⟨b, off, rfl, hc⟩
  · simp at h1
  · refine ⟨b, off, rfl, h.1, fun k r hk => ?_⟩
    obtain ⟨v, hv, A', c', rfl, h1, h2⟩ := hc k r hk
    exact ⟨A', c', hv, h1, h2⟩
theorem RdR.take_ {w : World} {b off c c2 : Nat} {rows : List (List Int)} (h : RdR w (some ⟨b, off, none⟩) c rows) (m : Nat) (hc : min m rows.length ≤ c2) : RdR w (some ⟨b, off, none⟩) c2 (rows.take m) := by
  refine ⟨by simpa using hc, ?_⟩
  rcases h.2 with ⟨rfl, _⟩ | ⟨b', off', hA, hc⟩
  · exact .inl ⟨by simp, fun h => by cases h⟩
  · refine .inr ⟨b', off', hA, fun k r hk => hc k r ?_⟩
    rw [List.getElem?_take] at hk
    split at hk
    · exact hk
    · cases hk
theorem RdR.drop_ {w : World} {b off c c2 : Nat} {rows : List (List Int)} (h : RdR w (some ⟨b, off, none⟩) c rows) (m : Nat) (hc2 : rows.length - m ≤ c2) : RdR w (some ⟨b, off + m, none⟩) c2 (rows.drop m) := by
  refine ⟨by simpa using hc2, ?_⟩
  rcases h.2 with ⟨rfl, _⟩ | ⟨b', off', hA, hc⟩
  · exact .inl ⟨by simp, fun h => by cases h⟩
  · injection hA with hA; injection hA with h1 h2; subst h1; subst h2
    refine .inr ⟨_, _, rfl, fun k r hk => ?_⟩
    rw [List.getElem?_drop] at hk
    obtain ⟨v, hv, hr⟩ := hc _ r hk
    exact ⟨v, by rw [show off + m + k = off + (m + k) by omega]; exact hv, hr⟩

/-- Rows as a function. -/
def RW (rows : List (List Int)) (i : Nat) : List Int := rows.getD i []
theorem rw_of {rows : List (List Int)} {i : Nat} {r : List Int} (h : rows[i]? = some r) : RW rows i = r := by
  unfold RW; rw [List.getD_eq_getElem?_getD, h]; rfl
theorem rw_mem {rows : List (List Int)} {i : Nat} (h : i < rows.length) : RW rows i ∈ rows := by
  rw [rw_of (List.getElem?_eq_getElem h)]; simp

/-- Demands. -/
def VD (rows : List (List Int)) : Prop := (1 ≤ rows.length ∧ rows.length ≤ 4) ∧ ∀ r ∈ rows, RowOk r
theorem VD.good {rows : List (List Int)} (h : VD rows) : Good (RW rows) rows.length := fun _ hi => h.2 _ (rw_mem hi)

noncomputable def rowB (r : List Int) : Bool := @decide (RowOk r) (Classical.propDecidable _)
theorem rowB_true {r : List Int} (h : RowOk r) : rowB r = true := by unfold rowB; simp [h]
theorem rowB_false {r : List Int} (h : ¬ RowOk r) : rowB r = false := by unfold rowB; simp [h]
theorem rowB_iff {r : List Int} : rowB r = true ↔ RowOk r := by unfold rowB; simp
noncomputable def vdB (rows : List (List Int)) : Bool := @decide (VD rows) (Classical.propDecidable _)
theorem vdB_true {rows : List (List Int)} (h : VD rows) : vdB rows = true := by unfold vdB; simp [h]
theorem vdB_false {rows : List (List Int)} (h : ¬ VD rows) : vdB rows = false := by unfold vdB; simp [h]
theorem vdB_iff {rows : List (List Int)} : vdB rows = true ↔ VD rows := by unfold vdB; simp

/-- Of the first k numbers each is fine. -/
def okTo (r : List Int) (k : Nat) : Prop := ∀ (j : Nat) (x : Int), j < k → r[j]? = some x → 0 ≤ x ∧ x ≤ 30 ∧ ∀ y : Int, 0 < j → r[j - 1]? = some y → x ≤ y
theorem okTo_step {r : List Int} {k : Nat} {x : Int} (h : okTo r k) (hx : r[k]? = some x) (h0 : 0 ≤ x) (h1 : x ≤ 30) (h2 : ∀ y : Int, 0 < k → r[k - 1]? = some y → x ≤ y) : okTo r (k + 1) := by
  intro j z hj hz
  rcases Nat.lt_or_ge j k with hjk | hjk
  · exact h j z hjk hz
  · obtain rfl : j = k := by omega
    rw [hx] at hz; cases hz
    exact ⟨h0, h1, h2⟩
theorem okTo_zero (r : List Int) : okTo r 0 := fun j x hj => absurd hj (by omega)
theorem okTo_all {r : List Int} (h : okTo r r.length) (hl : r.length ≤ 5) : rowB r = true :=
  rowB_true (rowOk_of hl (fun k x hx => h k x (List.getElem?_eq_some_iff.1 hx).1 hx))
theorem okTo_out {r : List Int} {k : Nat} {x : Int} (hx : r[k]? = some x) (h : ¬ (0 ≤ x ∧ x ≤ 30)) : rowB r = false :=
  rowB_false (fun ho => h ⟨(ho.2 k x hx).1, (ho.2 k x hx).2.1⟩)
theorem okTo_more {r : List Int} {k : Nat} {x y : Int} (hx : r[k]? = some x) (hk : 0 < k) (hy : r[k - 1]? = some y) (h : y < x) : rowB r = false :=
  rowB_false (fun ho => by have := (ho.2 k x hx).2.2 (k - 1) y (by omega) hy; omega)
theorem okTo_long {r : List Int} (h : 5 < r.length) : rowB r = false := rowB_false (fun ho => by have := ho.1; omega)

theorem vd_no {rows : List (List Int)} {k : Nat} {r : List Int} (hr : rows[k]? = some r) (h : rowB r = false) : vdB rows = false :=
  vdB_false (fun ho => by
    have := rowB_true (ho.2 r (List.mem_of_getElem? hr))
    rw [h] at this; cases this)
theorem vd_len {rows : List (List Int)} (h : ¬ (1 ≤ rows.length ∧ rows.length ≤ 4)) : vdB rows = false := vdB_false (fun ho => h ho.1)
/-- Of the first k rows each is one. -/
def rowsTo (rows : List (List Int)) (k : Nat) : Prop := ∀ (j : Nat) (r : List Int), j < k → rows[j]? = some r → rowB r = true
theorem rowsTo_step {rows : List (List Int)} {k : Nat} {r : List Int} (h : rowsTo rows k) (hr : rows[k]? = some r) (hb : rowB r = true) : rowsTo rows (k + 1) := by
  intro j z hj hz
  rcases Nat.lt_or_ge j k with hjk | hjk
  · exact h j z hjk hz
  · obtain rfl : j = k := by omega
    rw [hr] at hz; cases hz
    exact hb
theorem rowsTo_zero (rows : List (List Int)) : rowsTo rows 0 := fun j r hj => absurd hj (by omega)
theorem rowsTo_all {rows : List (List Int)} (h : rowsTo rows rows.length) (hl : 1 ≤ rows.length ∧ rows.length ≤ 4) : vdB rows = true :=
  vdB_true ⟨hl, fun r hr => by
    obtain ⟨k, hk, rfl⟩ := List.getElem_of_mem hr
    exact rowB_iff.1 (h k _ hk (List.getElem?_eq_getElem hk))⟩

end Go.Proofs.Ytnojlapjkdihmaa

/-
  The exact laws' helpers for lists of rows: sized, copied, compared, marked.
-/
namespace Go.Proofs.Ytnojlapjkdihmaa
open Go.RowKit

/-- The slice value of a row: its block, its capacity, its numbers. -/
def slU (p : Nat × Nat × List Int) : Value := .slice (some ⟨p.1, 0, none⟩) p.2.2.length p.2.1

/-- The slice value v holds the rows ps, it and each of them in a block of the call's own, from block B on, no two in one block. -/
structure RowsU (w : World) (B : Nat) (v : Value) (ps : List (Nat × Nat × List Int)) : Prop where
  row : w.ownsRow B 24 1 v ps.length (ps.map slU)
  each : ∀ p ∈ ps, Own w B (some ⟨p.1, 0, none⟩) p.2.1 p.2.2
  nodup : (ps.map (·.1)).Nodup

theorem rowU_apart {w : World} {B B' g c n : Nat} {v : Value} {vs : List Value} {zs : List Int} (hr : w.ownsRow B 24 1 v n vs) (ho : Own w B' (some ⟨g, 0, none⟩) c zs) : v.ownBlock ≠ some g := by
  intro e
  rcases hr.2 with ⟨rfl, _⟩ | ⟨g', cap, cur, rfl, _, hh, _⟩
  · simp [Value.ownBlock] at e
  · obtain rfl : g' = g := by simpa [Value.ownBlock] using e
    rcases ho.2 with ⟨hv, _⟩ | ⟨g2, cap2, cur2, hv2, _, hh2, _⟩
    · cases hv
    · injection hv2 with hA _ _
      injection hA with hA
      injection hA with hA
      subst hA
      rw [hh] at hh2
      cases hh2
theorem RowsU.below {w w' : World} {B : Nat} {v : Value} {ps : List (Nat × Nat × List Int)} (h : RowsU w B v ps) (hb : Below w.heap.size w w') : RowsU w' B v ps :=
  ⟨own_len h.row hb, fun p hp => (h.each p hp).below hb, h.nodup⟩
theorem RowsU.base {w : World} {B B' : Nat} {v : Value} {ps : List (Nat × Nat × List Int)} (h : RowsU w B v ps) (hB : B' ≤ B) : RowsU w B' v ps :=
  ⟨own_base h.row hB, fun p hp => (h.each p hp).base hB, h.nodup⟩
theorem RowsU.kept {w w' : World} {B : Nat} {v : Value} {ps : List (Nat × Nat × List Int)} (h : RowsU w B v ps) {r : Nat} (hg : w.grownBy w' (some r)) (hv : v.ownBlock ≠ some r) (hp : ∀ p ∈ ps, p.1 ≠ r) : RowsU w' B v ps :=
  ⟨h.row.kept hg (.inr hv), fun p hpp => (h.each p hpp).kept_ (A2 := some ⟨r, 0, none⟩) hg (.inr (fun e => hp p hpp (Option.some.inj e))), h.nodup⟩
/-- Own rows read as rows. -/
theorem RowsU.rdr {w : World} {B : Nat} {v : Value} {ps : List (Nat × Nat × List Int)} {rows : List (List Int)} (h : RowsU w B v ps) (hr : ps.map (·.2.2) = rows) : ∃ A c, v = .slice A rows.length c ∧ RdR w A c rows := by
  subst hr
  rw [List.length_map]
  rcases h.row.2 with ⟨hv, hn⟩ | ⟨g, cap, cur, hv, _, _, h1, _⟩
  · obtain rfl : ps = [] := List.eq_nil_of_length_eq_zero hn
    exact ⟨none, 0, hv, RdR.nil w⟩
  · refine ⟨some ⟨g, 0, none⟩, cap, hv, by simpa using h1, .inr ⟨g, 0, rfl, fun k r hk => ?_⟩⟩
    rw [List.getElem?_map] at hk
    cases hp : ps[k]? with
    | none => rw [hp] at hk; cases hk
    | some p =>
      rw [hp] at hk
      simp at hk
      subst hk
      subst hv
      have := World.ownsRow.cellAt h.row k (by have := (List.getElem?_eq_some_iff.1 hp).1; omega)
      have ho := h.each p (List.mem_of_getElem? hp)
      exact ⟨slU p, by rw [Nat.zero_add, this, List.getElem?_map, hp]; rfl, some ⟨p.1, 0, none⟩, p.2.1, rfl, ho.cap.1, ho.rd⟩

/-- How many there are, and how many numbers they hold. -/
def szR (rows : List (List Int)) : Nat := rows.length + rows.flatten.length

theorem flat_take {rows : List (List Int)} {k : Nat} {r : List Int} (hr : rows[k]? = some r) : (rows.take (k + 1)).flatten.length = (rows.take k).flatten.length + r.length := by
  rw [List.take_add_one, hr, List.flatten_append, List.length_append, Option.toList_some, List.flatten_cons, List.flatten_nil, List.append_nil]
theorem flat_le {rows : List (List Int)} (k : Nat) : (rows.take k).flatten.length ≤ rows.flatten.length := by
  have e : rows.flatten = (rows.take k).flatten ++ (rows.drop k).flatten := by rw [← List.flatten_append, List.take_append_drop]
  rw [e, List.length_append]; omega

end Go.Proofs.Ytnojlapjkdihmaa
