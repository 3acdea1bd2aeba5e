/-
  Chapter 3 in plain arithmetic: units given one by one to the one to whom one more is worth the most are worth most.
-/
import Derived.Test.YtpildecpabeanaaG06
import Derived.Test.YtpildecpabeanaaG04
import Derived.Deep.Matrix
import Derived.StillTailTactics
namespace Go.Proofs.Ytpildecpabeanaa

/-- What one more is worth to bidder i, who has h i. -/
def nxv (R : Nat → List Int) (h : Nat → Nat) (i : Nat) : Int := (R i).getD (h i) 0
/-- Of the first m bidders the first one to whom one more is worth the most, -1 if none has a number for it. -/
def nx (R : Nat → List Int) (h : Nat → Nat) : Nat → Int
  | 0 => -1
  | m + 1 => if h m < (R m).length ∧ (nx R h m < 0 ∨ nxv R h (nx R h m).toNat < nxv R h m) then m else nx R h m

theorem nx_is (R : Nat → List Int) (h : Nat → Nat) : ∀ m, (nx R h m = -1 ∧ ∀ j, j < m → (R j).length ≤ h j) ∨
    ∃ a, a < m ∧ nx R h m = (a : Int) ∧ h a < (R a).length ∧ ∀ j, j < m → h j < (R j).length → nxv R h j ≤ nxv R h a
  | 0 => .inl ⟨rfl, fun j hj => absurd hj (by omega)⟩
  | m + 1 => by
    rw [nx]
    rcases nx_is R h m with ⟨e, hn⟩ | ⟨a, ha, e, hca, hmax⟩
    · by_cases hc : h m < (R m).length
      · rw [if_pos ⟨hc, .inl (by omega)⟩]
        refine .inr ⟨m, by omega, rfl, hc, fun j hj hcj => ?_⟩
        rcases Nat.lt_or_ge j m with hjm | hjm
        · have := hn j hjm; omega
        · obtain rfl : j = m := by omega
          exact Int.le_refl _
      · rw [if_neg (fun x => hc x.1)]
        refine .inl ⟨e, fun j hj => ?_⟩
        rcases Nat.lt_or_ge j m with hjm | hjm
        · exact hn j hjm
        · obtain rfl : j = m := by omega
          omega
    · rw [e]
      simp only [Int.toNat_natCast]
      by_cases hc : h m < (R m).length ∧ ((a : Int) < 0 ∨ nxv R h a < nxv R h m)
      · rw [if_pos hc]
        have h2 : nxv R h a < nxv R h m := by rcases hc.2 with x | x <;> omega
        refine .inr ⟨m, by omega, rfl, hc.1, fun j hj hcj => ?_⟩
        rcases Nat.lt_or_ge j m with hjm | hjm
        · have := hmax j hjm hcj; omega
        · obtain rfl : j = m := by omega
          exact Int.le_refl _
      · rw [if_neg hc]
        refine .inr ⟨a, by omega, rfl, hca, fun j hj hcj => ?_⟩
        rcases Nat.lt_or_ge j m with hjm | hjm
        · exact hmax j hjm hcj
        · obtain rfl : j = m := by omega
          have : ¬ nxv R h a < nxv R h j := fun x => hc ⟨hcj, .inr x⟩
          omega

/-- One unit more is given. -/
def stp (R : Nat → List Int) (n : Nat) (h : Nat → Nat) : Nat → Nat := fun i => if (i : Int) = nx R h n then h i + 1 else h i
/-- How many of k units each bidder has. -/
def aw (R : Nat → List Int) (n : Nat) : Nat → Nat → Nat
  | 0 => fun _ => 0
  | k + 1 => stp R n (aw R n k)

theorem stp_none {R : Nat → List Int} {n : Nat} {h : Nat → Nat} (e : nx R h n = -1) : stp R n h = h := by
  funext i
  unfold stp
  rw [e, if_neg (by omega)]
theorem stp_some {R : Nat → List Int} {n a : Nat} {h : Nat → Nat} (e : nx R h n = (a : Int)) : stp R n h = fun i => if i = a then h i + 1 else h i := by
  funext i
  unfold stp
  rw [e]
  by_cases hi : i = a
  · rw [if_pos hi, if_pos (by omega)]
  · rw [if_neg hi, if_neg (by omega)]
theorem aw_still {R : Nat → List Int} {n k : Nat} (e : nx R (aw R n k) n = -1) : ∀ j, aw R n (k + j) = aw R n k
  | 0 => rfl
  | j + 1 => by
    show stp R n (aw R n (k + j)) = _
    rw [aw_still e j, stp_none e]

def Good (R : Nat → List Int) (n : Nat) : Prop := ∀ i, i < n → RowOk (R i)
/-- Every number had is at least every next one. -/
structure Fair (R : Nat → List Int) (h : Nat → Nat) (n : Nat) : Prop where
  len : ∀ i, i < n → h i ≤ (R i).length
  top : ∀ i, i < n → ∀ (p : Nat) (x : Int), p < h i → (R i)[p]? = some x → ∀ j, j < n → ∀ y : Int, (R j)[h j]? = some y → y ≤ x

theorem nxv_of {R : Nat → List Int} {h : Nat → Nat} {j : Nat} {y : Int} (hy : (R j)[h j]? = some y) : nxv R h j = y := by
  unfold nxv; rw [List.getD_eq_getElem?_getD, hy]; rfl

theorem fair_step {R : Nat → List Int} {n : Nat} {h : Nat → Nat} (hg : Good R n) (hf : Fair R h n) : Fair R (stp R n h) n := by
  rcases nx_is R h n with ⟨e, _⟩ | ⟨a, ha, e, hca, hmax⟩
  · rw [stp_none e]; exact hf
  · rw [stp_some e]
    have hza : (R a)[h a]? = some (R a)[h a] := List.getElem?_eq_getElem hca
    -- what is next now was next, or is behind what was
    have hnext : ∀ j, j < n → ∀ y : Int, (R j)[if j = a then h j + 1 else h j]? = some y → ∃ z, (R j)[h j]? = some z ∧ y ≤ z := by
      intro j hj y hy
      by_cases hja : j = a
      · subst hja
        rw [if_pos rfl] at hy
        exact ⟨_, hza, ((hg j hj).2 _ _ hy).2.2 (h j) _ (by omega) hza⟩
      · rw [if_neg hja] at hy
        exact ⟨y, hy, Int.le_refl _⟩
    refine ⟨fun i hi => ?_, fun i hi p x hp hx j hj y hy => ?_⟩
    · show (if i = a then h i + 1 else h i) ≤ _
      have := hf.len i hi
      split
      · subst_vars; omega
      · exact this
    · obtain ⟨z, hz, hyz⟩ := hnext j hj y hy
      have hp : p < if i = a then h i + 1 else h i := hp
      rcases Nat.lt_or_ge p (h i) with hpl | hpl
      · have := hf.top i hi p x hpl hx j hj z hz; omega
      · by_cases hia : i = a
        · subst hia
          rw [if_pos rfl] at hp
          obtain rfl : p = h i := by omega
          rw [hza] at hx
          cases hx
          have h1 := hmax j hj (by have := (List.getElem?_eq_some_iff.1 hz).1; omega)
          rw [nxv_of hz, nxv_of hza] at h1
          omega
        · rw [if_neg hia] at hp; omega

theorem cnt_step {R : Nat → List Int} {n a : Nat} {h : Nat → Nat} (ha : a < n) (e : nx R h n = (a : Int)) : cnt (stp R n h) n = cnt h n + 1 := by
  rw [stp_some e]
  have h1 : cnt (fun i => if i = a then h i + 1 else h i) n - ((if a = a then h a + 1 else h a : Nat) : Int) = cnt h n - h a :=
    sumTo_one (f := fun i => ((if i = a then h i + 1 else h i : Nat) : Int)) (g := fun i => (h i : Int)) ha (fun j _ hne => by simp only [if_neg hne])
  rw [if_pos rfl] at h1
  have e2 : ((h a + 1 : Nat) : Int) = h a + 1 := by push_cast; rfl
  omega
theorem val_step {R : Nat → List Int} {n a : Nat} {h : Nat → Nat} (ha : a < n) (e : nx R h n = (a : Int)) (hc : h a < (R a).length) : val R (stp R n h) n = val R h n + nxv R h a := by
  rw [stp_some e]
  have h1 : val R (fun i => if i = a then h i + 1 else h i) n - pre (R a) (if a = a then h a + 1 else h a) = val R h n - pre (R a) (h a) :=
    sumTo_one (f := fun i => pre (R i) (if i = a then h i + 1 else h i)) (g := fun i => pre (R i) (h i)) ha (fun j _ hne => by simp only [if_neg hne])
  have hza : (R a)[h a]? = some (R a)[h a] := List.getElem?_eq_getElem hc
  rw [if_pos rfl, pre_step hza] at h1
  rw [nxv_of hza]
  omega

theorem fair_aw {R : Nat → List Int} {n : Nat} (hg : Good R n) : ∀ k, Fair R (aw R n k) n
  | 0 => ⟨fun i _ => Nat.zero_le _, fun i _ p x hp => absurd hp (by simp [aw])⟩
  | k + 1 => fair_step hg (fair_aw hg k)
theorem cnt_aw {R : Nat → List Int} {n : Nat} : ∀ k : Nat, (cnt (aw R n k) n = k ∨ nx R (aw R n k) n = -1) ∧ cnt (aw R n k) n ≤ k
  | 0 => by
    have : cnt (aw R n 0) n = 0 := by
      have := sumTo_const 0 n
      simpa [cnt, aw] using this
    exact ⟨.inl (by omega), by omega⟩
  | k + 1 => by
    obtain ⟨h1, h2⟩ := cnt_aw (R := R) (n := n) k
    show (cnt (stp R n (aw R n k)) n = _ ∨ nx R (stp R n (aw R n k)) n = -1) ∧ cnt (stp R n (aw R n k)) n ≤ _
    rcases nx_is R (aw R n k) n with ⟨e, _⟩ | ⟨a, ha, e, _⟩
    · rw [stp_none e]
      exact ⟨.inr e, by omega⟩
    · rw [cnt_step ha e]
      rcases h1 with h1 | h1
      · exact ⟨.inl (by omega), by omega⟩
      · omega

/-- What the next unit is worth to the one who would have it. -/
def nxt (R : Nat → List Int) (h : Nat → Nat) (n : Nat) : Int := if nx R h n = -1 then 0 else nxv R h (nx R h n).toNat
theorem nxt_none {R : Nat → List Int} {h : Nat → Nat} {n : Nat} (e : nx R h n = -1) : nxt R h n = 0 := by unfold nxt; rw [if_pos e]
theorem nxt_some {R : Nat → List Int} {h : Nat → Nat} {n a : Nat} (e : nx R h n = (a : Int)) : nxt R h n = nxv R h a := by unfold nxt; rw [e, if_neg (by omega)]; simp

theorem nxt_nn {R : Nat → List Int} {h : Nat → Nat} {n : Nat} (hg : Good R n) : 0 ≤ nxt R h n ∧ nxt R h n ≤ 30 := by
  rcases nx_is R h n with ⟨e, _⟩ | ⟨a, ha, e, hca, _⟩
  · rw [nxt_none e]; omega
  · have hza : (R a)[h a]? = some (R a)[h a] := List.getElem?_eq_getElem hca
    rw [nxt_some e, nxv_of hza]
    have := (hg a ha).2 _ _ hza
    omega
/-- The next one is at least all that are not had, and no more than any had. -/
theorem nxt_cut {R : Nat → List Int} {h : Nat → Nat} {n : Nat} (hg : Good R n) (hf : Fair R h n) {i : Nat} (hi : i < n) :
    (∀ (j : Nat) (x : Int), j < h i → (R i)[j]? = some x → nxt R h n ≤ x) ∧ (∀ (j : Nat) (x : Int), h i ≤ j → (R i)[j]? = some x → x ≤ nxt R h n) := by
  rcases nx_is R h n with ⟨e, hn⟩ | ⟨a, ha, e, hca, hmax⟩
  · rw [nxt_none e]
    refine ⟨fun j x _ hx => ((hg i hi).2 j x hx).1, fun j x hj hx => ?_⟩
    have := hn i hi
    have := (List.getElem?_eq_some_iff.1 hx).1
    omega
  · have hza : (R a)[h a]? = some (R a)[h a] := List.getElem?_eq_getElem hca
    rw [nxt_some e, nxv_of hza]
    refine ⟨fun j x hj hx => hf.top i hi j x hj hx a ha _ hza, fun j x hj hx => ?_⟩
    have hjl := (List.getElem?_eq_some_iff.1 hx).1
    have hci : h i < (R i).length := by omega
    have hzi : (R i)[h i]? = some (R i)[h i] := List.getElem?_eq_getElem hci
    have h1 := hmax i hi hci
    rw [nxv_of hzi, nxv_of hza] at h1
    rcases Nat.lt_or_ge (h i) j with hlt | hge
    · have := ((hg i hi).2 j x hx).2.2 (h i) _ hlt hzi
      omega
    · obtain rfl : j = h i := by omega
      rw [hzi] at hx; cases hx
      exact h1

theorem val_dual {R : Nat → List Int} {h : Nat → Nat} {n : Nat} (hg : Good R n) (hf : Fair R h n) : val R h n = cnt h n * nxt R h n + ovs (nxt R h n) R n := by
  have e : val R h n = sumTo (fun i => (h i : Int) * nxt R h n + over (nxt R h n) (R i)) n :=
    sumTo_congr (fun i hi => had_is (R i) (h i) (hf.len i hi) (nxt_cut hg hf hi).1 (nxt_cut hg hf hi).2)
  rw [e, sumTo_add, sumTo_mul]
  rfl

/-- The best of k units by a price each. -/
theorem aw_dual {R : Nat → List Int} {n : Nat} (hg : Good R n) (k : Nat) : val R (aw R n k) n = k * nxt R (aw R n k) n + ovs (nxt R (aw R n k) n) R n := by
  rw [val_dual hg (fair_aw hg k)]
  rcases (cnt_aw (R := R) (n := n) k).1 with h | h
  · rw [h]
  · rw [nxt_none h]; simp
theorem aw_best {R : Nat → List Int} {n : Nat} (hg : Good R n) (k : Nat) : val R (aw R n k) n = bst R n k := by
  have h1 := bst_ge (R := R) n k (cnt_aw (R := R) (n := n) k).2
  have h2 := bst_bound (R := R) (nxt_nn (h := aw R n k) hg).1 n k
  rw [← aw_dual hg k] at h2
  omega
theorem bst_dual {R : Nat → List Int} {n : Nat} (hg : Good R n) (k : Nat) : ∃ t, 0 ≤ t ∧ t ≤ 30 ∧ bst R n k = k * t + ovs t R n :=
  ⟨nxt R (aw R n k) n, (nxt_nn hg).1, (nxt_nn hg).2, by rw [← aw_best hg k]; exact aw_dual hg k⟩

/-- One unit more. -/
theorem bst_succ {R : Nat → List Int} {n : Nat} (hg : Good R n) (k : Nat) : bst R n (k + 1) = bst R n k + nxt R (aw R n k) n := by
  rw [← aw_best hg, ← aw_best hg]
  show val R (stp R n (aw R n k)) n = _
  rcases nx_is R (aw R n k) n with ⟨e, _⟩ | ⟨a, ha, e, hca, _⟩
  · rw [stp_none e, nxt_none e]; omega
  · rw [val_step ha e hca, nxt_some e]
theorem nxt_anti {R : Nat → List Int} {n : Nat} (hg : Good R n) (k : Nat) : nxt R (aw R n (k + 1)) n ≤ nxt R (aw R n k) n := by
  rcases nx_is R (aw R n k) n with ⟨e, _⟩ | ⟨a, ha, e, hca, _⟩
  · have := aw_still e 1
    rw [this]; exact Int.le_refl _
  · have h1 := (nxt_cut hg (fair_aw hg (k + 1)) ha).1 (aw R n k a) _ (by show _ < stp R n (aw R n k) a; rw [stp_some e]; simp) (List.getElem?_eq_getElem hca)
    rw [nxt_some e, nxv_of (List.getElem?_eq_getElem hca)]
    exact h1

/-- The best leans on what is above each price alone. -/
theorem bst_same {R R' : Nat → List Int} {n n' : Nat} (hg : Good R n) (hg' : Good R' n') (h : ∀ t, 0 ≤ t → ovs t R n = ovs t R' n') (k : Nat) : bst R n k = bst R' n' k := by
  obtain ⟨t, ht, _, e⟩ := bst_dual hg k
  obtain ⟨t', ht', _, e'⟩ := bst_dual hg' k
  have h1 := bst_bound (R := R) ht' n k
  have h2 := bst_bound (R := R') ht n' k
  rw [h t' ht'] at h1
  rw [← h t ht] at h2
  omega
theorem bst_le600 {R : Nat → List Int} {n : Nat} (hg : Good R n) (k : Nat) : bst R n k ≤ 150 * n := by
  rw [← aw_best hg k]
  have := sumTo_le (f := fun i => pre (R i) (aw R n k i)) (g := fun _ => 150) (n := n) (fun i hi => (pre_le150 (hg i hi) _).2)
  rw [sumTo_const] at this
  unfold val
  omega
theorem bst_mono {R : Nat → List Int} {n : Nat} {j k : Nat} (hjk : j ≤ k) (hg : Good R n) : bst R n j ≤ bst R n k := by
  rw [← aw_best hg j]
  exact bst_ge n k (by have := (cnt_aw (R := R) (n := n) j).2; omega)

/-- How many there are. -/
theorem cnt_min {R : Nat → List Int} {n : Nat} (hg : Good R n) (k : Nat) : cnt (aw R n k) n = min (k : Int) (sumTo (fun i => ((R i).length : Int)) n) := by
  obtain ⟨h1, h2⟩ := cnt_aw (R := R) (n := n) k
  have h3 : cnt (aw R n k) n ≤ sumTo (fun i => ((R i).length : Int)) n := sumTo_le (fun i hi => by have := (fair_aw hg k).len i hi; omega)
  rcases h1 with h1 | h1
  · omega
  · have h4 : sumTo (fun i => ((R i).length : Int)) n ≤ cnt (aw R n k) n := by
      rcases nx_is R (aw R n k) n with ⟨e, hn⟩ | ⟨a, ha, e, _⟩
      · exact sumTo_le (fun i hi => by have := hn i hi; omega)
      · omega
    omega

end Go.Proofs.Ytpildecpabeanaa

/-
  Rows of ints in memory, wherever they lie: what reads as rows, and how it stays.
-/
namespace Go.Proofs.Ytpildecpabeanaa
open Go.RowKit

/-- A value that reads as a row. -/
def Row1 (w : World) (v : Value) (r : List Int) : Prop := ∃ (A : Option Addr) (c : Nat), v = .slice A r.length c ∧ r.length ≤ c ∧ Rd w A c r

/-- The slice (A, as long as rows, c) reads as rows of ints. -/
def RdR (w : World) (A : Option Addr) (c : Nat) (rows : List (List Int)) : Prop :=
  rows.length ≤ c ∧ ((rows = [] ∧ (A = none → c = 0)) ∨ ∃ b off, A = some ⟨b, off, none⟩ ∧ ∀ (k : Nat) (r : List Int), rows[k]? = some r → ∃ v, w.cell? ⟨b, off + k, none⟩ = some v ∧ Row1 w v r)

theorem Row1.below {w w' : World} {v : Value} {r : List Int} (h : Row1 w v r) (hb : Below w.heap.size w w') : Row1 w' v r := by
  obtain ⟨A, c, e, hc, hr⟩ := h
  exact ⟨A, c, e, hc, hr.below hb⟩
theorem RdR.below {w w' : World} {A : Option Addr} {c : Nat} {rows : List (List Int)} (h : RdR w A c rows) (hb : Below w.heap.size w w') : RdR w' A c rows := by
  refine ⟨h.1, ?_⟩
  rcases h.2 with h | ⟨b, off, rfl, hc⟩
  · exact .inl h
  · refine .inr ⟨b, off, rfl, fun k r hk => ?_⟩
    obtain ⟨v, hv, hr⟩ := hc k r hk
    exact ⟨v, (hb.cell (p := ⟨b, off + k, none⟩) (World.block_lt_of_cell? w _ hv)).trans hv, hr.below hb⟩
theorem RdR.drewN {w : World} {A : Option Addr} {c : Nat} {rows : List (List Int)} (h : RdR w A c rows) (n : Nat) : RdR (w.drewN n) A c rows := h
theorem RdR.nil (w : World) : RdR w none 0 [] := ⟨by simp, .inl ⟨rfl, fun _ => rfl⟩⟩

/-- Row k. -/
theorem RdR.at_ {w : World} {A : Option Addr} {c k : Nat} {rows : List (List Int)} (h : RdR w A c rows) (hk : k < rows.length) :
    ∃ b off r A' c', A = some ⟨b, off, none⟩ ∧ Hid (rows[k]? = some r) ∧ w.cell? ⟨b, off + k, none⟩ = some (.slice A' r.length c') ∧ Hid (r.length ≤ c') ∧ Hid (Rd w A' c' r) := by
  rcases h.2 with ⟨rfl, _⟩ | ⟨b, off, rfl, hc⟩
  · simp at hk
  · have e : rows[k]? = some rows[k] := List.getElem?_eq_getElem hk
    obtain ⟨v, hv, A', c', rfl, h1, h2⟩ := hc k _ e
    exact ⟨b, off, _, A', c', rfl, e, hv, h1, h2⟩
/-- Where the rows lie. -/
theorem RdR.open_ {w : World} {A : Option Addr} {c : Nat} {rows : List (List Int)} (h : RdR w A c rows) (h1 : 1 ≤ rows.length) :
    ∃ b off, A = some ⟨b, off, none⟩ ∧ rows.length ≤ c ∧ ∀ (k : Nat) (r : List Int), rows[k]? = some r → ∃ A' c', w.cell? ⟨b, off + k, none⟩ = some (.slice A' r.length c') ∧ r.length ≤ c' ∧ Rd w A' c' r := by
  rcases h.2 with ⟨rfl, _⟩ | ⟨b, off, rfl, hc⟩
  · simp at h1
  · refine ⟨b, off, rfl, h.1, fun k r hk => ?_⟩
    obtain ⟨v, hv, A', c', rfl, h1, h2⟩ := hc k r hk
    exact ⟨A', c', hv, h1, h2⟩
theorem RdR.take_ {w : World} {b off c c2 : Nat} {rows : List (List Int)} (h : RdR w (some ⟨b, off, none⟩) c rows) (m : Nat) (hc : min m rows.length ≤ c2) : RdR w (some ⟨b, off, none⟩) c2 (rows.take m) := by
  refine ⟨by simpa using hc, ?_⟩
  rcases h.2 with ⟨rfl, _⟩ | ⟨b', off', hA, hc⟩
  · exact .inl ⟨by simp, fun h => by cases h⟩
  · refine .inr ⟨b', off', hA, fun k r hk => hc k r ?_⟩
    rw [List.getElem?_take] at hk
    split at hk
    · exact hk
    · cases hk
theorem RdR.drop_ {w : World} {b off c c2 : Nat} {rows : List (List Int)} (h : RdR w (some ⟨b, off, none⟩) c rows) (m : Nat) (hc2 : rows.length - m ≤ c2) : RdR w (some ⟨b, off + m, none⟩) c2 (rows.drop m) := by
  refine ⟨by simpa using hc2, ?_⟩
  rcases h.2 with ⟨rfl, _⟩ | ⟨b', off', hA, hc⟩
  · exact .inl ⟨by simp, fun h => by cases h⟩
  · injection hA with hA; injection hA with h1 h2; subst h1; subst h2
    refine .inr ⟨_, _, rfl, fun k r hk => ?_⟩
    rw [List.getElem?_drop] at hk
    obtain ⟨v, hv, hr⟩ := hc _ r hk
    exact ⟨v, by rw [show off + m + k = off + (m + k) by omega]; exact hv, hr⟩

/-- Rows as a function. -/
def RW (rows : List (List Int)) (i : Nat) : List Int := rows.getD i []
theorem rw_of {rows : List (List Int)} {i : Nat} {r : List Int} (h : rows[i]? = some r) : RW rows i = r := by
  unfold RW; rw [List.getD_eq_getElem?_getD, h]; rfl
theorem rw_mem {rows : List (List Int)} {i : Nat} (h : i < rows.length) : RW rows i ∈ rows := by
  rw [rw_of (List.getElem?_eq_getElem h)]; simp

/-- Demands. -/
def VD (rows : List (List Int)) : Prop := (1 ≤ rows.length ∧ rows.length ≤ 4) ∧ ∀ r ∈ rows, RowOk r
theorem VD.good {rows : List (List Int)} (h : VD rows) : Good (RW rows) rows.length := fun _ hi => h.2 _ (rw_mem hi)

noncomputable def rowB (r : List Int) : Bool := @decide (RowOk r) (Classical.propDecidable _)
theorem rowB_true {r : List Int} (h : RowOk r) : rowB r = true := by unfold rowB; simp [h]
theorem rowB_false {r : List Int} (h : ¬ RowOk r) : rowB r = false := by unfold rowB; simp [h]
theorem rowB_iff {r : List Int} : rowB r = true ↔ RowOk r := by unfold rowB; simp
noncomputable def vdB (rows : List (List Int)) : Bool := @decide (VD rows) (Classical.propDecidable _)
theorem vdB_true {rows : List (List Int)} (h : VD rows) : vdB rows = true := by unfold vdB; simp [h]
theorem vdB_false {rows : List (List Int)} (h : ¬ VD rows) : vdB rows = false := by unfold vdB; simp [h]
theorem vdB_iff {rows : List (List Int)} : vdB rows = true ↔ VD rows := by unfold vdB; simp

/-- Of the first k numbers each is fine. -/
def okTo (r : List Int) (k : Nat) : Prop := ∀ (j : Nat) (x : Int), j < k → r[j]? = some x → 0 ≤ x ∧ x ≤ 30 ∧ ∀ y : Int, 0 < j → r[j - 1]? = some y → x ≤ y
theorem okTo_step {r : List Int} {k : Nat} {x : Int} (h : okTo r k) (hx : r[k]? = some x) (h0 : 0 ≤ x) (h1 : x ≤ 30) (h2 : ∀ y : Int, 0 < k → r[k - 1]? = some y → x ≤ y) : okTo r (k + 1) := by
  intro j z hj hz
  rcases Nat.lt_or_ge j k with hjk | hjk
  · exact h j z hjk hz
  · obtain rfl : j = k := by omega
    rw [hx] at hz; cases hz
    exact ⟨h0, h1, h2⟩
theorem okTo_zero (r : List Int) : okTo r 0 := fun j x hj => absurd hj (by omega)
theorem okTo_all {r : List Int} (h : okTo r r.length) (hl : r.length ≤ 5) : rowB r = true :=
  rowB_true (rowOk_of hl (fun k x hx => h k x (List.getElem?_eq_some_iff.1 hx).1 hx))
theorem okTo_out {r : List Int} {k : Nat} {x : Int} (hx : r[k]? = some x) (h : ¬ (0 ≤ x ∧ x ≤ 30)) : rowB r = false :=
  rowB_false (fun ho => h ⟨(ho.2 k x hx).1, (ho.2 k x hx).2.1⟩)
theorem okTo_more {r : List Int} {k : Nat} {x y : Int} (hx : r[k]? = some x) (hk : 0 < k) (hy : r[k - 1]? = some y) (h : y < x) : rowB r = false :=
  rowB_false (fun ho => by have := (ho.2 k x hx).2.2 (k - 1) y (by omega) hy; omega)
theorem okTo_long {r : List Int} (h : 5 < r.length) : rowB r = false := rowB_false (fun ho => by have := ho.1; omega)

theorem vd_no {rows : List (List Int)} {k : Nat} {r : List Int} (hr : rows[k]? = some r) (h : rowB r = false) : vdB rows = false :=
  vdB_false (fun ho => by
    have := rowB_true (ho.2 r (List.mem_of_getElem? hr))
    rw [h] at this; cases this)
theorem vd_len {rows : List (List Int)} (h : ¬ (1 ≤ rows.length ∧ rows.length ≤ 4)) : vdB rows = false := vdB_false (fun ho => h ho.1)
/-- Of the first k rows each is one. -/
def rowsTo (rows : List (List Int)) (k : Nat) : Prop := ∀ (j : Nat) (r : List Int), j < k → rows[j]? = some r → rowB r = true
theorem rowsTo_step {rows : List (List Int)} {k : Nat} {r : List Int} (h : rowsTo rows k) (hr : rows[k]? = some r) (hb : rowB r = true) : rowsTo rows (k + 1) := by
  intro j z hj hz
  rcases Nat.lt_or_ge j k with hjk | hjk
  · exact h j z hjk hz
  · obtain rfl : j = k := by omega
    rw [hr] at hz; cases hz
    exact hb
theorem rowsTo_zero (rows : List (List Int)) : rowsTo rows 0 := fun j r hj => absurd hj (by omega)
theorem rowsTo_all {rows : List (List Int)} (h : rowsTo rows rows.length) (hl : 1 ≤ rows.length ∧ rows.length ≤ 4) : vdB rows = true :=
  vdB_true ⟨hl, fun r hr => by
    obtain ⟨k, hk, rfl⟩ := List.getElem_of_mem hr
    exact rowB_iff.1 (h k _ hk (List.getElem?_eq_getElem hk))⟩

end Go.Proofs.Ytpildecpabeanaa

/-
  Chapter 4, the program: the contracts of areTables, joinedOf and SplitWorth.
-/
namespace Go.Proofs.Ytpildecpabeanaa
open Go.RowKit

/-- Tables of bidders. -/
def VTs (ts : List (List Int)) : Prop := (1 ≤ ts.length ∧ ts.length ≤ 4) ∧ ∀ t ∈ ts, VT t
noncomputable def vtsB (ts : List (List Int)) : Bool := @decide (VTs ts) (Classical.propDecidable _)
theorem vtsB_true {ts : List (List Int)} (h : VTs ts) : vtsB ts = true := by unfold vtsB; simp [h]
theorem vtsB_false {ts : List (List Int)} (h : ¬ VTs ts) : vtsB ts = false := by unfold vtsB; simp [h]
theorem vtsB_iff {ts : List (List Int)} : vtsB ts = true ↔ VTs ts := by unfold vtsB; simp
theorem vts_no {ts : List (List Int)} {k : Nat} {t : List Int} (ht : ts[k]? = some t) (h : vt t = false) : vtsB ts = false :=
  vtsB_false (fun ho => by have := vt_true (ho.2 t (List.mem_of_getElem? ht)); rw [h] at this; cases this)
theorem vts_len {ts : List (List Int)} (h : ¬ (1 ≤ ts.length ∧ ts.length ≤ 4)) : vtsB ts = false := vtsB_false (fun ho => h ho.1)
/-- Of the first k each is a table. -/
def tabsTo (ts : List (List Int)) (k : Nat) : Prop := ∀ (j : Nat) (t : List Int), j < k → ts[j]? = some t → vt t = true
theorem tabsTo_step {ts : List (List Int)} {k : Nat} {t : List Int} (h : tabsTo ts k) (ht : ts[k]? = some t) (hb : vt t = true) : tabsTo ts (k + 1) := by
  intro j z hj hz
  rcases Nat.lt_or_ge j k with hjk | hjk
  · exact h j z hjk hz
  · obtain rfl : j = k := by omega
    rw [ht] at hz; cases hz
    exact hb
theorem tabsTo_zero (ts : List (List Int)) : tabsTo ts 0 := fun j r hj => absurd hj (by omega)
theorem tabsTo_all {ts : List (List Int)} (h : tabsTo ts ts.length) (hl : 1 ≤ ts.length ∧ ts.length ≤ 4) : vtsB ts = true :=
  vtsB_true ⟨hl, fun r hr => by
    obtain ⟨k, hk, rfl⟩ := List.getElem_of_mem hr
    exact vt_iff.1 (h k _ hk (List.getElem?_eq_getElem hk))⟩

set_option maxHeartbeats 400000 in
theorem areTabs_any (A : Option Addr) (c : Nat) (ts : List (List Int)) (w : World) (h : RdR w A c ts) (hl2 : ∀ r ∈ ts, r.length ≤ 1099511627776) :
    Calls Try.prog 132 #[.slice A ts.length c, .int .i64 4, .func (.func 133) #[] #[]] w fun e w' => e = .returned (.bool (vtsB ts)) ∧ Below w.heap.size w w' := by
  by_cases h1 : ts.length < 1
  · have HE := Lib.hid (vts_len (ts := ts) (by omega))
    go_enter Try.func132, Try.ntmps132
    go_wp2
    go_ret
    exact ⟨by rw [HE.out]; rfl, Below.refl _ _⟩
  by_cases h4 : 4 < ts.length
  · have HE := Lib.hid (vts_len (ts := ts) (by omega))
    go_enter Try.func132, Try.ntmps132
    go_wp2
    go_ret
    exact ⟨by rw [HE.out]; rfl, Below.refl _ _⟩
  have h1' : 1 ≤ ts.length := by omega
  have h4' : ts.length ≤ 4 := by omega
  clear h1 h4
  go_enter Try.func132, Try.ntmps132
  go_wp2
  go_loopw [20] (fun i wr => ∃ k : Nat, k ≤ ts.length ∧ i = .int .i64 k ∧ Below w.heap.size w wr ∧ Hid (tabsTo ts k)) (fun i _ => ts.length - (intOf i).toNat)
  case atStart => exact ⟨0, Nat.zero_le _, rfl, Below.refl _ _, Lib.hid (tabsTo_zero ts)⟩
  case round =>
    obtain ⟨k, hk, rfl, hb, HT⟩ := hrel
    by_cases hlt : k < ts.length
    · obtain ⟨b, off, r, A', c', rfl, hr, hc, hcap, hrd⟩ := (h.below hb).at_ hlt
      have hrl : r.length ≤ 1099511627776 := hl2 r (List.mem_of_getElem? hr.out)
      have HC := Lib.hid (ValidTable_any A' c' r wr hrd.out hrl)
      rcases hbv : vt r with _ | _
      · have HE := Lib.hid (vts_no hr.out hbv)
        rw [hbv] at HC
        clear hbv hr hrd hrl
        go_wp2_with (go_at_call 133; refine HC.out.mono ?_; rintro e w1 ⟨rfl, hb1⟩)
        go_ret
        exact ⟨by rw [HE.out]; rfl, below_then hb hb1⟩
      · have HT' := Lib.hid (tabsTo_step HT.out hr.out hbv)
        rw [hbv] at HC
        clear hbv hr hrd hrl
        go_wp2_with (go_at_call 133; refine HC.out.mono ?_; rintro e w1 ⟨rfl, hb1⟩)
        go_roundw
        case rel => exact ⟨k + 1, by omega, by go_num, below_then hb hb1, HT'⟩
        case measure => simp [intOf]; omega
    · obtain rfl : k = ts.length := by omega
      have HE := Lib.hid (tabsTo_all HT.out ⟨h1', h4'⟩)
      go_wp2
      go_ret
      exact ⟨by rw [HE.out]; rfl, hb⟩

theorem areTables_any (A : Option Addr) (c : Nat) (ts : List (List Int)) (w : World) (h : RdR w A c ts) (hl2 : ∀ r ∈ ts, r.length ≤ 1099511627776) :
    Calls Try.prog 77 #[.slice A ts.length c] w fun e w' => e = .returned (.bool (vtsB ts)) ∧ Below w.heap.size w w' := by
  have HC := Lib.hid (areTabs_any A c ts w h hl2)
  go_enter Try.func77, Try.ntmps77
  go_wp2_with (go_at_call 132; refine HC.out.mono ?_; rintro e w1 ⟨rfl, hb⟩)
  go_ret
  exact ⟨rfl, hb⟩

theorem set8 {L : List Int} (h : L.length = 8) (a b c d e f g i : Int) : (((((((L.set 0 a).set 1 b).set 2 c).set 3 d).set 4 e).set 5 f).set 6 g).set 7 i = [a, b, c, d, e, f, g, i] := by
  match L, h with
  | [_, _, _, _, _, _, _, _], _ => rfl
theorem Rd.eight {w : World} {b off c : Nat} {t : List Int} (h : Rd w (some ⟨b, off, none⟩) c t) (hl : t.length = 8) : w.cell? ⟨b, off, none⟩ = some (.int .i64 (T t 0)) ∧ w.cell? ⟨b, off + 1, none⟩ = some (.int .i64 (T t 1)) ∧ w.cell? ⟨b, off + 2, none⟩ = some (.int .i64 (T t 2)) ∧ w.cell? ⟨b, off + 3, none⟩ = some (.int .i64 (T t 3)) ∧
    w.cell? ⟨b, off + 4, none⟩ = some (.int .i64 (T t 4)) ∧ w.cell? ⟨b, off + 5, none⟩ = some (.int .i64 (T t 5)) ∧ w.cell? ⟨b, off + 6, none⟩ = some (.int .i64 (T t 6)) ∧ w.cell? ⟨b, off + 7, none⟩ = some (.int .i64 (T t 7)) := by
  have : ∀ k, k < 8 → w.cell? ⟨b, off + k, none⟩ = some (.int .i64 (T t k)) := fun k hk => by
    obtain ⟨b', off', x, hA, _, hx, hc⟩ := h.at_ (k := k) (by omega)
    cases hA
    rw [hc, T_of hx.out]
  exact ⟨this 0 (by omega), this 1 (by omega), this 2 (by omega), this 3 (by omega), this 4 (by omega), this 5 (by omega), this 6 (by omega), this 7 (by omega)⟩
theorem Rd.some_ {w : World} {A : Option Addr} {c : Nat} {t : List Int} (h : Rd w A c t) (hl : t.length = 8) : ∃ b off, A = some ⟨b, off, none⟩ := by
  obtain ⟨b, off, _, hA, _⟩ := h.at_ (k := 0) (by omega)
  exact ⟨b, off, hA⟩

theorem arr_ptr (b off c : Nat) (w : World) : (Instr.arrayAt 96 (.slice (some ⟨b, off, none⟩) 8 c)).run Try.prog w = .ok (.pointer (some ⟨b, off, none⟩)) w := by kernel_rfl

/-- Where joinedOf stands. -/
def JnAt (w wr : World) (ts : List (List Int)) (k : Nat) : Prop := Below w.heap.size w wr ∧ Arr wr w.heap.size (List.replicate 8 0) ∧ Arr wr (w.heap.size + 1) (jnAll (ts.take k))

theorem below_al3 {w wr : World} {k : Nat} {v : Value} (h : Below w.heap.size w wr) : Below w.heap.size w (wr.setCell ⟨w.heap.size + 1, k, none⟩ v) := h.setCell (by show w.heap.size ≤ w.heap.size + 1; omega) _
theorem below_al4 {w wr : World} {k : Nat} {v : Value} (h : Below w.heap.size w wr) : Below w.heap.size w (wr.setCell ⟨w.heap.size, k, none⟩ v) := h.setCell (Nat.le_refl _) _

set_option maxRecDepth 100000 in
set_option maxHeartbeats 1600000 in
theorem joinedOf_gen (A : Option Addr) (c : Nat) (ts : List (List Int)) (w : World) (h : RdR w A c ts) (h4 : ts.length ≤ 4) (hv : ∀ t ∈ ts, VT t) :
    Calls Try.prog 102 #[.slice A ts.length c] w fun e w' => e = .returned (ag8 (T (jnAll ts))) ∧ Below w.heap.size w w' := by
  have HVT := Lib.hid (fun (t : List Int) (ht : t ∈ ts) => hv t ht)
  have HBD := Lib.hid (fun (k : Nat) => jnAll_bd (ts := ts.take k) (fun t ht => hv t (List.mem_of_mem_take ht)))
  obtain ⟨l, hl⟩ : ∃ l, l = jnAll ts := ⟨_, rfl⟩
  have HL := Lib.hid hl
  rw [← hl]
  clear hl hv
  have HS : Hid (JnAt w ((w.alloc (.cells #[.int .i64 0, .int .i64 0, .int .i64 0, .int .i64 0, .int .i64 0, .int .i64 0, .int .i64 0, .int .i64 0] 96)).alloc (.cells #[.int .i64 0, .int .i64 0, .int .i64 0, .int .i64 0, .int .i64 0, .int .i64 0, .int .i64 0, .int .i64 0] 96)) ts 0) := by
    refine Lib.hid ⟨((Below.refl _ w).alloc (Nat.le_refl _) _).alloc (by simp) _, (Arr.new w (List.replicate 8 0) rfl).alloc _, ?_⟩
    have h1 := Arr.new (w.alloc (.cells #[.int .i64 0, .int .i64 0, .int .i64 0, .int .i64 0, .int .i64 0, .int .i64 0, .int .i64 0, .int .i64 0] 96)) (List.replicate 8 0) rfl
    simp only [show ∀ (w : World) (o : Obj), (w.alloc o).heap.size = w.heap.size + 1 from fun w o => by simp] at h1
    rw [jnAll_zero]
    exact h1
  unfold ag8
  go_enter Try.func102, Try.ntmps102
  go_wp2
  go_loopw [8] (fun i wr => ∃ k : Nat, k ≤ ts.length ∧ i = .int .i64 (k : Int) ∧ Hid (JnAt w wr ts k)) (fun i _ => ts.length - (intOf i).toNat)
  case atStart => exact ⟨0, by omega, rfl, HS⟩
  case round =>
    obtain ⟨k, hk, rfl, HA⟩ := hrel
    clear HS
    by_cases hlt : k < ts.length
    · obtain ⟨b, off, r, A', c', rfl, hr, hc, hcap, hrd⟩ := (h.below HA.out.1).at_ hlt
      have hvt := HVT.out r (List.mem_of_getElem? hr.out)
      obtain ⟨b', off', rfl⟩ := hrd.out.some_ hvt.1
      obtain ⟨c0, c1, c2, c3, c4, c5, c6, c7⟩ := hrd.out.eight hvt.1
      rw [hvt.1] at hc
      have hbd := HBD.out k
      have hl4 : ((ts.take k).length : Int) ≤ 4 := by rw [List.length_take]; omega
      have HT := Lib.hid (fun (w1 : World) => together_any (T (jnAll (ts.take k))) (T r) (30 * ((ts.take k).length : Int)) 30 (fun s hs => hbd.2 s hs) (fun s hs => hvt.bd hs) (by omega) w1)
      have HST := Lib.hid (jnAll_step hr.out)
      obtain ⟨d0, d1, d2, d3, d4, d5, d6, d7⟩ := HA.out.2.2.all
      have hbl := HA.out.1
      have hA0 := HA.out.2.1
      have hA1 := HA.out.2.2
      have HLT := Lib.hid hA1.lt
      obtain ⟨m, hm⟩ : ∃ m, m = jnAll (ts.take k) := ⟨_, rfl⟩
      rw [← hm] at HT HST d0 d1 d2 d3 d4 d5 d6 d7 hA1
      obtain ⟨g, hg⟩ : ∃ g, g = tg (T m) (T r) := ⟨_, rfl⟩
      rw [← hg] at HT HST
      have hgl : g.length = 8 := by rw [hg]; exact tg_len _ _
      have HGL := Lib.hid hgl
      clear hm hg hgl hbd hl4 hvt hr hrd HA hcap
      have HA0 := Lib.hid hA0
      have HA1 := Lib.hid hA1
      clear hA0 hA1
      have hap := arr_ptr b' off' c'
      go_wp2_with fail
      go_still_tail 4, (by kernel_rfl)
      change wpList _ _ _ _ _ wr.drew
      go_wp2_with (go_at_call 149; refine (HT.out _).mono ?_; rintro e w1 ⟨rfl, hb1⟩; unfold ag8; have hA2 := HA1.out.keep (hb1.block _ HLT.out); obtain ⟨e0, e1, e2, e3, e4, e5, e6, e7⟩ := hA2.all; have f0 := hA2.free 0; have f1 := hA2.free 1; have f2 := hA2.free 2; have f3 := hA2.free 3; have f4 := hA2.free 4; have f5 := hA2.free 5; have f6 := hA2.free 6; have f7 := hA2.free 7)
      go_roundw
      case rel =>
        refine ⟨k + 1, by omega, by go_num, Lib.hid ⟨?_, ?_, ?_⟩⟩
        · exact below_al3 (below_al3 (below_al3 (below_al3 (below_al3 (below_al3 (below_al3 (below_al3 ((below_then hbl.drew hb1)))))))))
        · exact Arr.other (Arr.other (Arr.other (Arr.other (Arr.other (Arr.other (Arr.other (Arr.other ((HA0.out.keep (hb1.block _ (by have := HLT.out; show w.heap.size < wr.heap.size; omega)))) (by omega)) (by omega)) (by omega)) (by omega)) (by omega)) (by omega)) (by omega)) (by omega)
        · have h9 := (((((((hA2.set_ (k := 0) (T g 0)).set_ (k := 1) (T g 1)).set_ (k := 2) (T g 2)).set_ (k := 3) (T g 3)).set_ (k := 4) (T g 4)).set_ (k := 5) (T g 5)).set_ (k := 6) (T g 6)).set_ (k := 7) (T g 7)
          rw [set8 hA2.1, show [T g 0, T g 1, T g 2, T g 3, T g 4, T g 5, T g 6, T g 7] = g from lit8_T HGL.out] at h9
          rw [HST.out]
          exact h9
      case measure => simp [intOf]; omega
    · obtain rfl : k = ts.length := by omega
      obtain ⟨hb, hr, hbo⟩ := HA.out
      rw [List.take_length, ← HL.out] at hbo
      obtain ⟨c0, c1, c2, c3, c4, c5, c6, c7⟩ := hbo.all
      have f0 := hr.free 0
      have f1 := hr.free 1
      have f2 := hr.free 2
      have f3 := hr.free 3
      have f4 := hr.free 4
      have f5 := hr.free 5
      have f6 := hr.free 6
      have f7 := hr.free 7
      obtain ⟨r0, r1, r2, r3, r4, r5, r6, r7⟩ := hr.all
      have a0 := hr.set_ (k := 0) (T l 0)
      have s0 : (wr.setCell ⟨w.heap.size, 0, none⟩ (.int .i64 (T l 0))).cell? ⟨w.heap.size, 0, none⟩ = some (.int .i64 (T l 0)) := hr.got (by omega) _
      have a1 := a0.set_ (k := 1) (T l 1)
      have s1 : ((wr.setCell ⟨w.heap.size, 0, none⟩ (.int .i64 (T l 0))).setCell ⟨w.heap.size, 1, none⟩ (.int .i64 (T l 1))).cell? ⟨w.heap.size, 1, none⟩ = some (.int .i64 (T l 1)) := a0.got (by omega) _
      have a2 := a1.set_ (k := 2) (T l 2)
      have s2 : (((wr.setCell ⟨w.heap.size, 0, none⟩ (.int .i64 (T l 0))).setCell ⟨w.heap.size, 1, none⟩ (.int .i64 (T l 1))).setCell ⟨w.heap.size, 2, none⟩ (.int .i64 (T l 2))).cell? ⟨w.heap.size, 2, none⟩ = some (.int .i64 (T l 2)) := a1.got (by omega) _
      have a3 := a2.set_ (k := 3) (T l 3)
      have s3 : ((((wr.setCell ⟨w.heap.size, 0, none⟩ (.int .i64 (T l 0))).setCell ⟨w.heap.size, 1, none⟩ (.int .i64 (T l 1))).setCell ⟨w.heap.size, 2, none⟩ (.int .i64 (T l 2))).setCell ⟨w.heap.size, 3, none⟩ (.int .i64 (T l 3))).cell? ⟨w.heap.size, 3, none⟩ = some (.int .i64 (T l 3)) := a2.got (by omega) _
      have a4 := a3.set_ (k := 4) (T l 4)
      have s4 : (((((wr.setCell ⟨w.heap.size, 0, none⟩ (.int .i64 (T l 0))).setCell ⟨w.heap.size, 1, none⟩ (.int .i64 (T l 1))).setCell ⟨w.heap.size, 2, none⟩ (.int .i64 (T l 2))).setCell ⟨w.heap.size, 3, none⟩ (.int .i64 (T l 3))).setCell ⟨w.heap.size, 4, none⟩ (.int .i64 (T l 4))).cell? ⟨w.heap.size, 4, none⟩ = some (.int .i64 (T l 4)) := a3.got (by omega) _
      have a5 := a4.set_ (k := 5) (T l 5)
      have s5 : ((((((wr.setCell ⟨w.heap.size, 0, none⟩ (.int .i64 (T l 0))).setCell ⟨w.heap.size, 1, none⟩ (.int .i64 (T l 1))).setCell ⟨w.heap.size, 2, none⟩ (.int .i64 (T l 2))).setCell ⟨w.heap.size, 3, none⟩ (.int .i64 (T l 3))).setCell ⟨w.heap.size, 4, none⟩ (.int .i64 (T l 4))).setCell ⟨w.heap.size, 5, none⟩ (.int .i64 (T l 5))).cell? ⟨w.heap.size, 5, none⟩ = some (.int .i64 (T l 5)) := a4.got (by omega) _
      have a6 := a5.set_ (k := 6) (T l 6)
      have s6 : (((((((wr.setCell ⟨w.heap.size, 0, none⟩ (.int .i64 (T l 0))).setCell ⟨w.heap.size, 1, none⟩ (.int .i64 (T l 1))).setCell ⟨w.heap.size, 2, none⟩ (.int .i64 (T l 2))).setCell ⟨w.heap.size, 3, none⟩ (.int .i64 (T l 3))).setCell ⟨w.heap.size, 4, none⟩ (.int .i64 (T l 4))).setCell ⟨w.heap.size, 5, none⟩ (.int .i64 (T l 5))).setCell ⟨w.heap.size, 6, none⟩ (.int .i64 (T l 6))).cell? ⟨w.heap.size, 6, none⟩ = some (.int .i64 (T l 6)) := a5.got (by omega) _
      have a7 := a6.set_ (k := 7) (T l 7)
      have s7 : ((((((((wr.setCell ⟨w.heap.size, 0, none⟩ (.int .i64 (T l 0))).setCell ⟨w.heap.size, 1, none⟩ (.int .i64 (T l 1))).setCell ⟨w.heap.size, 2, none⟩ (.int .i64 (T l 2))).setCell ⟨w.heap.size, 3, none⟩ (.int .i64 (T l 3))).setCell ⟨w.heap.size, 4, none⟩ (.int .i64 (T l 4))).setCell ⟨w.heap.size, 5, none⟩ (.int .i64 (T l 5))).setCell ⟨w.heap.size, 6, none⟩ (.int .i64 (T l 6))).setCell ⟨w.heap.size, 7, none⟩ (.int .i64 (T l 7))).cell? ⟨w.heap.size, 7, none⟩ = some (.int .i64 (T l 7)) := a6.got (by omega) _
      have HB : Hid (Below w.heap.size w ((((((((wr.setCell ⟨w.heap.size, 0, none⟩ (.int .i64 (T l 0))).setCell ⟨w.heap.size, 1, none⟩ (.int .i64 (T l 1))).setCell ⟨w.heap.size, 2, none⟩ (.int .i64 (T l 2))).setCell ⟨w.heap.size, 3, none⟩ (.int .i64 (T l 3))).setCell ⟨w.heap.size, 4, none⟩ (.int .i64 (T l 4))).setCell ⟨w.heap.size, 5, none⟩ (.int .i64 (T l 5))).setCell ⟨w.heap.size, 6, none⟩ (.int .i64 (T l 6))).setCell ⟨w.heap.size, 7, none⟩ (.int .i64 (T l 7)))) := Lib.hid (below_al4 (below_al4 (below_al4 (below_al4 (below_al4 (below_al4 (below_al4 (below_al4 (hb)))))))))
      clear a0 a1 a2 a3 a4 a5 a6 a7 hr hbo
      go_wp2
      refine bodyPost_ret (by simp [results, Try.results102, go_sem, s0, s1, s2, s3, s4, s5, s6, s7]; try rfl) rfl ?_
      exact ⟨rfl, HB.out⟩
theorem joinedOf_any (A : Option Addr) (c : Nat) (ts : List (List Int)) (w : World) (h : RdR w A c ts) (hv : VTs ts) :
    Calls Try.prog 102 #[.slice A ts.length c] w fun e w' => e = .returned (ag8 (T (jnAll ts))) ∧ Below w.heap.size w w' := joinedOf_gen A c ts w h hv.1.2 hv.2

/-- What the program's SplitWorth tells. -/
noncomputable def spF (ts : List (List Int)) (x : Int) : Int := if vtsB ts = true ∧ 0 ≤ x ∧ x ≤ 7 then sv ts x.toNat else -1

set_option maxHeartbeats 800000 in
theorem SplitWorth_any (A : Option Addr) (c : Nat) (ts : List (List Int)) (x : Int) (w : World) (h : RdR w A c ts) (hl2 : ∀ r ∈ ts, r.length ≤ 1099511627776) :
    Calls Try.prog 44 #[.slice A ts.length c, .int .i64 x] w fun e w' => e = .returned (.int .i64 (spF ts x)) ∧ Below w.heap.size w w' := by
  have HC := Lib.hid (areTables_any A c ts w h hl2)
  rcases hb : vtsB ts with _ | _
  · have HE : Hid (spF ts x = -1) := Lib.hid (by unfold spF; rw [hb]; simp)
    rw [hb] at HC
    clear hb
    go_enter Try.func44, Try.ntmps44
    go_wp2_with (go_at_call 77; refine HC.out.mono ?_; rintro e w1 ⟨rfl, hb⟩)
    go_ret
    exact ⟨by rw [HE.out]; rfl, hb⟩
  · rw [hb] at HC
    have hv := vtsB_iff.1 hb
    by_cases hx : 0 ≤ x ∧ x ≤ 7
    · obtain ⟨s, rfl⟩ : ∃ s : Nat, x = (s : Int) := ⟨x.toNat, by omega⟩
      have hs8 : s < 8 := by omega
      have HE : Hid (spF ts (s : Int) = T (jnAll ts) s) := Lib.hid (by unfold spF; rw [if_pos ⟨hb, hx⟩, jnAll_at (fun t ht => (hv.2 t ht).2.1) hs8]; rfl)
      have HJ := Lib.hid (fun (w1 : World) (h1 : RdR w1 A c ts) => joinedOf_any A c ts w1 h1 hv)
      obtain ⟨l, hl⟩ : ∃ l, l = jnAll ts := ⟨_, rfl⟩
      rw [← hl] at HE HJ
      have hi := idx8 (T l) hs8
      have h0 : (0 : Int) ≤ (s : Int) := by omega
      have h7 : (s : Int) ≤ 7 := by omega
      have h8 : (s : Int) < 8 := by omega
      clear hl hb hv hx
      go_enter Try.func44, Try.ntmps44
      go_wp2_with (first
        | (go_at_call 77; refine HC.out.mono ?_; rintro e w1 ⟨rfl, hb⟩)
        | (go_at_call 102; refine (HJ.out _ (h.below hb)).mono ?_; rintro e w2 ⟨rfl, hb2⟩; unfold ag8))
      go_ret
      exact ⟨by rw [HE.out]; rfl, below_then hb hb2⟩
    · have HE : Hid (spF ts x = -1) := Lib.hid (by unfold spF; rw [if_neg (fun h => hx h.2)])
      clear hb hv
      by_cases h0 : x < 0
      · clear hx
        go_enter Try.func44, Try.ntmps44
        go_wp2_with (go_at_call 77; refine HC.out.mono ?_; rintro e w1 ⟨rfl, hb⟩)
        go_ret
        exact ⟨by rw [HE.out]; rfl, hb⟩
      · have h7 : 7 < x := by omega
        clear hx
        go_enter Try.func44, Try.ntmps44
        go_wp2_with (go_at_call 77; refine HC.out.mono ?_; rintro e w1 ⟨rfl, hb⟩)
        go_ret
        exact ⟨by rw [HE.out]; rfl, hb⟩

end Go.Proofs.Ytpildecpabeanaa
