/-
  Chapter 8, plain: prices that go with the best pairs, the least ones and the most ones, and what a bidder less turns.
-/
import Derived.Test.YtpildecpabeanaaOc
import Derived.Test.YtpildecpabeanaaG04
import Derived.Test.YtpildecpabeanaaG03
namespace Go.Proofs.Ytpildecpabeanaa

/-- What is taken behind all. -/
def endU (m : Nat) : Nat → List Nat → Nat
  | u, [] => u
  | u, j :: js => endU m (nxU m u j) js
/-- All have what is best at prices. -/
def sptW (m : Nat) : List (List Int) → (Nat → Int) → List Nat → Prop
  | r :: rs, p, j :: js => r.getD j 0 - p j = bo m r 0 p ∧ sptW m rs p js
  | _, _, _ => True
def goW (m : Nat) (rows : List (List Int)) (p : Nat → Int) (js : List Nat) : Prop := sptW m rows p js ∧ ∀ j, j < m → isTk m (endU m 0 js) j = false → p j = 0

theorem end_tk {m : Nat} (hm : m ≤ 4) {rows : List (List Int)} : ∀ (u : Nat) (js : List Nat), u < 16 → Mt m rows u js → endU m u js < 16 ∧ ∀ k, isTk m (endU m u js) k = (isTk m u k || decide (k < m ∧ k ∈ js)) := by
  induction rows with
  | nil => intro u js hu h; rw [Mt] at h; rw [h]; exact ⟨hu, fun k => by simp [endU]⟩
  | cons r rs ih =>
    intro u js hu h
    obtain ⟨j, js', rfl, hj, hf, h'⟩ := h
    obtain ⟨h1, h2⟩ := nx_tk hm hu hj hf
    obtain ⟨h3, h4⟩ := ih _ _ h1 h'
    refine ⟨h3, fun k => ?_⟩
    show isTk m (endU m (nxU m u j) js') k = _
    rw [h4 k, h2 k]
    by_cases e : k = j
    · subst e
      by_cases hk : k < m <;> simp [hk]
    · simp [e]
theorem own_le {m : Nat} {r : List Int} (hr : r.length = m) {p : Nat → Int} (hp : NN m p) {j : Nat} (hj : j ≤ m) : r.getD j 0 - p j ≤ bo m r 0 p := by
  rcases Nat.lt_or_ge j m with h | h
  · exact bo_ge r p h (tk_zero m j)
  · have h1 := hp.2 j h
    have h2 : r.getD j 0 = 0 := by rw [List.getD_eq_getElem?_getD, List.getElem?_eq_none (by omega)]; rfl
    have := bo_nonneg m r 0 p
    omega
theorem cs_sum {m : Nat} (hm : m ≤ 4) {p : Nat → Int} (hp : NN m p) {rows : List (List Int)} (hr : Rk m rows) : ∀ (u : Nat) (js : List Nat), u < 16 → Mt m rows u js →
    ∃ g : Int, 0 ≤ g ∧ (g = 0 ↔ sptW m rows p js) ∧ boS m rows 0 p + spTo m u p m = vl rows js + g + spTo m (endU m u js) p m := by
  induction rows with
  | nil => intro u js hu h; rw [Mt] at h; rw [h]; exact ⟨0, Int.le_refl _, by simp [sptW], by simp [boS, vl, endU]⟩
  | cons r rs ih =>
    intro u js hu h
    obtain ⟨j, js', rfl, hj, hf, h'⟩ := h
    obtain ⟨h1, h2⟩ := nx_tk hm hu hj hf
    obtain ⟨g, g0, g1, g2⟩ := ih hr.tail _ _ h1 h'
    have a := own_le hr.head.1 hp hj
    have b : spTo m (nxU m u j) p m = spTo m u p m - p j := by
      rcases Nat.lt_or_ge j m with hjm | hjm
      · have := spTo_take hm hu hjm hf p m; rw [if_pos hjm] at this; exact this
      · have : nxU m u j = u := by unfold nxU; rw [if_neg (by omega)]
        rw [this, hp.2 j hjm]; omega
    refine ⟨g + (bo m r 0 p - (r.getD j 0 - p j)), by omega, ?_, ?_⟩
    · simp only [sptW]
      constructor
      · intro e; exact ⟨by omega, g1.1 (by omega)⟩
      · rintro ⟨e1, e2⟩; have := g1.2 e2; omega
    · simp only [boS, vl, endU]
      omega
theorem spTo_none {m : Nat} {u : Nat} {p : Nat → Int} (hp : ∀ j, 0 ≤ p j) : ∀ k, k ≤ m → (spTo m u p k = 0 ↔ ∀ j, j < k → isTk m u j = false → p j = 0) := by
  intro k
  induction k with
  | zero => intro _; simp [spTo]
  | succ k ih =>
    intro hk
    have i1 := ih (by omega)
    have n := spTo_nonneg (m := m) u hp k
    unfold spTo
    cases ht : isTk m u k with
    | true =>
      rw [if_pos rfl, i1]
      constructor
      · intro h j hj hf
        rcases Nat.lt_or_ge j k with h' | h'
        · exact h j h' hf
        · obtain rfl : j = k := by omega
          rw [ht] at hf; exact absurd hf (by simp)
      · intro h j hj; exact h j (by omega)
    | false =>
      rw [if_neg (by simp)]
      have := hp k
      constructor
      · intro h j hj hf
        rcases Nat.lt_or_ge j k with h' | h'
        · exact (i1.1 (by omega)) j h' hf
        · obtain rfl : j = k := by omega
          omega
      · intro h
        have a := i1.2 (fun j hj => h j (by omega))
        have b := h k (by omega) ht
        omega
/-- Prices go with the best pairs where the load is just what these are worth. -/
theorem go_iff {m : Nat} (hm : m ≤ 4) {rows : List (List Int)} (hr : Rk m rows) {p : Nat → Int} (hp : NN m p) : goW m rows p (pb rows 0).2 ↔ lp m rows 0 p = (pb rows 0).1 := by
  obtain ⟨a, b⟩ := pb_mt hr 0
  obtain ⟨g, g0, g1, g2⟩ := cs_sum hm hp hr 0 _ (by omega) a
  have c := spTo_none (u := endU m 0 (pb rows 0).2) hp.1 m (Nat.le_refl _)
  have d := spTo_nonneg (m := m) (endU m 0 (pb rows 0).2) hp.1 m
  unfold goW
  rw [← g1, ← c]
  simp only [lp]
  omega
/-- What goes with the pairs is no more than what things are worth. -/
theorem go_bd {m : Nat} (hm : m ≤ 4) {rows : List (List Int)} (hr : Rk m rows) {B : Int} (hB0 : 0 ≤ B) (hB : ∀ r ∈ rows, ∀ j, r.getD j 0 ≤ B) {p : Nat → Int} (hp : NN m p) (h : goW m rows p (pb rows 0).2) : ∀ j, p j ≤ B := by
  have key : ∀ (rows : List (List Int)) (js : List Nat), (∀ r ∈ rows, ∀ j, r.getD j 0 ≤ B) → js.length = rows.length → sptW m rows p js → ∀ j ∈ js, p j ≤ B := by
    intro rows
    induction rows with
    | nil => intro js _ hl _ j hj; have : js = [] := List.length_eq_zero_iff.1 hl; rw [this] at hj; exact absurd hj (by simp)
    | cons r rs ih =>
      intro js hB hl hs j hj
      cases js with
      | nil => simp at hl
      | cons i js =>
        obtain ⟨h1, h2⟩ := hs
        rcases List.mem_cons.1 hj with rfl | hj
        · have := bo_nonneg m r 0 p
          have := hB r (by simp) j
          omega
        · exact ih js (fun x hx => hB x (by simp [hx])) (by simpa using hl) h2 j hj
  intro j
  rcases Nat.lt_or_ge j m with hj | hj
  · obtain ⟨a, _⟩ := pb_mt hr 0
    obtain ⟨_, e⟩ := end_tk hm 0 _ (by omega) a
    cases ht : isTk m (endU m 0 (pb rows 0).2) j with
    | false => have := h.2 j hj ht; omega
    | true =>
      rw [e j, tk_zero] at ht
      simp only [Bool.false_or, decide_eq_true_eq] at ht
      exact key rows _ hB (pb_len hr 0) h.1 j ht.2
  · have := hp.2 j hj; omega

/-- What a thing takes when it is missing. -/
def mpP (rows : List (List Int)) (j : Nat) : Int := (pb rows 0).1 - (pb rows (2 ^ j)).1
def mpN (m : Nat) (rows : List (List Int)) : Nat → Int := fun j => if j < m then mpP rows j else 0
theorem nx_zero {m j : Nat} (hj : j < m) : nxU m 0 j = 2 ^ j := by unfold nxU; rw [if_pos hj]; omega
theorem mp_nonneg {m : Nat} (hm : m ≤ 4) {rows : List (List Int)} (hr : Rk m rows) {j : Nat} (hj : j < m) : 0 ≤ mpP rows j := by
  obtain ⟨h1, h2⟩ := nx_tk hm (u := 0) (by omega) (Nat.le_of_lt hj) (tk_zero m j)
  have := pb_less hm hr (u := nxU m 0 j) (v := 0) h1 (by omega) (fun k hk => by rw [tk_zero] at hk; exact absurd hk (by simp))
  rw [nx_zero hj] at this
  unfold mpP; omega
theorem mp_nn {m : Nat} (hm : m ≤ 4) {rows : List (List Int)} (hr : Rk m rows) : NN m (mpN m rows) := by
  refine ⟨fun j => ?_, fun j hj => ?_⟩
  · simp only [mpN]; split
    · exact mp_nonneg hm hr (by assumption)
    · exact Int.le_refl _
  · simp only [mpN]; rw [if_neg (by omega)]
/-- No prices at which the load is least are more. -/
theorem mp_ge {m : Nat} (hm : m ≤ 4) {rows : List (List Int)} (hr : Rk m rows) {q : Nat → Int} (hq : NN m q) (he : lp m rows 0 q = (pb rows 0).1) : ∀ j, q j ≤ mpN m rows j := by
  intro j
  simp only [mpN]
  split
  · rename_i hj
    obtain ⟨h1, _⟩ := nx_tk hm (u := 0) (by omega) (Nat.le_of_lt hj) (tk_zero m j)
    have a := pb_weak hm hr hq _ h1
    have b := lp_take hm rows (u := 0) (by omega) hj (tk_zero m j) q
    rw [nx_zero hj] at a b
    unfold mpP; omega
  · rename_i hj
    rw [hq.2 j (by omega)]; exact Int.le_refl _
theorem sum_le {m : Nat} {p q : Nat → Int} (hle : ∀ j, p j ≤ q j) (k : Nat) : spTo m 0 p k ≤ spTo m 0 q k := (sum_same (m := m) hle k).1
/-- And at these it is least. -/
theorem mp_min {m : Nat} (hm : m ≤ 4) {rows : List (List Int)} (hr : Rk m rows) : lp m rows 0 (mpN m rows) = (pb rows 0).1 := by
  have weak : ∀ q, NN m q → (pb rows 0).1 ≤ lp m rows 0 q := fun q hq => pb_weak hm hr hq 0 (by omega)
  obtain ⟨p0, hp0, he0⟩ := pb_strong hm hr 0 (by omega)
  obtain ⟨q, hq, hmin, hgr⟩ := gm_some (f := lp m rows 0) hp0 (fun x hx => by rw [he0]; exact weak x hx) (B := spTo m 0 (mpN m rows) m)
    (fun x hx hle => sum_le (mp_ge hm hr hx (by have := weak x hx; omega)) m)
  have heq : lp m rows 0 q = (pb rows 0).1 := by have := hmin p0 hp0; have := weak q hq; omega
  have : q = mpN m rows := by
    refine funext (fun j => ?_)
    have hle := mp_ge hm hr hq heq j
    rcases Nat.lt_or_ge j m with hj | hj
    · have hall : ∀ x, NN m x → lp m rows 0 q - q j ≤ lp m rows 0 x - x j := by
        intro x hx
        refine sm_all (lpj_sm m rows 0 j) hq (fun x hx hb => ?_) (fun x hx hb => ?_) hx
        · rcases Int.lt_or_le (lp m rows 0 x - x j) (lp m rows 0 q - q j) with hlt | hle
          · have := (hb j).2
            have e := hgr x hx (fun k => (hb k).1) (by omega)
            rw [e]; exact Int.le_refl _
          · exact hle
        · have := hmin x hx
          have := (hb j).1
          omega
      obtain ⟨h1, _⟩ := nx_tk hm (u := 0) (by omega) (Nat.le_of_lt hj) (tk_zero m j)
      obtain ⟨x, hx, hxe⟩ := pb_strong hm hr _ h1
      obtain ⟨K, hK0, hK⟩ := row_top rows j
      have hx' : NN m (fun k => if k = j then K else x k) := by
        refine ⟨fun k => ?_, fun k hk => ?_⟩
        · simp only; split
          · exact hK0
          · exact hx.1 k
        · simp only; rw [if_neg (by omega)]; exact hx.2 k hk
      have a := hall _ hx'
      rw [if_pos rfl] at a
      have b := lp_dear hm (u := 0) (by omega) hj (tk_zero m j) x hK
      rw [hxe, nx_zero hj] at b
      simp only [mpN] at hle ⊢
      rw [if_pos hj] at hle ⊢
      unfold mpP at hle ⊢
      omega
    · rw [hq.2 j hj]; simp only [mpN]; rw [if_neg (by omega)]
  rw [← this]; exact heq

theorem boS_erase (m : Nat) (u : Nat) (p : Nat → Int) {rows : List (List Int)} : ∀ i, i < rows.length → boS m rows u p = bo m (rows.getD i []) u p + boS m (rows.eraseIdx i) u p := by
  induction rows with
  | nil => intro i hi; simp at hi
  | cons r rs ih =>
    intro i hi
    cases i with
    | zero => simp [boS]
    | succ i =>
      have := ih i (by simpa using hi)
      simp only [List.eraseIdx_cons_succ, boS, List.getD_cons_succ]
      omega
theorem lp_erase (m : Nat) (u : Nat) (p : Nat → Int) {rows : List (List Int)} {i : Nat} (hi : i < rows.length) : lp m rows u p = bo m (rows.getD i []) u p + lp m (rows.eraseIdx i) u p := by
  have := boS_erase m u p i hi
  simp only [lp]; omega
theorem pp_lm {m : Nat} (hm : m ≤ 4) {rows : List (List Int)} (hr : Rk m rows) {i : Nat} (hi : i < rows.length) : LM m (fun q => bo m (rows.getD i []) 0 q + lp m (rows.eraseIdx i) 0 q) (P1 (ppP m rows)) := by
  obtain ⟨a, b, _, d⟩ := pp_least hm hr
  have e : (fun q => bo m (rows.getD i []) 0 q + lp m (rows.eraseIdx i) 0 q) = lp m rows 0 := funext (fun q => (lp_erase m 0 q hi).symm)
  rw [e]
  have weak : ∀ q, NN m q → (pb rows 0).1 ≤ lp m rows 0 q := fun q hq => pb_weak hm hr hq 0 (by omega)
  refine ⟨a.nn, fun q hq => by rw [b]; exact weak q hq, fun q hq hle hf => funext (fun j => ?_)⟩
  have := d q hq (by have := weak q hq; omega) j
  have := hle j
  omega
/-- The prices that climb are least without a bidder, too. -/
theorem pp_erase {m : Nat} (hm : m ≤ 4) {rows : List (List Int)} (hr : Rk m rows) {i : Nat} (hi : i < rows.length) : lp m (rows.eraseIdx i) 0 (P1 (ppP m rows)) = (pb (rows.eraseIdx i) 0).1 := by
  have hr' := rk_erase hr i
  have h := lm_less (lp_sm m (rows.eraseIdx i) 0) (fun p q hle => bo_anti _ 0 (fun j _ => hle j)) (fun p q hle => bo_unit _ 0 (fun j _ => hle j)) (pp_lm hm hr hi)
  obtain ⟨q, hq, he⟩ := pb_strong hm hr' 0 (by omega)
  have a := h q hq
  have b := pb_weak hm hr' (pp_least hm hr).1.nn 0 (by omega)
  omega
theorem spt_at {m : Nat} {p : Nat → Int} : ∀ (rows : List (List Int)) (js : List Nat) (i : Nat), js.length = rows.length → sptW m rows p js → i < rows.length → (rows.getD i []).getD (js.getD i 0) 0 - p (js.getD i 0) = bo m (rows.getD i []) 0 p := by
  intro rows
  induction rows with
  | nil => intro js i _ _ hi; simp at hi
  | cons r rs ih =>
    intro js i hl hs hi
    cases js with
    | nil => simp at hl
    | cons j js =>
      cases i with
      | zero => exact hs.1
      | succ i => exact ih js i (by simpa using hl) hs.2 (by simpa using hi)
/-- What pairs pay is the price of the own thing. -/
theorem pp_pays {m : Nat} (hm : m ≤ 4) {rows : List (List Int)} (hr : Rk m rows) {i : Nat} (hi : i < rows.length) : ppF rows i = P1 (ppP m rows) ((pb rows 0).2.getD i 0) := by
  obtain ⟨a, b, _, _⟩ := pp_least hm hr
  have g := (go_iff hm hr a.nn).2 b
  have s := spt_at rows _ i (pb_len hr 0) g.1 hi
  have e := pp_erase hm hr hi
  have l := lp_erase m 0 (P1 (ppP m rows)) hi
  unfold ppF
  omega
/-- A bidder less: no dearer. -/
theorem pp_more {m : Nat} (hm : m ≤ 4) {rows : List (List Int)} (hr : Rk m rows) {i : Nat} (hi : i < rows.length) : ∀ j, P1 (ppP m (rows.eraseIdx i)) j ≤ P1 (ppP m rows) j :=
  (pp_least hm (rk_erase hr i)).2.2.2 _ (pp_least hm hr).1.nn (pp_erase hm hr hi)
theorem mp_more {m : Nat} (hm : m ≤ 4) {rows : List (List Int)} (hr : Rk m rows) {i : Nat} (hi : i < rows.length) {j : Nat} (hj : j < m) : mpP (rows.eraseIdx i) j ≤ mpP rows j := by
  have hr' := rk_erase hr i
  have n1 := mp_nn hm hr
  have n2 := mp_nn hm hr'
  have m1 := mp_min hm hr
  have m2 := mp_min hm hr'
  have x1 := mn_nn (e := 0) (by omega) n1 n2
  have x2 := mx_nn (e := 0) (by omega) n1 n2
  have s := lp_sm m (rows.eraseIdx i) 0 0 (by omega) _ _ n1 n2
  have w1 := pb_weak hm hr' x1 0 (by omega)
  have b := bo_anti (m := m) (rows.getD i []) 0 (p := mpN m rows) (q := mxP 0 (mpN m rows) (mpN m (rows.eraseIdx i))) (fun j _ => by simp only [mxP]; omega)
  have l1 := lp_erase m 0 (mpN m rows) hi
  have l2 := lp_erase m 0 (mxP 0 (mpN m rows) (mpN m (rows.eraseIdx i))) hi
  have w2 := pb_weak hm hr x2 0 (by omega)
  have g := mp_ge hm hr x2 (by omega) j
  simp only [mxP, mpN] at g
  rw [if_pos hj, if_pos hj] at g
  omega
end Go.Proofs.Ytpildecpabeanaa

/-
  The exact laws' helpers for lists of rows: sized, copied, compared, marked.
-/
namespace Go.Proofs.Ytpildecpabeanaa
open Go.RowKit

/-- The slice value of a row: its block, its capacity, its numbers. -/
def slU (p : Nat × Nat × List Int) : Value := .slice (some ⟨p.1, 0, none⟩) p.2.2.length p.2.1

/-- The slice value v holds the rows ps, it and each of them in a block of the call's own, from block B on, no two in one block. -/
structure RowsU (w : World) (B : Nat) (v : Value) (ps : List (Nat × Nat × List Int)) : Prop where
  row : w.ownsRow B 23 1 v ps.length (ps.map slU)
  each : ∀ p ∈ ps, Own w B (some ⟨p.1, 0, none⟩) p.2.1 p.2.2
  nodup : (ps.map (·.1)).Nodup

theorem rowU_apart {w : World} {B B' g c n : Nat} {v : Value} {vs : List Value} {zs : List Int} (hr : w.ownsRow B 23 1 v n vs) (ho : Own w B' (some ⟨g, 0, none⟩) c zs) : v.ownBlock ≠ some g := by
  intro e
  rcases hr.2 with ⟨rfl, _⟩ | ⟨g', cap, cur, rfl, _, hh, _⟩
  · simp [Value.ownBlock] at e
  · obtain rfl : g' = g := by simpa [Value.ownBlock] using e
    rcases ho.2 with ⟨hv, _⟩ | ⟨g2, cap2, cur2, hv2, _, hh2, _⟩
    · cases hv
    · injection hv2 with hA _ _
      injection hA with hA
      injection hA with hA
      subst hA
      rw [hh] at hh2
      cases hh2
theorem RowsU.below {w w' : World} {B : Nat} {v : Value} {ps : List (Nat × Nat × List Int)} (h : RowsU w B v ps) (hb : Below w.heap.size w w') : RowsU w' B v ps :=
  ⟨own_len h.row hb, fun p hp => (h.each p hp).below hb, h.nodup⟩
theorem RowsU.base {w : World} {B B' : Nat} {v : Value} {ps : List (Nat × Nat × List Int)} (h : RowsU w B v ps) (hB : B' ≤ B) : RowsU w B' v ps :=
  ⟨own_base h.row hB, fun p hp => (h.each p hp).base hB, h.nodup⟩
theorem RowsU.kept {w w' : World} {B : Nat} {v : Value} {ps : List (Nat × Nat × List Int)} (h : RowsU w B v ps) {r : Nat} (hg : w.grownBy w' (some r)) (hv : v.ownBlock ≠ some r) (hp : ∀ p ∈ ps, p.1 ≠ r) : RowsU w' B v ps :=
  ⟨h.row.kept hg (.inr hv), fun p hpp => (h.each p hpp).kept_ (A2 := some ⟨r, 0, none⟩) hg (.inr (fun e => hp p hpp (Option.some.inj e))), h.nodup⟩
/-- Own rows read as rows. -/
theorem RowsU.rdr {w : World} {B : Nat} {v : Value} {ps : List (Nat × Nat × List Int)} {rows : List (List Int)} (h : RowsU w B v ps) (hr : ps.map (·.2.2) = rows) : ∃ A c, v = .slice A rows.length c ∧ RdR w A c rows := by
  subst hr
  rw [List.length_map]
  rcases h.row.2 with ⟨hv, hn⟩ | ⟨g, cap, cur, hv, _, _, h1, _⟩
  · obtain rfl : ps = [] := List.eq_nil_of_length_eq_zero hn
    exact ⟨none, 0, hv, RdR.nil w⟩
  · refine ⟨some ⟨g, 0, none⟩, cap, hv, by simpa using h1, .inr ⟨g, 0, rfl, fun k r hk => ?_⟩⟩
    rw [List.getElem?_map] at hk
    cases hp : ps[k]? with
    | none => rw [hp] at hk; cases hk
    | some p =>
      rw [hp] at hk
      simp at hk
      subst hk
      subst hv
      have := World.ownsRow.cellAt h.row k (by have := (List.getElem?_eq_some_iff.1 hp).1; omega)
      have ho := h.each p (List.mem_of_getElem? hp)
      exact ⟨slU p, by rw [Nat.zero_add, this, List.getElem?_map, hp]; rfl, some ⟨p.1, 0, none⟩, p.2.1, rfl, ho.cap.1, ho.rd⟩

/-- How many there are, and how many numbers they hold. -/
def szR (rows : List (List Int)) : Nat := rows.length + rows.flatten.length

theorem flat_take {rows : List (List Int)} {k : Nat} {r : List Int} (hr : rows[k]? = some r) : (rows.take (k + 1)).flatten.length = (rows.take k).flatten.length + r.length := by
  rw [List.take_add_one, hr, List.flatten_append, List.length_append, Option.toList_some, List.flatten_cons, List.flatten_nil, List.append_nil]
theorem flat_le {rows : List (List Int)} (k : Nat) : (rows.take k).flatten.length ≤ rows.flatten.length := by
  have e : rows.flatten = (rows.take k).flatten ++ (rows.drop k).flatten := by rw [← List.flatten_append, List.take_append_drop]
  rw [e, List.length_append]; omega

end Go.Proofs.Ytpildecpabeanaa
