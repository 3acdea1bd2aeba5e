/-
  Chapter 5, plain: what bidders take from the others, what they add, and how these go together.
-/
import Derived.Test.YtpildecpabeanaaG01
namespace Go.Proofs.Ytpildecpabeanaa

/-- What bidder i takes from the others. -/
noncomputable def pvF (ts : List (List Int)) (i : Nat) : Int := sv (ts.eraseIdx i) 7 - (worthF ts (wayF ts) - T (ts.getD i []) (setOf (wayF ts) i))
/-- What bidder i adds. -/
def adF (ts : List (List Int)) (i : Nat) : Int := sv ts 7 - sv (ts.eraseIdx i) 7

theorem in7 {x : Nat} (h : x < 8) : x ∈ subs 7 := by
  have h7 : ∀ x, x < 8 → x ∈ subs 7 := by decide
  exact h7 _ h
theorem getD_row {ts : List (List Int)} {i : Nat} {t : List Int} (h : ts[i]? = some t) : ts.getD i [] = t := by rw [List.getD_eq_getElem?_getD, h]; rfl
theorem getD_mem {ts : List (List Int)} {i : Nat} (h : i < ts.length) : ts.getD i [] ∈ ts := by
  rw [List.getD_eq_getElem?_getD, List.getElem?_eq_getElem h]; exact List.getElem_mem h
theorem mem_erase {ts : List (List Int)} {i : Nat} {t : List Int} (h : t ∈ ts.eraseIdx i) : t ∈ ts := (List.eraseIdx_sublist ts i).mem h
theorem erase_len {ts : List (List Int)} {i : Nat} (h : i < ts.length) : (ts.eraseIdx i).length = ts.length - 1 := by rw [List.length_eraseIdx]; simp [h]

/-- What the others have by a way, they can have without the bidder. -/
theorem got_others (ts : List (List Int)) (x y z : Int) : ∀ (i : Nat) (k : Int), i < ts.length → Got (ts.eraseIdx i) (ge k x y z) (wk ts k x y z - T (ts.getD i []) (skn x y z (k + i))) := by
  induction ts with
  | nil => intro i k h; simp at h
  | cons t ts ih =>
    intro i k h
    obtain ⟨h1, h2⟩ := ge_step k x y z
    cases i with
    | zero =>
      have h3 := wk_got ts x y z (k + 1)
      have h4 : ge (k + 1) x y z ∈ subs (ge k x y z) := by rw [← h2]; exact (sub_rest (ge_lt _ _ _ _) h1).1
      have h5 := got_more (ge_lt _ _ _ _) h4 h3
      simp only [List.eraseIdx_zero, List.tail_cons, wk, List.getD_cons_zero]
      rw [show T t (skn x y z k) + wk ts (k + 1) x y z - T t (skn x y z (k + (0 : Nat))) = wk ts (k + 1) x y z by
        rw [show k + ((0 : Nat) : Int) = k by omega]; omega]
      exact h5
    | succ i =>
      have h3 := ih i (k + 1) (by simpa using h)
      simp only [List.eraseIdx_cons_succ, wk, List.getD_cons_succ]
      refine ⟨_, h1, _, by rw [h2]; exact h3, ?_⟩
      rw [show k + ((i + 1 : Nat) : Int) = k + 1 + (i : Int) by omega]
      omega

/-- Without a bidder there is no more. -/
theorem got_back {ts : List (List Int)} (hz : ∀ t ∈ ts, T t 0 = 0) : ∀ (i X : Nat) (v : Int), i < ts.length → Got (ts.eraseIdx i) X v → Got ts X v := by
  induction ts with
  | nil => intro i X v h; simp at h
  | cons t ts ih =>
    intro i X v h hg
    cases i with
    | zero =>
      refine ⟨0, sub_zero X, v, by simpa using hg, ?_⟩
      rw [hz t (by simp)]; omega
    | succ i =>
      simp only [List.eraseIdx_cons_succ] at hg
      obtain ⟨s, hs, u, hu, rfl⟩ := hg
      exact ⟨s, hs, u, ih (fun t ht => hz t (List.mem_cons_of_mem _ ht)) i _ _ (by simpa using h) hu, rfl⟩

/-- What is had with a bidder is had without, but for the bidder's own. -/
theorem got_out {ts : List (List Int)} : ∀ (i X : Nat) (v : Int), X < 8 → i < ts.length → Got ts X v → ∃ s, s ∈ subs X ∧ ∃ u, Got (ts.eraseIdx i) X u ∧ v = T (ts.getD i []) s + u := by
  induction ts with
  | nil => intro i X v _ h; simp at h
  | cons t ts ih =>
    rintro i X v hX h ⟨s, hs, u, hu, rfl⟩
    cases i with
    | zero =>
      refine ⟨s, hs, u, ?_, by simp⟩
      simp only [List.eraseIdx_zero, List.tail_cons]
      exact got_more hX (sub_rest hX hs).1 hu
    | succ i =>
      obtain ⟨s', hs', u', hu', rfl⟩ := ih i (X - s) u (sub_lt hX hs) (by simpa using h) hu
      obtain ⟨r1, r2, r3⟩ := sub_sub hX hs hs'
      refine ⟨s', r1, T t s + u', ?_, by simp; omega⟩
      simp only [List.eraseIdx_cons_succ]
      refine ⟨s, hs, u', hu', rfl⟩

theorem worthF_le {ts : List (List Int)} (os : List Int) : worthF ts os ≤ sv ts 7 :=
  got_le (got_more (by omega) (in7 (ge_lt _ _ _ _)) (wk_got ts _ _ _ 0))
theorem othersv_le {ts : List (List Int)} (os : List Int) {i : Nat} (h : i < ts.length) : worthF ts os - T (ts.getD i []) (setOf os i) ≤ sv (ts.eraseIdx i) 7 := by
  have h1 := got_others ts (os.getD 0 0) (os.getD 1 0) (os.getD 2 0) i 0 h
  have h2 := got_le (got_more (by omega) (in7 (ge_lt _ _ _ _)) h1)
  rw [Int.zero_add] at h2
  exact h2
theorem without_le {ts : List (List Int)} (hz : ∀ t ∈ ts, T t 0 = 0) {i : Nat} (h : i < ts.length) : sv (ts.eraseIdx i) 7 ≤ sv ts 7 :=
  got_le (got_back hz i 7 _ h (got_sv (fun t ht => hz t (mem_erase ht)) 7))
theorem VT.top {t : List Int} (h : VT t) {s : Nat} (hs : s < 8) : T t s ≤ T t 7 := by
  obtain ⟨h0, h1, h2, h3, h4, h5, h6, h7, h8⟩ := h.all
  rcases nat8 hs with rfl | rfl | rfl | rfl | rfl | rfl | rfl | rfl <;> omega
theorem without_ge {ts : List (List Int)} (hv : ∀ t ∈ ts, VT t) {i : Nat} (h : i < ts.length) : sv ts 7 ≤ sv (ts.eraseIdx i) 7 + T (ts.getD i []) 7 := by
  obtain ⟨s, hs, u, hu, he⟩ := got_out i 7 _ (by omega) h (got_sv (fun t ht => (hv t ht).2.1) 7)
  have h1 := got_le hu
  have h2 := (hv _ (getD_mem h)).top (subs_lt hs)
  omega

theorem VTs.zeros {ts : List (List Int)} (h : ∀ t ∈ ts, VT t) : ∀ t ∈ ts, T t 0 = 0 := fun t ht => (h t ht).2.1

/-- What the truth has is what is added. -/
theorem truth_has {ts : List (List Int)} (hv : ∀ t ∈ ts, VT t) (hn : ts.length ≤ 4) (i : Nat) : T (ts.getD i []) (setOf (wayF ts) i) - pvF ts i = adF ts i := by
  unfold pvF adF
  rw [wayF_worth (VTs.zeros hv) hn]; omega
theorem pv_nn {ts : List (List Int)} {i : Nat} (h : i < ts.length) : 0 ≤ pvF ts i := by
  have := othersv_le (wayF ts) h
  unfold pvF; omega
theorem pv_le {ts : List (List Int)} (hv : ∀ t ∈ ts, VT t) (hn : ts.length ≤ 4) {i : Nat} (h : i < ts.length) : pvF ts i ≤ T (ts.getD i []) (setOf (wayF ts) i) := by
  have h1 := without_le (VTs.zeros hv) h
  have h2 := truth_has hv hn i
  unfold adF at h2
  omega
theorem ad_nn {ts : List (List Int)} (hv : ∀ t ∈ ts, VT t) {i : Nat} (h : i < ts.length) : 0 ≤ adF ts i := by
  have h1 := without_le (VTs.zeros hv) h
  unfold adF; omega
theorem ad_le {ts : List (List Int)} (hv : ∀ t ∈ ts, VT t) {i : Nat} (h : i < ts.length) : adF ts i ≤ T (ts.getD i []) 7 := by
  have h1 := without_ge hv h
  unfold adF; omega

/-- Another table told: what all have by a way differs by that bidder's own. -/
theorem wk_set (x y z : Int) (t : List Int) : ∀ (ts : List (List Int)) (i : Nat) (k : Int), i < ts.length → wk (ts.set i t) k x y z - T t (skn x y z (k + i)) = wk ts k x y z - T (ts.getD i []) (skn x y z (k + i)) := by
  intro ts
  induction ts with
  | nil => intro i k h; simp at h
  | cons u ts ih =>
    intro i k h
    cases i with
    | zero =>
      simp only [List.set_cons_zero, wk, List.getD_cons_zero]
      rw [show k + ((0 : Nat) : Int) = k by omega]; omega
    | succ i =>
      have := ih i (k + 1) (by simpa using h)
      simp only [List.set_cons_succ, wk, List.getD_cons_succ]
      rw [show k + ((i + 1 : Nat) : Int) = k + 1 + (i : Int) by omega]
      omega
theorem worthF_set {ts : List (List Int)} (os : List Int) {i : Nat} (t : List Int) (h : i < ts.length) : worthF (ts.set i t) os - T t (setOf os i) = worthF ts os - T (ts.getD i []) (setOf os i) := by
  have := wk_set (os.getD 0 0) (os.getD 1 0) (os.getD 2 0) t ts i 0 h
  rw [Int.zero_add] at this
  exact this
theorem erase_set {ts : List (List Int)} (i : Nat) (t : List Int) : (ts.set i t).eraseIdx i = ts.eraseIdx i := by
  induction ts generalizing i with
  | nil => simp
  | cons u ts ih => cases i with
    | zero => simp
    | succ i => simp [ih]
/-- What bidder i has when t is told. -/
noncomputable def gtF (ts : List (List Int)) (i : Nat) (t : List Int) : Int := T (ts.getD i []) (setOf (wayF (ts.set i t)) i) - pvF (ts.set i t) i
theorem set_get {ts : List (List Int)} {i : Nat} (h : i < ts.length) : ts.set i (ts.getD i []) = ts := by
  rw [List.getD_eq_getElem?_getD, List.getElem?_eq_getElem h]; simp
theorem getD_set {ts : List (List Int)} {i : Nat} (t : List Int) (h : i < ts.length) : (ts.set i t).getD i [] = t := by
  rw [List.getD_eq_getElem?_getD, List.getElem?_set_self h]; rfl
theorem gt_truth {ts : List (List Int)} (hv : ∀ t ∈ ts, VT t) (hn : ts.length ≤ 4) {i : Nat} (h : i < ts.length) : gtF ts i (ts.getD i []) = adF ts i := by
  unfold gtF
  rw [set_get h, truth_has hv hn]
theorem gt_le {ts : List (List Int)} {i : Nat} (t : List Int) (h : i < ts.length) : gtF ts i t ≤ adF ts i := by
  unfold gtF pvF adF
  rw [getD_set t h, erase_set]
  have h1 := worthF_set (wayF (ts.set i t)) t h
  have h2 := worthF_le (ts := ts) (wayF (ts.set i t))
  omega

/-- The sum of what all have is the worth of the way. -/
def hasTo (ts : List (List Int)) (os : List Int) : Nat → Int
  | 0 => 0
  | k + 1 => hasTo ts os k + T (ts.getD k []) (setOf os k)
theorem hasTo_is {ts : List (List Int)} (os : List Int) : ∀ k, k ≤ ts.length → hasTo ts os k = worthF (ts.take k) os
  | 0, _ => by simp [hasTo, worthF, wk]
  | k + 1, h => by
    have h1 : ts[k]? = some (ts.getD k []) := by rw [List.getD_eq_getElem?_getD, List.getElem?_eq_getElem (by omega)]; rfl
    rw [worthF_step os h1, ← hasTo_is os k (by omega)]; rfl
/-- What all pay. -/
noncomputable def paidTo (ts : List (List Int)) : Nat → Int
  | 0 => 0
  | k + 1 => paidTo ts k + pvF ts k
theorem paidTo_bd {ts : List (List Int)} (hv : ∀ t ∈ ts, VT t) (hn : ts.length ≤ 4) : ∀ k, k ≤ ts.length → 0 ≤ paidTo ts k ∧ paidTo ts k ≤ hasTo ts (wayF ts) k
  | 0, _ => by simp [paidTo, hasTo]
  | k + 1, h => by
    have h1 := paidTo_bd hv hn k (by omega)
    have h2 := pv_nn (ts := ts) (i := k) (by omega)
    have h3 := pv_le hv hn (i := k) (by omega)
    simp only [paidTo, hasTo]
    omega
theorem paid_le {ts : List (List Int)} (hv : ∀ t ∈ ts, VT t) (hn : ts.length ≤ 4) : 0 ≤ paidTo ts ts.length ∧ paidTo ts ts.length ≤ sv ts 7 := by
  have h := paidTo_bd hv hn ts.length (Nat.le_refl _)
  rw [hasTo_is _ _ (Nat.le_refl _), List.take_length, wayF_worth (VTs.zeros hv) hn] at h
  exact h
theorem pv_bd {ts : List (List Int)} (hv : ∀ t ∈ ts, VT t) (hn : ts.length ≤ 4) {i : Nat} (h : i < ts.length) : 0 ≤ pvF ts i ∧ pvF ts i ≤ 30 :=
  ⟨pv_nn h, by have h1 := pv_le hv hn h; have h2 := (hv _ (getD_mem h)).bd (setOf_lt (wayF ts) i); omega⟩

end Go.Proofs.Ytpildecpabeanaa

/-
  Chapter 6, plain: prices of sets, what is left, what is in demand; which things may be moved, by moves and by threes; joined tables.
-/
namespace Go.Proofs.Ytpildecpabeanaa

/-- Prices of three things. -/
def VP (p : List Int) : Prop := p.length = 3 ∧ ∀ k, k < 3 → 0 ≤ T p k ∧ T p k ≤ 40
noncomputable def vp (p : List Int) : Bool := @decide (VP p) (Classical.propDecidable _)
theorem vp_true {p : List Int} (h : VP p) : vp p = true := by unfold vp; simp [h]
theorem vp_false {p : List Int} (h : ¬ VP p) : vp p = false := by unfold vp; simp [h]
theorem vp_iff {p : List Int} : vp p = true ↔ VP p := by unfold vp; simp

/-- What the first k things of a set cost. -/
def prTo (p : List Int) (s : Nat) : Nat → Int
  | 0 => 0
  | k + 1 => prTo p s k + ((s / 2 ^ k % 2 : Nat) : Int) * T p k
def pr (p : List Int) (s : Nat) : Int := prTo p s 3
theorem pr_vals (p : List Int) : pr p 0 = 0 ∧ pr p 1 = T p 0 ∧ pr p 2 = T p 1 ∧ pr p 3 = T p 0 + T p 1 ∧ pr p 4 = T p 2 ∧ pr p 5 = T p 0 + T p 2 ∧ pr p 6 = T p 1 + T p 2 ∧ pr p 7 = T p 0 + T p 1 + T p 2 := by
  simp [pr, prTo]
theorem VP.all {p : List Int} (h : VP p) : (0 ≤ T p 0 ∧ T p 0 ≤ 40) ∧ (0 ≤ T p 1 ∧ T p 1 ≤ 40) ∧ (0 ≤ T p 2 ∧ T p 2 ≤ 40) := ⟨h.2 0 (by omega), h.2 1 (by omega), h.2 2 (by omega)⟩
theorem VP.bd {p : List Int} (h : VP p) {s : Nat} (hs : s < 8) : 0 ≤ pr p s ∧ pr p s ≤ 120 := by
  have a := h.all
  have b := pr_vals p
  rcases nat8 hs with rfl | rfl | rfl | rfl | rfl | rfl | rfl | rfl <;> omega

/-- What is left of a set. -/
def lf (t p : List Int) (s : Nat) : Int := T t s - pr p s
/-- The greatest of it, of the first k sets, 0 at least. -/
def suTo (t p : List Int) : Nat → Int
  | 0 => 0
  | k + 1 => max (suTo t p k) (lf t p k)
def su (t p : List Int) : Int := suTo t p 8
theorem suTo_ge (t p : List Int) : ∀ k, 0 ≤ suTo t p k
  | 0 => Int.le_refl _
  | k + 1 => by have := suTo_ge t p k; simp only [suTo]; omega
theorem suTo_le (t p : List Int) : ∀ {k s : Nat}, s < k → lf t p s ≤ suTo t p k
  | 0, s, h => absurd h (by omega)
  | k + 1, s, h => by
    simp only [suTo]
    rcases Nat.lt_or_ge s k with h1 | h1
    · have := suTo_le t p h1; omega
    · rw [show s = k by omega]; omega
theorem suTo_got {t p : List Int} : ∀ k, suTo t p k = 0 ∨ ∃ s, s < k ∧ suTo t p k = lf t p s
  | 0 => .inl rfl
  | k + 1 => by
    simp only [suTo]
    rcases suTo_got (t := t) (p := p) k with h | ⟨s, hs, h⟩
    · rcases Int.le_total (suTo t p k) (lf t p k) with h1 | h1
      · exact .inr ⟨k, by omega, by omega⟩
      · exact .inl (by omega)
    · rcases Int.le_total (suTo t p k) (lf t p k) with h1 | h1
      · exact .inr ⟨k, by omega, by omega⟩
      · exact .inr ⟨s, by omega, by omega⟩
theorem su_le {t p : List Int} {s : Nat} (h : s < 8) : lf t p s ≤ su t p := suTo_le t p h
theorem su_ge (t p : List Int) : 0 ≤ su t p := suTo_ge t p 8
theorem lf_zero {t p : List Int} (h : T t 0 = 0) : lf t p 0 = 0 := by unfold lf; rw [h, (pr_vals p).1]; rfl
theorem su_got {t p : List Int} (h : T t 0 = 0) : ∃ s, s < 8 ∧ su t p = lf t p s := by
  rcases suTo_got (t := t) (p := p) 8 with h1 | h1
  · exact ⟨0, by omega, by rw [lf_zero h]; exact h1⟩
  · exact h1
theorem lf_bd {t p : List Int} (h : VT t) (hp : VP p) {s : Nat} (hs : s < 8) : -120 ≤ lf t p s ∧ lf t p s ≤ 30 := by
  have a := h.bd hs
  have b := hp.bd hs
  unfold lf; omega
theorem suTo_bd {t p : List Int} (h : VT t) (hp : VP p) : ∀ {k : Nat}, k ≤ 8 → 0 ≤ suTo t p k ∧ suTo t p k ≤ 30 := by
  intro k hk
  refine ⟨suTo_ge t p k, ?_⟩
  rcases suTo_got (t := t) (p := p) k with h1 | ⟨s, hs, h1⟩
  · omega
  · have := lf_bd h hp (s := s) (by omega); omega

/-- The first k sets that are in demand. -/
def dmTo (t p : List Int) : Nat → List Int
  | 0 => []
  | k + 1 => if lf t p k = su t p then dmTo t p k ++ [(k : Int)] else dmTo t p k
def dm (t p : List Int) : List Int := dmTo t p 8
theorem dmTo_len (t p : List Int) : ∀ k, (dmTo t p k).length ≤ k
  | 0 => by simp [dmTo]
  | k + 1 => by have := dmTo_len t p k; simp only [dmTo]; split <;> simp <;> omega
theorem dmTo_mem {t p : List Int} : ∀ {k : Nat} {x : Int}, x ∈ dmTo t p k ↔ ∃ s : Nat, x = (s : Int) ∧ s < k ∧ lf t p s = su t p
  | 0, x => by simp [dmTo]
  | k + 1, x => by
    have ih := dmTo_mem (t := t) (p := p) (k := k) (x := x)
    simp only [dmTo]
    constructor
    · intro h
      split at h
      · next hb =>
        rcases List.mem_append.1 h with h | h
        · obtain ⟨s, h1, h2, h3⟩ := ih.1 h
          exact ⟨s, h1, by omega, h3⟩
        · simp at h
          exact ⟨k, h, by omega, hb⟩
      · obtain ⟨s, h1, h2, h3⟩ := ih.1 h
        exact ⟨s, h1, by omega, h3⟩
    · rintro ⟨s, rfl, h2, h3⟩
      rcases Nat.lt_or_ge s k with h1 | h1
      · have := ih.2 ⟨s, rfl, h1, h3⟩
        split
        · exact List.mem_append.2 (.inl this)
        · exact this
      · obtain rfl : s = k := by omega
        rw [if_pos h3]
        simp
theorem dm_mem {t p : List Int} {x : Int} : x ∈ dm t p ↔ ∃ s : Nat, x = (s : Int) ∧ s < 8 ∧ lf t p s = su t p := dmTo_mem
theorem dm_len (t p : List Int) : (dm t p).length ≤ 8 := dmTo_len t p 8
theorem dm_some {t p : List Int} (h : T t 0 = 0) : dm t p ≠ [] := by
  obtain ⟨s, h1, h2⟩ := su_got (p := p) h
  intro e
  have := (dm_mem (t := t) (p := p) (x := (s : Int))).2 ⟨s, rfl, h1, h2.symm⟩
  rw [e] at this
  simp at this

/-- A thing is moved from one set to another one, or exchanged, without loss. -/
def MvOne (t : List Int) (s x i : Nat) : Prop :=
  T t s + T t x ≤ T t (s - 2 ^ i) + T t (x + 2 ^ i) ∨ ∃ j, j < 3 ∧ x / 2 ^ j % 2 = 1 ∧ s / 2 ^ j % 2 = 0 ∧ T t s + T t x ≤ T t (s - 2 ^ i + 2 ^ j) + T t (x + 2 ^ i - 2 ^ j)
/-- All things may be moved. -/
def Mv (t : List Int) : Prop := ∀ s, s < 8 → ∀ x, x < 8 → ∀ i, i < 3 → s / 2 ^ i % 2 = 1 → x / 2 ^ i % 2 = 0 → MvOne t s x i
/-- Three things may be exchanged. -/
def Tri (t : List Int) : Prop := ∀ i, i < 3 → ∀ j, j < 3 → ∀ k, k < 3 → i ≠ j → i ≠ k → j ≠ k →
  T t (2 ^ i + 2 ^ j) + T t (2 ^ k) ≤ max (T t (2 ^ i + 2 ^ k) + T t (2 ^ j)) (T t (2 ^ j + 2 ^ k) + T t (2 ^ i))

/-- What both say of eight numbers. -/
structure Mo (a : Nat → Int) : Prop where
  z : a 0 = 0
  m3 : a 3 ≤ a 1 + a 2
  m5 : a 5 ≤ a 1 + a 4
  m6 : a 6 ≤ a 2 + a 4
  m71 : a 7 ≤ a 1 + a 6
  m72 : a 7 ≤ a 2 + a 5
  m74 : a 7 ≤ a 4 + a 3
  n1 : a 7 + a 1 ≤ a 3 + a 5
  n2 : a 7 + a 2 ≤ a 3 + a 6
  n4 : a 7 + a 4 ≤ a 5 + a 6
  t4 : a 3 + a 4 ≤ a 5 + a 2 ∨ a 3 + a 4 ≤ a 6 + a 1
  t2 : a 5 + a 2 ≤ a 3 + a 4 ∨ a 5 + a 2 ≤ a 6 + a 1
  t1 : a 6 + a 1 ≤ a 3 + a 4 ∨ a 6 + a 1 ≤ a 5 + a 2

theorem MvOne.cases {t : List Int} {s x i : Nat} (h : MvOne t s x i) : T t s + T t x ≤ T t (s - 2 ^ i) + T t (x + 2 ^ i) ∨
    (x % 2 = 1 ∧ s % 2 = 0 ∧ T t s + T t x ≤ T t (s - 2 ^ i + 1) + T t (x + 2 ^ i - 1)) ∨
    (x / 2 % 2 = 1 ∧ s / 2 % 2 = 0 ∧ T t s + T t x ≤ T t (s - 2 ^ i + 2) + T t (x + 2 ^ i - 2)) ∨
    (x / 4 % 2 = 1 ∧ s / 4 % 2 = 0 ∧ T t s + T t x ≤ T t (s - 2 ^ i + 4) + T t (x + 2 ^ i - 4)) := by
  rcases h with h | ⟨j, hj, h1, h2, h3⟩
  · exact .inl h
  · rcases nat3 hj with rfl | rfl | rfl
    · exact .inr (.inl ⟨by simpa using h1, by simpa using h2, h3⟩)
    · exact .inr (.inr (.inl ⟨by simpa using h1, by simpa using h2, h3⟩))
    · exact .inr (.inr (.inr ⟨by simpa using h1, by simpa using h2, h3⟩))
theorem Mv.mo {t : List Int} (hv : VT t) (h : Mv t) : Mo (T t) := by
  have z := hv.2.1
  have g := fun s hs x hx i hi h1 h2 => (h s hs x hx i hi h1 h2).cases
  have a1 := g 3 (by omega) 0 (by omega) 0 (by omega) (by decide) (by decide)
  have a2 := g 5 (by omega) 0 (by omega) 0 (by omega) (by decide) (by decide)
  have a3 := g 6 (by omega) 0 (by omega) 1 (by omega) (by decide) (by decide)
  have a4 := g 7 (by omega) 0 (by omega) 0 (by omega) (by decide) (by decide)
  have a5 := g 7 (by omega) 0 (by omega) 1 (by omega) (by decide) (by decide)
  have a6 := g 7 (by omega) 0 (by omega) 2 (by omega) (by decide) (by decide)
  have a7 := g 7 (by omega) 1 (by omega) 1 (by omega) (by decide) (by decide)
  have a8 := g 7 (by omega) 2 (by omega) 0 (by omega) (by decide) (by decide)
  have a9 := g 7 (by omega) 4 (by omega) 0 (by omega) (by decide) (by decide)
  have b1 := g 3 (by omega) 4 (by omega) 0 (by omega) (by decide) (by decide)
  have b2 := g 5 (by omega) 2 (by omega) 0 (by omega) (by decide) (by decide)
  have b3 := g 6 (by omega) 1 (by omega) 1 (by omega) (by decide) (by decide)
  simp at a1 a2 a3 a4 a5 a6 a7 a8 a9 b1 b2 b3
  exact ⟨z, by omega, by omega, by omega, by omega, by omega, by omega, by omega, by omega, by omega, by omega, by omega, by omega⟩

theorem MvOne.zero {t : List Int} {s x i : Nat} (h : T t s + T t x ≤ T t (s - 2 ^ i) + T t (x + 2 ^ i)) : MvOne t s x i := .inl h
theorem Mo.mv {t : List Int} (h : Mo (T t)) (hv : VT t) : Mv t := by
  have a := hv.all
  obtain ⟨z, m3, m5, m6, m71, m72, m74, n1, n2, n4, t4, t2, t1⟩ := h
  have key : ∀ s x i, s < 8 → x < 8 → i < 3 → s / 2 ^ i % 2 = 1 → x / 2 ^ i % 2 = 0 →
      (T t s + T t x ≤ T t (s - 2 ^ i) + T t (x + 2 ^ i) ∨
      (x % 2 = 1 ∧ s % 2 = 0 ∧ T t s + T t x ≤ T t (s - 2 ^ i + 1) + T t (x + 2 ^ i - 1)) ∨
      (x / 2 % 2 = 1 ∧ s / 2 % 2 = 0 ∧ T t s + T t x ≤ T t (s - 2 ^ i + 2) + T t (x + 2 ^ i - 2)) ∨
      (x / 4 % 2 = 1 ∧ s / 4 % 2 = 0 ∧ T t s + T t x ≤ T t (s - 2 ^ i + 4) + T t (x + 2 ^ i - 4))) := by
    intro s x i hs hx hi h1 h2
    rcases nat8 hs with rfl | rfl | rfl | rfl | rfl | rfl | rfl | rfl <;> rcases nat8 hx with rfl | rfl | rfl | rfl | rfl | rfl | rfl | rfl <;> rcases nat3 hi with rfl | rfl | rfl <;>
      first
      | exact absurd h1 (by decide)
      | exact absurd h2 (by decide)
      | (simp; omega)
  intro s hs x hx i hi h1 h2
  rcases key s x i hs hx hi h1 h2 with h | ⟨h1, h2, h3⟩ | ⟨h1, h2, h3⟩ | ⟨h1, h2, h3⟩
  · exact .inl h
  · exact .inr ⟨0, by omega, by simpa using h1, by simpa using h2, by simpa using h3⟩
  · exact .inr ⟨1, by omega, by simpa using h1, by simpa using h2, by simpa using h3⟩
  · exact .inr ⟨2, by omega, by simpa using h1, by simpa using h2, by simpa using h3⟩
theorem Mo.modTri {t : List Int} (h : Mo (T t)) : Mod t ∧ Tri t := by
  obtain ⟨z, m3, m5, m6, m71, m72, m74, n1, n2, n4, t4, t2, t1⟩ := h
  constructor
  · intro s hs x hx
    rcases nat8 hs with rfl | rfl | rfl | rfl | rfl | rfl | rfl | rfl <;> rcases nat8 hx with rfl | rfl | rfl | rfl | rfl | rfl | rfl | rfl <;> simp <;> omega
  · intro i hi j hj k hk h1 h2 h3
    rcases nat3 hi with rfl | rfl | rfl <;> rcases nat3 hj with rfl | rfl | rfl <;> rcases nat3 hk with rfl | rfl | rfl <;> simp at h1 h2 h3 ⊢ <;> omega
theorem modTri_mo {t : List Int} (z : T t 0 = 0) (h : Mod t) (h3 : Tri t) : Mo (T t) := by
  have g := fun s hs x hx => h s hs x hx
  have a1 := g 1 (by omega) 2 (by omega)
  have a2 := g 1 (by omega) 4 (by omega)
  have a3 := g 2 (by omega) 4 (by omega)
  have a4 := g 1 (by omega) 6 (by omega)
  have a5 := g 2 (by omega) 5 (by omega)
  have a6 := g 4 (by omega) 3 (by omega)
  have a7 := g 3 (by omega) 5 (by omega)
  have a8 := g 3 (by omega) 6 (by omega)
  have a9 := g 5 (by omega) 6 (by omega)
  have b1 := h3 0 (by omega) 1 (by omega) 2 (by omega) (by omega) (by omega) (by omega)
  have b2 := h3 0 (by omega) 2 (by omega) 1 (by omega) (by omega) (by omega) (by omega)
  have b3 := h3 1 (by omega) 2 (by omega) 0 (by omega) (by omega) (by omega) (by omega)
  simp at a1 a2 a3 a4 a5 a6 a7 a8 a9 b1 b2 b3
  exact ⟨z, by omega, by omega, by omega, by omega, by omega, by omega, by omega, by omega, by omega, by omega, by omega, by omega⟩
/-- Moves are threes. -/
theorem mv_iff {t : List Int} (hv : VT t) : Mv t ↔ Mod t ∧ Tri t := ⟨fun h => (h.mo hv).modTri, fun h => (modTri_mo hv.2.1 h.1 h.2).mv hv⟩

noncomputable def mvB (t : List Int) : Bool := @decide (VT t ∧ Mv t) (Classical.propDecidable _)
theorem mvB_true {t : List Int} (h : VT t) (hm : Mv t) : mvB t = true := by unfold mvB; simp [h, hm]
theorem mvB_false {t : List Int} (h : ¬ (VT t ∧ Mv t)) : mvB t = false := by unfold mvB; simp only [decide_eq_false_iff_not]; exact h
theorem mvB_iff {t : List Int} : mvB t = true ↔ VT t ∧ Mv t := by unfold mvB; simp
noncomputable def thB (t : List Int) : Bool := @decide (VT t ∧ Mod t ∧ Tri t) (Classical.propDecidable _)
theorem thB_true {t : List Int} (h : VT t) (hm : Mod t) (h3 : Tri t) : thB t = true := by unfold thB; simp [h, hm, h3]
theorem thB_false {t : List Int} (h : ¬ (VT t ∧ Mod t ∧ Tri t)) : thB t = false := by unfold thB; simp only [decide_eq_false_iff_not]; exact h
theorem thB_iff {t : List Int} : thB t = true ↔ VT t ∧ Mod t ∧ Tri t := by unfold thB; simp
theorem thB_mvB (t : List Int) : thB t = mvB t := by
  by_cases hv : VT t
  · by_cases hm : Mv t
    · obtain ⟨h1, h2⟩ := (mv_iff hv).1 hm
      rw [mvB_true hv hm, thB_true hv h1 h2]
    · rw [mvB_false (fun h => hm h.2), thB_false (fun h => hm ((mv_iff hv).2 h.2))]
  · rw [mvB_false (fun h => hv h.1), thB_false (fun h => hv h.1)]

/-- Sums may be moved, and what is one thing. -/
theorem sum_mv {t : List Int} (hv : VT t) (h : ∀ s, s < 8 → T t s = sumAl t s 3) : Mo (T t) := by
  have g := fun s hs => h s hs
  have b3 := g 3 (by omega); have b5 := g 5 (by omega); have b6 := g 6 (by omega); have b7 := g 7 (by omega)
  simp [sumAl] at b3 b5 b6 b7
  exact ⟨hv.2.1, by omega, by omega, by omega, by omega, by omega, by omega, by omega, by omega, by omega, by omega, by omega, by omega⟩
theorem one_mv {t : List Int} (hv : VT t) (h : ∀ s, s < 8 → T t s = mostAl t s 3) : Mo (T t) := by
  have g := fun s hs => h s hs
  have a := hv.all
  have b3 := g 3 (by omega); have b5 := g 5 (by omega); have b6 := g 6 (by omega); have b7 := g 7 (by omega)
  simp [mostAl] at b3 b5 b6 b7
  exact ⟨hv.2.1, by omega, by omega, by omega, by omega, by omega, by omega, by omega, by omega, by omega, by omega, by omega, by omega⟩

end Go.Proofs.Ytpildecpabeanaa

/-
  Chapter 6, plain: tables of two bidders as one: their things may be moved if those of both may.
-/
namespace Go.Proofs.Ytpildecpabeanaa

theorem jn_ge {a b : Nat → Int} {x p : Nat} (h : p ∈ subs x) : a p + b (x - p) ≤ jn a b x := le_mx (f := fun p => a p + b (x - p)) h
theorem jn_at {a b : Nat → Int} (za : a 0 = 0) {x : Nat} (hb : 0 ≤ b x) : ∃ p, p ∈ subs x ∧ jn a b x = a p + b (x - p) := by
  rcases mx_got (fun p => a p + b (x - p)) (subs x) with h | h
  · have h1 := jn_ge (a := a) (b := b) (sub_zero x)
    refine ⟨0, sub_zero x, ?_⟩
    rw [za, Nat.sub_zero] at h1 ⊢
    unfold jn at h1 ⊢
    omega
  · exact h
theorem subs_vals : subs 0 = [0] ∧ subs 1 = [0, 1] ∧ subs 2 = [0, 2] ∧ subs 3 = [0, 1, 2, 3] ∧ subs 4 = [0, 4] ∧ subs 5 = [0, 1, 4, 5] ∧ subs 6 = [0, 2, 4, 6] ∧ subs 7 = [0, 1, 2, 3, 4, 5, 6, 7] := by decide
/-- What a joined table is, set by set. -/
structure Js (a b J : Nat → Int) : Prop where
  j0 : J 0 = 0
  j1 : (a 1 ≤ J 1 ∧ b 1 ≤ J 1) ∧ (J 1 = a 1 ∨ J 1 = b 1)
  j2 : (a 2 ≤ J 2 ∧ b 2 ≤ J 2) ∧ (J 2 = a 2 ∨ J 2 = b 2)
  j4 : (a 4 ≤ J 4 ∧ b 4 ≤ J 4) ∧ (J 4 = a 4 ∨ J 4 = b 4)
  j3 : (b 3 ≤ J 3 ∧ a 1 + b 2 ≤ J 3 ∧ a 2 + b 1 ≤ J 3 ∧ a 3 ≤ J 3) ∧ (J 3 = b 3 ∨ J 3 = a 1 + b 2 ∨ J 3 = a 2 + b 1 ∨ J 3 = a 3)
  j5 : (b 5 ≤ J 5 ∧ a 1 + b 4 ≤ J 5 ∧ a 4 + b 1 ≤ J 5 ∧ a 5 ≤ J 5) ∧ (J 5 = b 5 ∨ J 5 = a 1 + b 4 ∨ J 5 = a 4 + b 1 ∨ J 5 = a 5)
  j6 : (b 6 ≤ J 6 ∧ a 2 + b 4 ≤ J 6 ∧ a 4 + b 2 ≤ J 6 ∧ a 6 ≤ J 6) ∧ (J 6 = b 6 ∨ J 6 = a 2 + b 4 ∨ J 6 = a 4 + b 2 ∨ J 6 = a 6)
  j7 : (b 7 ≤ J 7 ∧ a 1 + b 6 ≤ J 7 ∧ a 2 + b 5 ≤ J 7 ∧ a 3 + b 4 ≤ J 7 ∧ a 4 + b 3 ≤ J 7 ∧ a 5 + b 2 ≤ J 7 ∧ a 6 + b 1 ≤ J 7 ∧ a 7 ≤ J 7) ∧
    (J 7 = b 7 ∨ J 7 = a 1 + b 6 ∨ J 7 = a 2 + b 5 ∨ J 7 = a 3 + b 4 ∨ J 7 = a 4 + b 3 ∨ J 7 = a 5 + b 2 ∨ J 7 = a 6 + b 1 ∨ J 7 = a 7)
theorem js_jn {a b : Nat → Int} (za : a 0 = 0) (zb : b 0 = 0) (hb : ∀ s, s < 8 → 0 ≤ b s) : Js a b (jn a b) := by
  have s0 := subs_vals
  obtain ⟨e0, e1, e2, e3, e4, e5, e6, e7⟩ := s0
  have g : ∀ x p, p ∈ subs x → a p + b (x - p) ≤ jn a b x := fun x p h => jn_ge h
  have t := fun x (hx : x < 8) => jn_at (a := a) (b := b) za (hb x hx)
  constructor
  · obtain ⟨p, hp, h⟩ := t 0 (by omega); rw [e0] at hp; simp at hp; subst hp; rw [h, za, zb]; rfl
  · have g0 := g 1 0 (by decide); have g1 := g 1 1 (by decide); simp [za, zb] at g0 g1
    obtain ⟨p, hp, h⟩ := t 1 (by omega); rw [e1] at hp; simp at hp
    refine ⟨⟨g1, g0⟩, ?_⟩
    rcases hp with rfl | rfl <;> simp [za, zb] at h <;> omega
  · have g0 := g 2 0 (by decide); have g1 := g 2 2 (by decide); simp [za, zb] at g0 g1
    obtain ⟨p, hp, h⟩ := t 2 (by omega); rw [e2] at hp; simp at hp
    refine ⟨⟨g1, g0⟩, ?_⟩
    rcases hp with rfl | rfl <;> simp [za, zb] at h <;> omega
  · have g0 := g 4 0 (by decide); have g1 := g 4 4 (by decide); simp [za, zb] at g0 g1
    obtain ⟨p, hp, h⟩ := t 4 (by omega); rw [e4] at hp; simp at hp
    refine ⟨⟨g1, g0⟩, ?_⟩
    rcases hp with rfl | rfl <;> simp [za, zb] at h <;> omega
  · have g0 := g 3 0 (by decide); have g1 := g 3 1 (by decide); have g2 := g 3 2 (by decide); have g3 := g 3 3 (by decide); simp [za, zb] at g0 g1 g2 g3
    obtain ⟨p, hp, h⟩ := t 3 (by omega); rw [e3] at hp; simp at hp
    refine ⟨⟨g0, g1, g2, g3⟩, ?_⟩
    rcases hp with rfl | rfl | rfl | rfl <;> simp [za, zb] at h <;> omega
  · have g0 := g 5 0 (by decide); have g1 := g 5 1 (by decide); have g2 := g 5 4 (by decide); have g3 := g 5 5 (by decide); simp [za, zb] at g0 g1 g2 g3
    obtain ⟨p, hp, h⟩ := t 5 (by omega); rw [e5] at hp; simp at hp
    refine ⟨⟨g0, g1, g2, g3⟩, ?_⟩
    rcases hp with rfl | rfl | rfl | rfl <;> simp [za, zb] at h <;> omega
  · have g0 := g 6 0 (by decide); have g1 := g 6 2 (by decide); have g2 := g 6 4 (by decide); have g3 := g 6 6 (by decide); simp [za, zb] at g0 g1 g2 g3
    obtain ⟨p, hp, h⟩ := t 6 (by omega); rw [e6] at hp; simp at hp
    refine ⟨⟨g0, g1, g2, g3⟩, ?_⟩
    rcases hp with rfl | rfl | rfl | rfl <;> simp [za, zb] at h <;> omega
  · have g0 := g 7 0 (by decide); have g1 := g 7 1 (by decide); have g2 := g 7 2 (by decide); have g3 := g 7 3 (by decide); have g4 := g 7 4 (by decide); have g5 := g 7 5 (by decide); have g6 := g 7 6 (by decide); have g7 := g 7 7 (by decide); simp [za, zb] at g0 g1 g2 g3 g4 g5 g6 g7
    obtain ⟨p, hp, h⟩ := t 7 (by omega); rw [e7] at hp; simp at hp
    refine ⟨⟨g0, g1, g2, g3, g4, g5, g6, g7⟩, ?_⟩
    rcases hp with rfl | rfl | rfl | rfl | rfl | rfl | rfl | rfl <;> simp [za, zb] at h <;> omega

section
variable {a b J : Nat → Int}
theorem Js.m3 (A : Mo a) (B : Mo b) (h : Js a b J) : J 3 ≤ J 1 + J 2 := by
  have h1 := h.j1.1; have h2 := h.j2.1; have x := A.m3; have y := B.m3
  rcases h.j3.2 with e | e | e | e <;> omega
theorem Js.m5 (A : Mo a) (B : Mo b) (h : Js a b J) : J 5 ≤ J 1 + J 4 := by
  have h1 := h.j1.1; have h2 := h.j4.1; have x := A.m5; have y := B.m5
  rcases h.j5.2 with e | e | e | e <;> omega
theorem Js.m6 (A : Mo a) (B : Mo b) (h : Js a b J) : J 6 ≤ J 2 + J 4 := by
  have h1 := h.j2.1; have h2 := h.j4.1; have x := A.m6; have y := B.m6
  rcases h.j6.2 with e | e | e | e <;> omega
theorem Js.m71 (A : Mo a) (B : Mo b) (h : Js a b J) : J 7 ≤ J 1 + J 6 := by
  have h1 := h.j1.1; have h2 := h.j6.1; have x := A.m71; have y := B.m71; have x1 := A.m3; have x2 := A.m5; have y1 := B.m3; have y2 := B.m5
  rcases h.j7.2 with e | e | e | e | e | e | e | e <;> omega
theorem Js.m72 (A : Mo a) (B : Mo b) (h : Js a b J) : J 7 ≤ J 2 + J 5 := by
  have h1 := h.j2.1; have h2 := h.j5.1; have x := A.m72; have y := B.m72; have x1 := A.m3; have x2 := A.m6; have y1 := B.m3; have y2 := B.m6
  rcases h.j7.2 with e | e | e | e | e | e | e | e <;> omega
theorem Js.m74 (A : Mo a) (B : Mo b) (h : Js a b J) : J 7 ≤ J 4 + J 3 := by
  have h1 := h.j4.1; have h2 := h.j3.1; have x := A.m74; have y := B.m74; have x1 := A.m5; have x2 := A.m6; have y1 := B.m5; have y2 := B.m6
  rcases h.j7.2 with e | e | e | e | e | e | e | e <;> omega
theorem Js.n1 (A : Mo a) (B : Mo b) (h : Js a b J) : J 7 + J 1 ≤ J 3 + J 5 := by
  have h3 := h.j3.1; have h5 := h.j5.1
  obtain ⟨_, a3, a5, a6, a71, a72, a74, an1, _, _, _, _, at1⟩ := A
  obtain ⟨_, b3, b5, b6, b71, b72, b74, bn1, _, _, _, _, bt1⟩ := B
  rcases h.j1.2 with f | f <;> rcases h.j7.2 with e | e | e | e | e | e | e | e <;> omega
theorem Js.n2 (A : Mo a) (B : Mo b) (h : Js a b J) : J 7 + J 2 ≤ J 3 + J 6 := by
  have h3 := h.j3.1; have h6 := h.j6.1
  obtain ⟨_, a3, a5, a6, a71, a72, a74, _, an1, _, _, at1, _⟩ := A
  obtain ⟨_, b3, b5, b6, b71, b72, b74, _, bn1, _, _, bt1, _⟩ := B
  rcases h.j2.2 with f | f <;> rcases h.j7.2 with e | e | e | e | e | e | e | e <;> omega
theorem Js.n4 (A : Mo a) (B : Mo b) (h : Js a b J) : J 7 + J 4 ≤ J 5 + J 6 := by
  have h3 := h.j5.1; have h6 := h.j6.1
  obtain ⟨_, a3, a5, a6, a71, a72, a74, _, _, an1, at1, _, _⟩ := A
  obtain ⟨_, b3, b5, b6, b71, b72, b74, _, _, bn1, bt1, _, _⟩ := B
  rcases h.j4.2 with f | f <;> rcases h.j7.2 with e | e | e | e | e | e | e | e <;> omega
theorem Js.t4 (A : Mo a) (B : Mo b) (h : Js a b J) : J 3 + J 4 ≤ J 5 + J 2 ∨ J 3 + J 4 ≤ J 6 + J 1 := by
  have h1 := h.j1.1; have h2 := h.j2.1; have h5 := h.j5.1; have h6 := h.j6.1
  have x := A.t4; have y := B.t4; have x3 := A.m3; have y3 := B.m3
  rcases h.j4.2 with f | f <;> rcases h.j3.2 with e | e | e | e <;> omega
theorem Js.t2 (A : Mo a) (B : Mo b) (h : Js a b J) : J 5 + J 2 ≤ J 3 + J 4 ∨ J 5 + J 2 ≤ J 6 + J 1 := by
  have h1 := h.j1.1; have h2 := h.j4.1; have h5 := h.j3.1; have h6 := h.j6.1
  have x := A.t2; have y := B.t2; have x3 := A.m5; have y3 := B.m5
  rcases h.j2.2 with f | f <;> rcases h.j5.2 with e | e | e | e <;> omega
theorem Js.t1 (A : Mo a) (B : Mo b) (h : Js a b J) : J 6 + J 1 ≤ J 3 + J 4 ∨ J 6 + J 1 ≤ J 5 + J 2 := by
  have h1 := h.j2.1; have h2 := h.j4.1; have h5 := h.j3.1; have h6 := h.j5.1
  have x := A.t1; have y := B.t1; have x3 := A.m6; have y3 := B.m6
  rcases h.j1.2 with f | f <;> rcases h.j6.2 with e | e | e | e <;> omega
theorem Js.mo (A : Mo a) (B : Mo b) (h : Js a b J) : Mo J :=
  ⟨h.j0, h.m3 A B, h.m5 A B, h.m6 A B, h.m71 A B, h.m72 A B, h.m74 A B, h.n1 A B, h.n2 A B, h.n4 A B, h.t4 A B, h.t2 A B, h.t1 A B⟩
end
theorem jn_mo {a b : Nat → Int} (A : Mo a) (B : Mo b) (hb : ∀ s, s < 8 → 0 ≤ b s) : Mo (jn a b) := (js_jn A.z B.z hb).mo A B
theorem mo_congr {a b : Nat → Int} (h : ∀ s, s < 8 → a s = b s) (A : Mo a) : Mo b := by
  have e0 := h 0 (by omega); have e1 := h 1 (by omega); have e2 := h 2 (by omega); have e3 := h 3 (by omega); have e4 := h 4 (by omega); have e5 := h 5 (by omega); have e6 := h 6 (by omega); have e7 := h 7 (by omega)
  obtain ⟨z, m3, m5, m6, m71, m72, m74, n1, n2, n4, t4, t2, t1⟩ := A
  rw [e0] at z; rw [e1, e2, e3] at m3; rw [e1, e4, e5] at m5; rw [e2, e4, e6] at m6
  rw [e1, e6, e7] at m71; rw [e2, e5, e7] at m72; rw [e3, e4, e7] at m74
  rw [e1, e3, e5, e7] at n1; rw [e2, e3, e6, e7] at n2; rw [e4, e5, e6, e7] at n4
  rw [e1, e2, e3, e4, e5, e6] at t4 t2 t1
  exact ⟨z, m3, m5, m6, m71, m72, m74, n1, n2, n4, t4, t2, t1⟩
/-- What bidders have together may be moved if all may. -/
theorem sv_mo {ts : List (List Int)} (h : ∀ t ∈ ts, VT t ∧ Mo (T t)) : Mo (sv ts) := by
  induction ts with
  | nil => constructor <;> simp [sv]
  | cons t ts ih =>
    have hr := ih (fun u hu => h u (by simp [hu]))
    exact mo_congr (fun s hs => rfl) (jn_mo (a := T t) (b := sv ts) (h t (by simp)).2 hr (fun s _ => sv_nonneg ts s))
theorem jn_comm {a b : Nat → Int} {x : Nat} (hx : x < 8) : jn a b x = jn b a x := by
  apply Int.le_antisymm
  · refine mx_le (mx_nonneg _ _) (fun p hp => ?_)
    obtain ⟨h1, h2, _⟩ := sub_rest hx hp
    have := jn_ge (a := b) (b := a) h1
    rw [h2] at this
    omega
  · refine mx_le (mx_nonneg _ _) (fun p hp => ?_)
    obtain ⟨h1, h2, _⟩ := sub_rest hx hp
    have := jn_ge (a := a) (b := b) h1
    rw [h2] at this
    omega

end Go.Proofs.Ytpildecpabeanaa
