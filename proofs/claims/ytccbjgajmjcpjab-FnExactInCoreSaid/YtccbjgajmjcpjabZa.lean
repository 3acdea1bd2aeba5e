/-
  Chapter 5, plain: what bidders take from the others, what they add, and how these go together.
-/
import Derived.Test.YtccbjgajmjcpjabWd
import Derived.Test.YtccbjgajmjcpjabWx
namespace Go.Proofs.Ytccbjgajmjcpjab

/-- What bidder i takes from the others. -/
noncomputable def pvF (ts : List (List Int)) (i : Nat) : Int := sv (ts.eraseIdx i) 7 - (worthF ts (wayF ts) - T (ts.getD i []) (setOf (wayF ts) i))
/-- What bidder i adds. -/
def adF (ts : List (List Int)) (i : Nat) : Int := sv ts 7 - sv (ts.eraseIdx i) 7

theorem in7 {x : Nat} (h : x < 8) : x ∈ subs 7 := by
  have h7 : ∀ x, x < 8 → x ∈ subs 7 := by decide
  exact h7 _ h
theorem getD_row {ts : List (List Int)} {i : Nat} {t : List Int} (h : ts[i]? = some t) : ts.getD i [] = t := by rw [List.getD_eq_getElem?_getD, h]; rfl
theorem getD_mem {ts : List (List Int)} {i : Nat} (h : i < ts.length) : ts.getD i [] ∈ ts := by
  rw [List.getD_eq_getElem?_getD, List.getElem?_eq_getElem h]; exact List.getElem_mem h
theorem mem_erase {ts : List (List Int)} {i : Nat} {t : List Int} (h : t ∈ ts.eraseIdx i) : t ∈ ts := (List.eraseIdx_sublist ts i).mem h
theorem erase_len {ts : List (List Int)} {i : Nat} (h : i < ts.length) : (ts.eraseIdx i).length = ts.length - 1 := by rw [List.length_eraseIdx]; simp [h]

/-- What the others have by a way, they can have without the bidder. -/
theorem got_others (ts : List (List Int)) (x y z : Int) : ∀ (i : Nat) (k : Int), i < ts.length → Got (ts.eraseIdx i) (ge k x y z) (wk ts k x y z - T (ts.getD i []) (skn x y z (k + i))) := by
  induction ts with
  | nil => intro i k h; simp at h
  | cons t ts ih =>
    intro i k h
    obtain ⟨h1, h2⟩ := ge_step k x y z
    cases i with
    | zero =>
      have h3 := wk_got ts x y z (k + 1)
      have h4 : ge (k + 1) x y z ∈ subs (ge k x y z) := by rw [← h2]; exact (sub_rest (ge_lt _ _ _ _) h1).1
      have h5 := got_more (ge_lt _ _ _ _) h4 h3
      simp only [List.eraseIdx_zero, List.tail_cons, wk, List.getD_cons_zero]
      rw [show T t (skn x y z k) + wk ts (k + 1) x y z - T t (skn x y z (k + (0 : Nat))) = wk ts (k + 1) x y z by
        rw [show k + ((0 : Nat) : Int) = k by omega]; omega]
      exact h5
    | succ i =>
      have h3 := ih i (k + 1) (by simpa using h)
      simp only [List.eraseIdx_cons_succ, wk, List.getD_cons_succ]
      refine ⟨_, h1, _, by rw [h2]; exact h3, ?_⟩
      rw [show k + ((i + 1 : Nat) : Int) = k + 1 + (i : Int) by omega]
      omega

/-- Without a bidder there is no more. -/
theorem got_back {ts : List (List Int)} (hz : ∀ t ∈ ts, T t 0 = 0) : ∀ (i X : Nat) (v : Int), i < ts.length → Got (ts.eraseIdx i) X v → Got ts X v := by
  induction ts with
  | nil => intro i X v h; simp at h
  | cons t ts ih =>
    intro i X v h hg
    cases i with
    | zero =>
      refine ⟨0, sub_zero X, v, by simpa using hg, ?_⟩
      rw [hz t (by simp)]; omega
    | succ i =>
      simp only [List.eraseIdx_cons_succ] at hg
      obtain ⟨s, hs, u, hu, rfl⟩ := hg
      exact ⟨s, hs, u, ih (fun t ht => hz t (List.mem_cons_of_mem _ ht)) i _ _ (by simpa using h) hu, rfl⟩

/-- What is had with a bidder is had without, but for the bidder's own. -/
theorem got_out {ts : List (List Int)} : ∀ (i X : Nat) (v : Int), X < 8 → i < ts.length → Got ts X v → ∃ s, s ∈ subs X ∧ ∃ u, Got (ts.eraseIdx i) X u ∧ v = T (ts.getD i []) s + u := by
  induction ts with
  | nil => intro i X v _ h; simp at h
  | cons t ts ih =>
    rintro i X v hX h ⟨s, hs, u, hu, rfl⟩
    cases i with
    | zero =>
      refine ⟨s, hs, u, ?_, by simp⟩
      simp only [List.eraseIdx_zero, List.tail_cons]
      exact got_more hX (sub_rest hX hs).1 hu
    | succ i =>
      obtain ⟨s', hs', u', hu', rfl⟩ := ih i (X - s) u (sub_lt hX hs) (by simpa using h) hu
      obtain ⟨r1, r2, r3⟩ := sub_sub hX hs hs'
      refine ⟨s', r1, T t s + u', ?_, by simp; omega⟩
      simp only [List.eraseIdx_cons_succ]
      refine ⟨s, hs, u', hu', rfl⟩

theorem worthF_le {ts : List (List Int)} (os : List Int) : worthF ts os ≤ sv ts 7 :=
  got_le (got_more (by omega) (in7 (ge_lt _ _ _ _)) (wk_got ts _ _ _ 0))
theorem othersv_le {ts : List (List Int)} (os : List Int) {i : Nat} (h : i < ts.length) : worthF ts os - T (ts.getD i []) (setOf os i) ≤ sv (ts.eraseIdx i) 7 := by
  have h1 := got_others ts (os.getD 0 0) (os.getD 1 0) (os.getD 2 0) i 0 h
  have h2 := got_le (got_more (by omega) (in7 (ge_lt _ _ _ _)) h1)
  rw [Int.zero_add] at h2
  exact h2
theorem without_le {ts : List (List Int)} (hz : ∀ t ∈ ts, T t 0 = 0) {i : Nat} (h : i < ts.length) : sv (ts.eraseIdx i) 7 ≤ sv ts 7 :=
  got_le (got_back hz i 7 _ h (got_sv (fun t ht => hz t (mem_erase ht)) 7))
theorem VT.top {t : List Int} (h : VT t) {s : Nat} (hs : s < 8) : T t s ≤ T t 7 := by
  obtain ⟨h0, h1, h2, h3, h4, h5, h6, h7, h8⟩ := h.all
  rcases nat8 hs with rfl | rfl | rfl | rfl | rfl | rfl | rfl | rfl <;> omega
theorem without_ge {ts : List (List Int)} (hv : ∀ t ∈ ts, VT t) {i : Nat} (h : i < ts.length) : sv ts 7 ≤ sv (ts.eraseIdx i) 7 + T (ts.getD i []) 7 := by
  obtain ⟨s, hs, u, hu, he⟩ := got_out i 7 _ (by omega) h (got_sv (fun t ht => (hv t ht).2.1) 7)
  have h1 := got_le hu
  have h2 := (hv _ (getD_mem h)).top (subs_lt hs)
  omega

theorem VTs.zeros {ts : List (List Int)} (h : ∀ t ∈ ts, VT t) : ∀ t ∈ ts, T t 0 = 0 := fun t ht => (h t ht).2.1

/-- What the truth has is what is added. -/
theorem truth_has {ts : List (List Int)} (hv : ∀ t ∈ ts, VT t) (hn : ts.length ≤ 4) (i : Nat) : T (ts.getD i []) (setOf (wayF ts) i) - pvF ts i = adF ts i := by
  unfold pvF adF
  rw [wayF_worth (VTs.zeros hv) hn]; omega
theorem pv_nn {ts : List (List Int)} {i : Nat} (h : i < ts.length) : 0 ≤ pvF ts i := by
  have := othersv_le (wayF ts) h
  unfold pvF; omega
theorem pv_le {ts : List (List Int)} (hv : ∀ t ∈ ts, VT t) (hn : ts.length ≤ 4) {i : Nat} (h : i < ts.length) : pvF ts i ≤ T (ts.getD i []) (setOf (wayF ts) i) := by
  have h1 := without_le (VTs.zeros hv) h
  have h2 := truth_has hv hn i
  unfold adF at h2
  omega
theorem ad_nn {ts : List (List Int)} (hv : ∀ t ∈ ts, VT t) {i : Nat} (h : i < ts.length) : 0 ≤ adF ts i := by
  have h1 := without_le (VTs.zeros hv) h
  unfold adF; omega
theorem ad_le {ts : List (List Int)} (hv : ∀ t ∈ ts, VT t) {i : Nat} (h : i < ts.length) : adF ts i ≤ T (ts.getD i []) 7 := by
  have h1 := without_ge hv h
  unfold adF; omega

/-- Another table told: what all have by a way differs by that bidder's own. -/
theorem wk_set (x y z : Int) (t : List Int) : ∀ (ts : List (List Int)) (i : Nat) (k : Int), i < ts.length → wk (ts.set i t) k x y z - T t (skn x y z (k + i)) = wk ts k x y z - T (ts.getD i []) (skn x y z (k + i)) := by
  intro ts
  induction ts with
  | nil => intro i k h; simp at h
  | cons u ts ih =>
    intro i k h
    cases i with
    | zero =>
      simp only [List.set_cons_zero, wk, List.getD_cons_zero]
      rw [show k + ((0 : Nat) : Int) = k by omega]; omega
    | succ i =>
      have := ih i (k + 1) (by simpa using h)
      simp only [List.set_cons_succ, wk, List.getD_cons_succ]
      rw [show k + ((i + 1 : Nat) : Int) = k + 1 + (i : Int) by omega]
      omega
theorem worthF_set {ts : List (List Int)} (os : List Int) {i : Nat} (t : List Int) (h : i < ts.length) : worthF (ts.set i t) os - T t (setOf os i) = worthF ts os - T (ts.getD i []) (setOf os i) := by
  have := wk_set (os.getD 0 0) (os.getD 1 0) (os.getD 2 0) t ts i 0 h
  rw [Int.zero_add] at this
  exact this
theorem erase_set {ts : List (List Int)} (i : Nat) (t : List Int) : (ts.set i t).eraseIdx i = ts.eraseIdx i := by
  induction ts generalizing i with
  | nil => simp
  | cons u ts ih => cases i with
    | zero => simp
    | succ i => simp [ih]
/-- What bidder i has when t is told. -/
noncomputable def gtF (ts : List (List Int)) (i : Nat) (t : List Int) : Int := T (ts.getD i []) (setOf (wayF (ts.set i t)) i) - pvF (ts.set i t) i
theorem set_get {ts : List (List Int)} {i : Nat} (h : i < ts.length) : ts.set i (ts.getD i []) = ts := by
  rw [List.getD_eq_getElem?_getD, List.getElem?_eq_getElem h]; simp
theorem getD_set {ts : List (List Int)} {i : Nat} (t : List Int) (h : i < ts.length) : (ts.set i t).getD i [] = t := by
  rw [List.getD_eq_getElem?_getD, List.getElem?_set_self h]; rfl
theorem gt_truth {ts : List (List Int)} (hv : ∀ t ∈ ts, VT t) (hn : ts.length ≤ 4) {i : Nat} (h : i < ts.length) : gtF ts i (ts.getD i []) = adF ts i := by
  unfold gtF
  rw [set_get h, truth_has hv hn]
theorem gt_le {ts : List (List Int)} {i : Nat} (t : List Int) (h : i < ts.length) : gtF ts i t ≤ adF ts i := by
  unfold gtF pvF adF
  rw [getD_set t h, erase_set]
  have h1 := worthF_set (wayF (ts.set i t)) t h
  have h2 := worthF_le (ts := ts) (wayF (ts.set i t))
  omega

/-- The sum of what all have is the worth of the way. -/
def hasTo (ts : List (List Int)) (os : List Int) : Nat → Int
  | 0 => 0
  | k + 1 => hasTo ts os k + T (ts.getD k []) (setOf os k)
theorem hasTo_is {ts : List (List Int)} (os : List Int) : ∀ k, k ≤ ts.length → hasTo ts os k = worthF (ts.take k) os
  | 0, _ => by simp [hasTo, worthF, wk]
  | k + 1, h => by
    have h1 : ts[k]? = some (ts.getD k []) := by rw [List.getD_eq_getElem?_getD, List.getElem?_eq_getElem (by omega)]; rfl
    rw [worthF_step os h1, ← hasTo_is os k (by omega)]; rfl
/-- What all pay. -/
noncomputable def paidTo (ts : List (List Int)) : Nat → Int
  | 0 => 0
  | k + 1 => paidTo ts k + pvF ts k
theorem paidTo_bd {ts : List (List Int)} (hv : ∀ t ∈ ts, VT t) (hn : ts.length ≤ 4) : ∀ k, k ≤ ts.length → 0 ≤ paidTo ts k ∧ paidTo ts k ≤ hasTo ts (wayF ts) k
  | 0, _ => by simp [paidTo, hasTo]
  | k + 1, h => by
    have h1 := paidTo_bd hv hn k (by omega)
    have h2 := pv_nn (ts := ts) (i := k) (by omega)
    have h3 := pv_le hv hn (i := k) (by omega)
    simp only [paidTo, hasTo]
    omega
theorem paid_le {ts : List (List Int)} (hv : ∀ t ∈ ts, VT t) (hn : ts.length ≤ 4) : 0 ≤ paidTo ts ts.length ∧ paidTo ts ts.length ≤ sv ts 7 := by
  have h := paidTo_bd hv hn ts.length (Nat.le_refl _)
  rw [hasTo_is _ _ (Nat.le_refl _), List.take_length, wayF_worth (VTs.zeros hv) hn] at h
  exact h
theorem pv_bd {ts : List (List Int)} (hv : ∀ t ∈ ts, VT t) (hn : ts.length ≤ 4) {i : Nat} (h : i < ts.length) : 0 ≤ pvF ts i ∧ pvF ts i ≤ 30 :=
  ⟨pv_nn h, by have h1 := pv_le hv hn h; have h2 := (hv _ (getD_mem h)).bd (setOf_lt (wayF ts) i); omega⟩

end Go.Proofs.Ytccbjgajmjcpjab
