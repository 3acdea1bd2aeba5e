/-
  Chapter 8, plain: the best pairs of bidders and things.
-/
import Derived.Test.YtccbjgajmjcpjabMem
namespace Go.Proofs.Ytccbjgajmjcpjab

/-- What is taken when a thing is had, too: the number of things is none. -/
def nxU (m u j : Nat) : Nat := if j < m then u + 2 ^ j else u
/-- A thing is taken. -/
def isTk (m u j : Nat) : Bool := decide (j < m ∧ u / 2 ^ j % 2 = 1)
def optP (rest : Nat → Int × List Nat) (r : List Int) (u j : Nat) : Int × List Nat := (r.getD j 0 + (rest (nxU r.length u j)).1, j :: (rest (nxU r.length u j)).2)
/-- The best of the first k things of a bidder. -/
def pbTo (rest : Nat → Int × List Nat) (r : List Int) (u : Nat) : Nat → Int × List Nat
  | 0 => (-1, [])
  | k + 1 => if isTk r.length u k = true then pbTo rest r u k else if (pbTo rest r u k).1 < (optP rest r u k).1 then optP rest r u k else pbTo rest r u k
/-- The best pairs of bidders without the things that are taken: the sum, and who has what. -/
def pb : List (List Int) → Nat → Int × List Nat
  | [], _ => (0, [])
  | r :: rs, u => pbTo (pb rs) r u (r.length + 1)

/-- Rows of as many numbers, none below 0. -/
def Rk (m : Nat) (rows : List (List Int)) : Prop := ∀ r ∈ rows, r.length = m ∧ ∀ j, 0 ≤ r.getD j 0
theorem Rk.head {m : Nat} {r : List Int} {rs : List (List Int)} (h : Rk m (r :: rs)) : r.length = m ∧ ∀ j, 0 ≤ r.getD j 0 := h r (by simp)
theorem Rk.tail {m : Nat} {r : List Int} {rs : List (List Int)} (h : Rk m (r :: rs)) : Rk m rs := fun x hx => h x (by simp [hx])

theorem pbTo_is (rest : Nat → Int × List Nat) (r : List Int) (u k : Nat) (h0 : ∀ j u', 0 ≤ r.getD j 0 + (rest u').1) :
    ((pbTo rest r u k = (-1, []) ∧ ∀ j, j < k → isTk r.length u j = true) ∨ ∃ j, j < k ∧ isTk r.length u j = false ∧ pbTo rest r u k = optP rest r u j) ∧
    ∀ j, j < k → isTk r.length u j = false → (optP rest r u j).1 ≤ (pbTo rest r u k).1 := by
  induction k with
  | zero => exact ⟨.inl ⟨rfl, fun j hj => absurd hj (by omega)⟩, fun j hj => absurd hj (by omega)⟩
  | succ k ih =>
    obtain ⟨a, b⟩ := ih
    unfold pbTo
    cases ht : isTk r.length u k with
    | true =>
      rw [if_pos rfl]
      refine ⟨?_, fun j hj hf => ?_⟩
      · rcases a with ⟨a1, a2⟩ | ⟨j, hj, hf, e⟩
        · refine .inl ⟨a1, fun j hj => ?_⟩
          rcases Nat.lt_or_ge j k with h | h
          · exact a2 j h
          · obtain rfl : j = k := by omega
            exact ht
        · exact .inr ⟨j, by omega, hf, e⟩
      · rcases Nat.lt_or_ge j k with h | h
        · exact b j h hf
        · obtain rfl : j = k := by omega
          rw [ht] at hf; exact absurd hf (by simp)
    | false =>
      rw [if_neg (by simp)]
      have hn : 0 ≤ (optP rest r u k).1 := h0 k _
      by_cases hlt : (pbTo rest r u k).1 < (optP rest r u k).1
      · rw [if_pos hlt]
        refine ⟨.inr ⟨k, by omega, ht, rfl⟩, fun j hj hf => ?_⟩
        rcases Nat.lt_or_ge j k with h | h
        · have := b j h hf; omega
        · obtain rfl : j = k := by omega
          exact Int.le_refl _
      · rw [if_neg hlt]
        refine ⟨?_, fun j hj hf => ?_⟩
        · rcases a with ⟨a1, a2⟩ | ⟨j, hj, hf, e⟩
          · rw [a1] at hlt; simp only at hlt; omega
          · exact .inr ⟨j, by omega, hf, e⟩
        · rcases Nat.lt_or_ge j k with h | h
          · exact b j h hf
          · obtain rfl : j = k := by omega
            omega

theorem pb_nonneg {m : Nat} {rows : List (List Int)} (h : Rk m rows) : ∀ u, 0 ≤ (pb rows u).1 := by
  induction rows with
  | nil => intro u; simp [pb]
  | cons r rs ih =>
    intro u
    have hr := h.head
    have i1 := ih h.tail
    have h0 : ∀ j u', 0 ≤ r.getD j 0 + (pb rs u').1 := fun j u' => by have := hr.2 j; have := i1 u'; omega
    have := (pbTo_is (pb rs) r u (r.length + 1) h0).2 r.length (by omega) (by simp [isTk])
    have h2 := h0 r.length (nxU r.length u r.length)
    simp only [optP] at this
    show 0 ≤ (pbTo (pb rs) r u (r.length + 1)).1
    omega
theorem pb_step {m : Nat} {r : List Int} {rs : List (List Int)} (h : Rk m (r :: rs)) (u : Nat) :
    (∃ j, j ≤ m ∧ isTk m u j = false ∧ pb (r :: rs) u = (r.getD j 0 + (pb rs (nxU m u j)).1, j :: (pb rs (nxU m u j)).2)) ∧
    ∀ j, j ≤ m → isTk m u j = false → r.getD j 0 + (pb rs (nxU m u j)).1 ≤ (pb (r :: rs) u).1 := by
  have hr := h.head
  have i1 := pb_nonneg h.tail
  have h0 : ∀ j u', 0 ≤ r.getD j 0 + (pb rs u').1 := fun j u' => by have := hr.2 j; have := i1 u'; omega
  have hm := hr.1
  obtain ⟨a, b⟩ := pbTo_is (pb rs) r u (r.length + 1) h0
  rw [hm] at a b
  constructor
  · rcases a with ⟨_, a2⟩ | ⟨j, hj, hf, e⟩
    · have := a2 m (by omega); simp [isTk] at this
    · refine ⟨j, by omega, hf, ?_⟩
      have e' : pb (r :: rs) u = pbTo (pb rs) r u (m + 1) := by rw [pb, hm]
      rw [e', e, optP, hm]
  · intro j hj hf
    have := b j (by omega) hf
    have e' : pb (r :: rs) u = pbTo (pb rs) r u (m + 1) := by rw [pb, hm]
    rw [e']
    simp only [optP, hm] at this
    exact this
/-- What a bidder more brings when it takes none: nothing less. -/
theorem pb_none {m : Nat} {r : List Int} {rs : List (List Int)} (h : Rk m (r :: rs)) (u : Nat) : (pb rs u).1 ≤ (pb (r :: rs) u).1 := by
  have := (pb_step h u).2 m (Nat.le_refl _) (by simp [isTk])
  have h2 := h.head.2 m
  simp only [nxU, Nat.lt_irrefl, if_false] at this
  omega

/-- Who has what: no thing that is taken, and none twice. -/
def Mt (m : Nat) : List (List Int) → Nat → List Nat → Prop
  | [], _, js => js = []
  | _ :: rs, u, js => ∃ j js', js = j :: js' ∧ j ≤ m ∧ isTk m u j = false ∧ Mt m rs (nxU m u j) js'
/-- What it is worth. -/
def vl : List (List Int) → List Nat → Int
  | r :: rs, j :: js => r.getD j 0 + vl rs js
  | _, _ => 0
theorem pb_mt {m : Nat} {rows : List (List Int)} (h : Rk m rows) : ∀ u, Mt m rows u (pb rows u).2 ∧ vl rows (pb rows u).2 = (pb rows u).1 := by
  induction rows with
  | nil => intro u; simp [pb, Mt, vl]
  | cons r rs ih =>
    intro u
    obtain ⟨⟨j, hj, hf, e⟩, _⟩ := pb_step h u
    obtain ⟨a, b⟩ := ih h.tail (nxU m u j)
    rw [e]
    exact ⟨⟨j, _, rfl, hj, hf, a⟩, by simp only [vl]; rw [b]⟩
theorem mt_le {m : Nat} {rows : List (List Int)} (h : Rk m rows) : ∀ u js, Mt m rows u js → vl rows js ≤ (pb rows u).1 := by
  induction rows with
  | nil => intro u js _; simp [pb, vl]
  | cons r rs ih =>
    intro u js hm
    obtain ⟨j, js', rfl, hj, hf, hm'⟩ := hm
    have a := ih h.tail _ _ hm'
    have b := (pb_step h u).2 j hj hf
    simp only [vl]
    omega
theorem mt_len {m : Nat} {rows : List (List Int)} : ∀ (u : Nat) (js : List Nat), Mt m rows u js → js.length = rows.length := by
  induction rows with
  | nil => intro u js h; rw [Mt] at h; rw [h]; rfl
  | cons r rs ih =>
    intro u js h
    obtain ⟨j, js', rfl, _, _, h'⟩ := h
    simp [ih _ _ h']
theorem mt_each {m : Nat} {rows : List (List Int)} : ∀ u js, Mt m rows u js → ∀ j ∈ js, j ≤ m := by
  induction rows with
  | nil => intro u js h j hj; rw [Mt] at h; rw [h] at hj; exact absurd hj (by simp)
  | cons r rs ih =>
    intro u js h j hj
    obtain ⟨i, js', rfl, hi, _, h'⟩ := h
    rcases List.mem_cons.1 hj with rfl | hj
    · exact hi
    · exact ih _ _ h' j hj
theorem pb_len {m : Nat} {rows : List (List Int)} (h : Rk m rows) (u : Nat) : (pb rows u).2.length = rows.length := mt_len _ _ (pb_mt h u).1

/-- Numbers of up to four things. -/
theorem nx_tk {m u j : Nat} (hm : m ≤ 4) (hu : u < 16) (_ : j ≤ m) (hf : isTk m u j = false) : nxU m u j < 16 ∧ ∀ k, isTk m (nxU m u j) k = (isTk m u k || decide (j < m ∧ k = j)) := by
  unfold nxU
  by_cases hjm : j < m
  · rw [if_pos hjm]
    have hb : u / 2 ^ j % 2 = 0 := by
      simp only [isTk, decide_eq_false_iff_not, hjm, true_and] at hf; omega
    have key : ∀ (u : Fin 16) (j : Fin 4), u.1 / 2 ^ j.1 % 2 = 0 → u.1 + 2 ^ j.1 < 16 ∧ ∀ k : Fin 4, ((u.1 + 2 ^ j.1) / 2 ^ k.1 % 2 = 1 ↔ (u.1 / 2 ^ k.1 % 2 = 1 ∨ k.1 = j.1)) := by decide
    obtain ⟨a, b⟩ := key ⟨u, hu⟩ ⟨j, by omega⟩ hb
    refine ⟨a, fun k => ?_⟩
    by_cases hk : k < m
    · have := b ⟨k, by omega⟩
      simp only at this
      simp only [isTk, hk, true_and, hjm]
      by_cases h1 : u / 2 ^ k % 2 = 1 <;> by_cases h2 : k = j <;> simp_all
    · have : k ≠ j := by omega
      simp [isTk, hk, this]
  · rw [if_neg hjm]
    exact ⟨hu, fun k => by simp [hjm]⟩

theorem mt_no {m : Nat} (hm : m ≤ 4) {rows : List (List Int)} : ∀ (u : Nat) (js : List Nat), u < 16 → Mt m rows u js → ∀ j ∈ js, isTk m u j = false := by
  induction rows with
  | nil => intro u js _ h j hj; rw [Mt] at h; rw [h] at hj; exact absurd hj (by simp)
  | cons r rs ih =>
    intro u js hu h j hj
    obtain ⟨i, js', rfl, hi, hf, h'⟩ := h
    rcases List.mem_cons.1 hj with rfl | hj
    · exact hf
    · obtain ⟨h1, h2⟩ := nx_tk hm hu hi hf
      have := ih _ _ h1 h' j hj
      rw [h2 j] at this
      simp only [Bool.or_eq_false_iff] at this
      exact this.1
/-- No thing is had twice. -/
theorem mt_once {m : Nat} (hm : m ≤ 4) {rows : List (List Int)} : ∀ (u : Nat) (js : List Nat), u < 16 → Mt m rows u js → ∀ (i k x y : Nat), i < k → js[i]? = some x → js[k]? = some y → x = y → m ≤ x := by
  induction rows with
  | nil => intro u js _ h i k x y _ hx; rw [Mt] at h; rw [h] at hx; simp at hx
  | cons r rs ih =>
    intro u js hu h i k x y hik hx hy hxy
    obtain ⟨j, js', rfl, hj, hf, h'⟩ := h
    obtain ⟨h1, h2⟩ := nx_tk hm hu hj hf
    obtain ⟨k', rfl⟩ : ∃ k', k = k' + 1 := ⟨k - 1, by omega⟩
    rw [List.getElem?_cons_succ] at hy
    cases i with
    | zero =>
      rw [List.getElem?_cons_zero] at hx
      obtain rfl : j = x := by simpa using hx
      have := mt_no hm _ _ h1 h' y (List.mem_of_getElem? hy)
      rw [h2 y, ← hxy] at this
      simp only [Bool.or_eq_false_iff, decide_eq_false_iff_not] at this
      exact Nat.le_of_not_lt (fun hlt => this.2 ⟨by omega, trivial⟩)
    | succ i' =>
      rw [List.getElem?_cons_succ] at hx
      exact ih _ _ h1 h' i' k' x y (by omega) hx hy hxy

/-- Less may be had where more is taken. -/
theorem mt_less {m : Nat} (hm : m ≤ 4) {rows : List (List Int)} : ∀ (u v : Nat) (js : List Nat), u < 16 → v < 16 → (∀ k, isTk m v k = true → isTk m u k = true) → Mt m rows u js → Mt m rows v js := by
  induction rows with
  | nil => intro u v js _ _ _ h; exact h
  | cons r rs ih =>
    intro u v js hu hv hs h
    obtain ⟨j, js', rfl, hj, hf, h'⟩ := h
    have hf' : isTk m v j = false := by
      cases hv' : isTk m v j with
      | false => rfl
      | true => rw [hs j hv'] at hf; exact absurd hf (by simp)
    obtain ⟨h1, h2⟩ := nx_tk hm hu hj hf
    obtain ⟨h3, h4⟩ := nx_tk hm hv hj hf'
    refine ⟨j, js', rfl, hj, hf', ih _ _ _ h1 h3 (fun k hk => ?_) h'⟩
    rw [h4 k] at hk; rw [h2 k]
    simp only [Bool.or_eq_true] at hk ⊢
    rcases hk with hk | hk
    · exact .inl (hs k hk)
    · exact .inr hk
/-- Without a bidder. -/
theorem mt_erase {m : Nat} (hm : m ≤ 4) {rows : List (List Int)} : ∀ (u : Nat) (js : List Nat) (i : Nat), u < 16 → Mt m rows u js → Mt m (rows.eraseIdx i) u (js.eraseIdx i) := by
  induction rows with
  | nil => intro u js i _ h; rw [Mt] at h; rw [h]; simp [Mt]
  | cons r rs ih =>
    intro u js i hu h
    obtain ⟨j, js', rfl, hj, hf, h'⟩ := h
    obtain ⟨h1, h2⟩ := nx_tk hm hu hj hf
    cases i with
    | zero =>
      simp only [List.eraseIdx_cons_zero]
      exact mt_less hm _ _ _ h1 hu (fun k hk => by rw [h2 k, hk]; rfl) h'
    | succ i =>
      simp only [List.eraseIdx_cons_succ]
      exact ⟨j, _, rfl, hj, hf, ih _ _ i h1 h'⟩
theorem vl_erase {rows : List (List Int)} : ∀ (js : List Nat) (i : Nat), js.length = rows.length → vl rows js = (if i < rows.length then (rows.getD i []).getD (js.getD i 0) 0 else 0) + vl (rows.eraseIdx i) (js.eraseIdx i) := by
  induction rows with
  | nil => intro js i h; simp [vl]
  | cons r rs ih =>
    intro js i h
    cases js with
    | nil => simp at h
    | cons j js =>
      cases i with
      | zero => simp [vl]
      | succ i =>
        have := ih js i (by simpa using h)
        simp only [List.eraseIdx_cons_succ, vl, List.length_cons, Nat.add_lt_add_iff_right, List.getD_cons_succ]
        omega
theorem rk_erase {m : Nat} {rows : List (List Int)} (h : Rk m rows) (i : Nat) : Rk m (rows.eraseIdx i) := fun r hr => h r (List.mem_of_mem_eraseIdx hr)
/-- A bidder less brings no more. -/
theorem pb_erase {m : Nat} (hm : m ≤ 4) {rows : List (List Int)} (h : Rk m rows) : ∀ u i, u < 16 → (pb (rows.eraseIdx i) u).1 ≤ (pb rows u).1 := by
  induction rows with
  | nil => intro u i _; simp
  | cons r rs ih =>
    intro u i hu
    cases i with
    | zero => exact pb_none h u
    | succ i =>
      simp only [List.eraseIdx_cons_succ]
      have hk : Rk m (r :: rs.eraseIdx i) := fun x hx => by
        rcases List.mem_cons.1 hx with rfl | hx
        · exact h.head
        · exact rk_erase h.tail i x hx
      obtain ⟨⟨j, hj, hf, e⟩, _⟩ := pb_step hk u
      obtain ⟨h1, _⟩ := nx_tk hm hu hj hf
      have a := ih h.tail _ i h1
      have b := (pb_step h u).2 j hj hf
      rw [e]
      simp only
      omega
/-- What is paid for pairs. -/
def ppF (rows : List (List Int)) (i : Nat) : Int := (pb (rows.eraseIdx i) 0).1 - ((pb rows 0).1 - (rows.getD i []).getD ((pb rows 0).2.getD i 0) 0)
theorem pp_bd {m : Nat} (hm : m ≤ 4) {rows : List (List Int)} (h : Rk m rows) {i : Nat} (hi : i < rows.length) : 0 ≤ ppF rows i ∧ ppF rows i ≤ (rows.getD i []).getD ((pb rows 0).2.getD i 0) 0 := by
  have a := pb_erase hm h 0 i (by omega)
  obtain ⟨b, c⟩ := pb_mt h 0
  have d := vl_erase (pb rows 0).2 i (pb_len h 0)
  rw [if_pos hi] at d
  have e := mt_le (rk_erase h i) 0 _ (mt_erase hm 0 _ i (by omega) b)
  unfold ppF
  omega
theorem pb_less {m : Nat} (hm : m ≤ 4) {rows : List (List Int)} (h : Rk m rows) {u v : Nat} (hu : u < 16) (hv : v < 16) (hs : ∀ k, isTk m v k = true → isTk m u k = true) : (pb rows u).1 ≤ (pb rows v).1 := by
  obtain ⟨a, b⟩ := pb_mt h u
  have := mt_le h v _ (mt_less hm u v _ hu hv hs a)
  omega
end Go.Proofs.Ytccbjgajmjcpjab
