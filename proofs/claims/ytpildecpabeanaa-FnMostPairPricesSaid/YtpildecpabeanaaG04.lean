/-
  Chapter 8, plain: the best pairs of bidders and things.
-/
import Derived.Test.YtpildecpabeanaaMem
import Derived.Test.YtpildecpabeanaaG01
import Derived.Test.YtpildecpabeanaaG03
import Derived.ArgAppend
namespace Go.Proofs.Ytpildecpabeanaa

/-- What is taken when a thing is had, too: the number of things is none. -/
def nxU (m u j : Nat) : Nat := if j < m then u + 2 ^ j else u
/-- A thing is taken. -/
def isTk (m u j : Nat) : Bool := decide (j < m ∧ u / 2 ^ j % 2 = 1)
def optP (rest : Nat → Int × List Nat) (r : List Int) (u j : Nat) : Int × List Nat := (r.getD j 0 + (rest (nxU r.length u j)).1, j :: (rest (nxU r.length u j)).2)
/-- The best of the first k things of a bidder. -/
def pbTo (rest : Nat → Int × List Nat) (r : List Int) (u : Nat) : Nat → Int × List Nat
  | 0 => (-1, [])
  | k + 1 => if isTk r.length u k = true then pbTo rest r u k else if (pbTo rest r u k).1 < (optP rest r u k).1 then optP rest r u k else pbTo rest r u k
/-- The best pairs of bidders without the things that are taken: the sum, and who has what. -/
def pb : List (List Int) → Nat → Int × List Nat
  | [], _ => (0, [])
  | r :: rs, u => pbTo (pb rs) r u (r.length + 1)

/-- Rows of as many numbers, none below 0. -/
def Rk (m : Nat) (rows : List (List Int)) : Prop := ∀ r ∈ rows, r.length = m ∧ ∀ j, 0 ≤ r.getD j 0
theorem Rk.head {m : Nat} {r : List Int} {rs : List (List Int)} (h : Rk m (r :: rs)) : r.length = m ∧ ∀ j, 0 ≤ r.getD j 0 := h r (by simp)
theorem Rk.tail {m : Nat} {r : List Int} {rs : List (List Int)} (h : Rk m (r :: rs)) : Rk m rs := fun x hx => h x (by simp [hx])

theorem pbTo_is (rest : Nat → Int × List Nat) (r : List Int) (u k : Nat) (h0 : ∀ j u', 0 ≤ r.getD j 0 + (rest u').1) :
    ((pbTo rest r u k = (-1, []) ∧ ∀ j, j < k → isTk r.length u j = true) ∨ ∃ j, j < k ∧ isTk r.length u j = false ∧ pbTo rest r u k = optP rest r u j) ∧
    ∀ j, j < k → isTk r.length u j = false → (optP rest r u j).1 ≤ (pbTo rest r u k).1 := by
  induction k with
  | zero => exact ⟨.inl ⟨rfl, fun j hj => absurd hj (by omega)⟩, fun j hj => absurd hj (by omega)⟩
  | succ k ih =>
    obtain ⟨a, b⟩ := ih
    unfold pbTo
    cases ht : isTk r.length u k with
    | true =>
      rw [if_pos rfl]
      refine ⟨?_, fun j hj hf => ?_⟩
      · rcases a with ⟨a1, a2⟩ | ⟨j, hj, hf, e⟩
        · refine .inl ⟨a1, fun j hj => ?_⟩
          rcases Nat.lt_or_ge j k with h | h
          · exact a2 j h
          · obtain rfl : j = k := by omega
            exact ht
        · exact .inr ⟨j, by omega, hf, e⟩
      · rcases Nat.lt_or_ge j k with h | h
        · exact b j h hf
        · obtain rfl : j = k := by omega
          rw [ht] at hf; exact absurd hf (by simp)
    | false =>
      rw [if_neg (by simp)]
      have hn : 0 ≤ (optP rest r u k).1 := h0 k _
      by_cases hlt : (pbTo rest r u k).1 < (optP rest r u k).1
      · rw [if_pos hlt]
        refine ⟨.inr ⟨k, by omega, ht, rfl⟩, fun j hj hf => ?_⟩
        rcases Nat.lt_or_ge j k with h | h
        · have := b j h hf; omega
        · obtain rfl : j = k := by omega
          exact Int.le_refl _
      · rw [if_neg hlt]
        refine ⟨?_, fun j hj hf => ?_⟩
        · rcases a with ⟨a1, a2⟩ | ⟨j, hj, hf, e⟩
          · rw [a1] at hlt; simp only at hlt; omega
          · exact .inr ⟨j, by omega, hf, e⟩
        · rcases Nat.lt_or_ge j k with h | h
          · exact b j h hf
          · obtain rfl : j = k := by omega
            omega

theorem pb_nonneg {m : Nat} {rows : List (List Int)} (h : Rk m rows) : ∀ u, 0 ≤ (pb rows u).1 := by
  induction rows with
  | nil => intro u; simp [pb]
  | cons r rs ih =>
    intro u
    have hr := h.head
    have i1 := ih h.tail
    have h0 : ∀ j u', 0 ≤ r.getD j 0 + (pb rs u').1 := fun j u' => by have := hr.2 j; have := i1 u'; omega
    have := (pbTo_is (pb rs) r u (r.length + 1) h0).2 r.length (by omega) (by simp [isTk])
    have h2 := h0 r.length (nxU r.length u r.length)
    simp only [optP] at this
    show 0 ≤ (pbTo (pb rs) r u (r.length + 1)).1
    omega
theorem pb_step {m : Nat} {r : List Int} {rs : List (List Int)} (h : Rk m (r :: rs)) (u : Nat) :
    (∃ j, j ≤ m ∧ isTk m u j = false ∧ pb (r :: rs) u = (r.getD j 0 + (pb rs (nxU m u j)).1, j :: (pb rs (nxU m u j)).2)) ∧
    ∀ j, j ≤ m → isTk m u j = false → r.getD j 0 + (pb rs (nxU m u j)).1 ≤ (pb (r :: rs) u).1 := by
  have hr := h.head
  have i1 := pb_nonneg h.tail
  have h0 : ∀ j u', 0 ≤ r.getD j 0 + (pb rs u').1 := fun j u' => by have := hr.2 j; have := i1 u'; omega
  have hm := hr.1
  obtain ⟨a, b⟩ := pbTo_is (pb rs) r u (r.length + 1) h0
  rw [hm] at a b
  constructor
  · rcases a with ⟨_, a2⟩ | ⟨j, hj, hf, e⟩
    · have := a2 m (by omega); simp [isTk] at this
    · refine ⟨j, by omega, hf, ?_⟩
      have e' : pb (r :: rs) u = pbTo (pb rs) r u (m + 1) := by rw [pb, hm]
      rw [e', e, optP, hm]
  · intro j hj hf
    have := b j (by omega) hf
    have e' : pb (r :: rs) u = pbTo (pb rs) r u (m + 1) := by rw [pb, hm]
    rw [e']
    simp only [optP, hm] at this
    exact this
/-- What a bidder more brings when it takes none: nothing less. -/
theorem pb_none {m : Nat} {r : List Int} {rs : List (List Int)} (h : Rk m (r :: rs)) (u : Nat) : (pb rs u).1 ≤ (pb (r :: rs) u).1 := by
  have := (pb_step h u).2 m (Nat.le_refl _) (by simp [isTk])
  have h2 := h.head.2 m
  simp only [nxU, Nat.lt_irrefl, if_false] at this
  omega

/-- Who has what: no thing that is taken, and none twice. -/
def Mt (m : Nat) : List (List Int) → Nat → List Nat → Prop
  | [], _, js => js = []
  | _ :: rs, u, js => ∃ j js', js = j :: js' ∧ j ≤ m ∧ isTk m u j = false ∧ Mt m rs (nxU m u j) js'
/-- What it is worth. -/
def vl : List (List Int) → List Nat → Int
  | r :: rs, j :: js => r.getD j 0 + vl rs js
  | _, _ => 0
theorem pb_mt {m : Nat} {rows : List (List Int)} (h : Rk m rows) : ∀ u, Mt m rows u (pb rows u).2 ∧ vl rows (pb rows u).2 = (pb rows u).1 := by
  induction rows with
  | nil => intro u; simp [pb, Mt, vl]
  | cons r rs ih =>
    intro u
    obtain ⟨⟨j, hj, hf, e⟩, _⟩ := pb_step h u
    obtain ⟨a, b⟩ := ih h.tail (nxU m u j)
    rw [e]
    exact ⟨⟨j, _, rfl, hj, hf, a⟩, by simp only [vl]; rw [b]⟩
theorem mt_le {m : Nat} {rows : List (List Int)} (h : Rk m rows) : ∀ u js, Mt m rows u js → vl rows js ≤ (pb rows u).1 := by
  induction rows with
  | nil => intro u js _; simp [pb, vl]
  | cons r rs ih =>
    intro u js hm
    obtain ⟨j, js', rfl, hj, hf, hm'⟩ := hm
    have a := ih h.tail _ _ hm'
    have b := (pb_step h u).2 j hj hf
    simp only [vl]
    omega
theorem mt_len {m : Nat} {rows : List (List Int)} : ∀ (u : Nat) (js : List Nat), Mt m rows u js → js.length = rows.length := by
  induction rows with
  | nil => intro u js h; rw [Mt] at h; rw [h]; rfl
  | cons r rs ih =>
    intro u js h
    obtain ⟨j, js', rfl, _, _, h'⟩ := h
    simp [ih _ _ h']
theorem mt_each {m : Nat} {rows : List (List Int)} : ∀ u js, Mt m rows u js → ∀ j ∈ js, j ≤ m := by
  induction rows with
  | nil => intro u js h j hj; rw [Mt] at h; rw [h] at hj; exact absurd hj (by simp)
  | cons r rs ih =>
    intro u js h j hj
    obtain ⟨i, js', rfl, hi, _, h'⟩ := h
    rcases List.mem_cons.1 hj with rfl | hj
    · exact hi
    · exact ih _ _ h' j hj
theorem pb_len {m : Nat} {rows : List (List Int)} (h : Rk m rows) (u : Nat) : (pb rows u).2.length = rows.length := mt_len _ _ (pb_mt h u).1

/-- Numbers of up to four things. -/
theorem nx_tk {m u j : Nat} (hm : m ≤ 4) (hu : u < 16) (_ : j ≤ m) (hf : isTk m u j = false) : nxU m u j < 16 ∧ ∀ k, isTk m (nxU m u j) k = (isTk m u k || decide (j < m ∧ k = j)) := by
  unfold nxU
  by_cases hjm : j < m
  · rw [if_pos hjm]
    have hb : u / 2 ^ j % 2 = 0 := by
      simp only [isTk, decide_eq_false_iff_not, hjm, true_and] at hf; omega
    have key : ∀ (u : Fin 16) (j : Fin 4), u.1 / 2 ^ j.1 % 2 = 0 → u.1 + 2 ^ j.1 < 16 ∧ ∀ k : Fin 4, ((u.1 + 2 ^ j.1) / 2 ^ k.1 % 2 = 1 ↔ (u.1 / 2 ^ k.1 % 2 = 1 ∨ k.1 = j.1)) := by decide
    obtain ⟨a, b⟩ := key ⟨u, hu⟩ ⟨j, by omega⟩ hb
    refine ⟨a, fun k => ?_⟩
    by_cases hk : k < m
    · have := b ⟨k, by omega⟩
      simp only at this
      simp only [isTk, hk, true_and, hjm]
      by_cases h1 : u / 2 ^ k % 2 = 1 <;> by_cases h2 : k = j <;> simp_all
    · have : k ≠ j := by omega
      simp [isTk, hk, this]
  · rw [if_neg hjm]
    exact ⟨hu, fun k => by simp [hjm]⟩

theorem mt_no {m : Nat} (hm : m ≤ 4) {rows : List (List Int)} : ∀ (u : Nat) (js : List Nat), u < 16 → Mt m rows u js → ∀ j ∈ js, isTk m u j = false := by
  induction rows with
  | nil => intro u js _ h j hj; rw [Mt] at h; rw [h] at hj; exact absurd hj (by simp)
  | cons r rs ih =>
    intro u js hu h j hj
    obtain ⟨i, js', rfl, hi, hf, h'⟩ := h
    rcases List.mem_cons.1 hj with rfl | hj
    · exact hf
    · obtain ⟨h1, h2⟩ := nx_tk hm hu hi hf
      have := ih _ _ h1 h' j hj
      rw [h2 j] at this
      simp only [Bool.or_eq_false_iff] at this
      exact this.1
/-- No thing is had twice. -/
theorem mt_once {m : Nat} (hm : m ≤ 4) {rows : List (List Int)} : ∀ (u : Nat) (js : List Nat), u < 16 → Mt m rows u js → ∀ (i k x y : Nat), i < k → js[i]? = some x → js[k]? = some y → x = y → m ≤ x := by
  induction rows with
  | nil => intro u js _ h i k x y _ hx; rw [Mt] at h; rw [h] at hx; simp at hx
  | cons r rs ih =>
    intro u js hu h i k x y hik hx hy hxy
    obtain ⟨j, js', rfl, hj, hf, h'⟩ := h
    obtain ⟨h1, h2⟩ := nx_tk hm hu hj hf
    obtain ⟨k', rfl⟩ : ∃ k', k = k' + 1 := ⟨k - 1, by omega⟩
    rw [List.getElem?_cons_succ] at hy
    cases i with
    | zero =>
      rw [List.getElem?_cons_zero] at hx
      obtain rfl : j = x := by simpa using hx
      have := mt_no hm _ _ h1 h' y (List.mem_of_getElem? hy)
      rw [h2 y, ← hxy] at this
      simp only [Bool.or_eq_false_iff, decide_eq_false_iff_not] at this
      exact Nat.le_of_not_lt (fun hlt => this.2 ⟨by omega, trivial⟩)
    | succ i' =>
      rw [List.getElem?_cons_succ] at hx
      exact ih _ _ h1 h' i' k' x y (by omega) hx hy hxy

/-- Less may be had where more is taken. -/
theorem mt_less {m : Nat} (hm : m ≤ 4) {rows : List (List Int)} : ∀ (u v : Nat) (js : List Nat), u < 16 → v < 16 → (∀ k, isTk m v k = true → isTk m u k = true) → Mt m rows u js → Mt m rows v js := by
  induction rows with
  | nil => intro u v js _ _ _ h; exact h
  | cons r rs ih =>
    intro u v js hu hv hs h
    obtain ⟨j, js', rfl, hj, hf, h'⟩ := h
    have hf' : isTk m v j = false := by
      cases hv' : isTk m v j with
      | false => rfl
      | true => rw [hs j hv'] at hf; exact absurd hf (by simp)
    obtain ⟨h1, h2⟩ := nx_tk hm hu hj hf
    obtain ⟨h3, h4⟩ := nx_tk hm hv hj hf'
    refine ⟨j, js', rfl, hj, hf', ih _ _ _ h1 h3 (fun k hk => ?_) h'⟩
    rw [h4 k] at hk; rw [h2 k]
    simp only [Bool.or_eq_true] at hk ⊢
    rcases hk with hk | hk
    · exact .inl (hs k hk)
    · exact .inr hk
/-- Without a bidder. -/
theorem mt_erase {m : Nat} (hm : m ≤ 4) {rows : List (List Int)} : ∀ (u : Nat) (js : List Nat) (i : Nat), u < 16 → Mt m rows u js → Mt m (rows.eraseIdx i) u (js.eraseIdx i) := by
  induction rows with
  | nil => intro u js i _ h; rw [Mt] at h; rw [h]; simp [Mt]
  | cons r rs ih =>
    intro u js i hu h
    obtain ⟨j, js', rfl, hj, hf, h'⟩ := h
    obtain ⟨h1, h2⟩ := nx_tk hm hu hj hf
    cases i with
    | zero =>
      simp only [List.eraseIdx_cons_zero]
      exact mt_less hm _ _ _ h1 hu (fun k hk => by rw [h2 k, hk]; rfl) h'
    | succ i =>
      simp only [List.eraseIdx_cons_succ]
      exact ⟨j, _, rfl, hj, hf, ih _ _ i h1 h'⟩
theorem vl_erase {rows : List (List Int)} : ∀ (js : List Nat) (i : Nat), js.length = rows.length → vl rows js = (if i < rows.length then (rows.getD i []).getD (js.getD i 0) 0 else 0) + vl (rows.eraseIdx i) (js.eraseIdx i) := by
  induction rows with
  | nil => intro js i h; simp [vl]
  | cons r rs ih =>
    intro js i h
    cases js with
    | nil => simp at h
    | cons j js =>
      cases i with
      | zero => simp [vl]
      | succ i =>
        have := ih js i (by simpa using h)
        simp only [List.eraseIdx_cons_succ, vl, List.length_cons, Nat.add_lt_add_iff_right, List.getD_cons_succ]
        omega
theorem rk_erase {m : Nat} {rows : List (List Int)} (h : Rk m rows) (i : Nat) : Rk m (rows.eraseIdx i) := fun r hr => h r (List.mem_of_mem_eraseIdx hr)
/-- A bidder less brings no more. -/
theorem pb_erase {m : Nat} (hm : m ≤ 4) {rows : List (List Int)} (h : Rk m rows) : ∀ u i, u < 16 → (pb (rows.eraseIdx i) u).1 ≤ (pb rows u).1 := by
  induction rows with
  | nil => intro u i _; simp
  | cons r rs ih =>
    intro u i hu
    cases i with
    | zero => exact pb_none h u
    | succ i =>
      simp only [List.eraseIdx_cons_succ]
      have hk : Rk m (r :: rs.eraseIdx i) := fun x hx => by
        rcases List.mem_cons.1 hx with rfl | hx
        · exact h.head
        · exact rk_erase h.tail i x hx
      obtain ⟨⟨j, hj, hf, e⟩, _⟩ := pb_step hk u
      obtain ⟨h1, _⟩ := nx_tk hm hu hj hf
      have a := ih h.tail _ i h1
      have b := (pb_step h u).2 j hj hf
      rw [e]
      simp only
      omega
/-- What is paid for pairs. -/
def ppF (rows : List (List Int)) (i : Nat) : Int := (pb (rows.eraseIdx i) 0).1 - ((pb rows 0).1 - (rows.getD i []).getD ((pb rows 0).2.getD i 0) 0)
theorem pp_bd {m : Nat} (hm : m ≤ 4) {rows : List (List Int)} (h : Rk m rows) {i : Nat} (hi : i < rows.length) : 0 ≤ ppF rows i ∧ ppF rows i ≤ (rows.getD i []).getD ((pb rows 0).2.getD i 0) 0 := by
  have a := pb_erase hm h 0 i (by omega)
  obtain ⟨b, c⟩ := pb_mt h 0
  have d := vl_erase (pb rows 0).2 i (pb_len h 0)
  rw [if_pos hi] at d
  have e := mt_le (rk_erase h i) 0 _ (mt_erase hm 0 _ i (by omega) b)
  unfold ppF
  omega
theorem pb_less {m : Nat} (hm : m ≤ 4) {rows : List (List Int)} (h : Rk m rows) {u v : Nat} (hu : u < 16) (hv : v < 16) (hs : ∀ k, isTk m v k = true → isTk m u k = true) : (pb rows u).1 ≤ (pb rows v).1 := by
  obtain ⟨a, b⟩ := pb_mt h u
  have := mt_le h v _ (mt_less hm u v _ hu hv hs a)
  omega
end Go.Proofs.Ytpildecpabeanaa

/-
  An append of ints onto a row of the call's own, or onto nil.
-/
namespace Go.Proofs.Ytpildecpabeanaa
open Go.RowKit

/-- 'append(xs, zs...)' at slices of ints of whatever named type. -/
theorem run_append_intsT (T ty : TypeId) (hT : Try.prog.underlying T = some (.slice 3)) (w : World) (base : Nat) (A0 : Option Addr) (c0 : Nat) (xs : List Int) (hown : Own w base A0 c0 xs) (A : Option Addr) (c : Nat) (zs : List Int) (hr : Rd w A c zs)
    (hn : xs.length + zs.length ≤ 1099511627776) (hbase : base ≤ w.heap.size) :
    ∃ A' c' w', (Builtin.append_ #[T, T] ty #[.slice A0 xs.length c0, .slice A zs.length c]).run Try.prog w = .ok (.slice A' (xs.length + zs.length) c') w' ∧
      Own w' base A' c' (xs ++ zs) ∧ w.grownBy w' (ofA A0) := by
  obtain ⟨i0, hi, hz0, hz1, hz2⟩ := info_parts int_info
  have hblk : (Value.slice A0 xs.length c0).ownBlock = ofA A0 := by cases A0 <;> rfl
  cases A with
  | none =>
    obtain ⟨rfl, rfl⟩ : zs = [] ∧ c = 0 := by
      rcases hr with h | ⟨b, off, h, _⟩
      · exact ⟨h.1, h.2 rfl⟩
      · cases h
    exact ⟨A0, c0, w, run_append_owned_none (P := Try.prog) (w := w) base T ty 3 i0 1 hT hi _ _ _ hown, by simpa using hown, World.grownBy.refl _ _⟩
  | some ad =>
    obtain ⟨v', w', hrun, h2, h3, _⟩ := run_append_own_at (P := Try.prog) w base T ty 3 i0 (.int .i64 0) 1 8 hT hi hz0 hz1 hz2 rfl (by decide) (.slice A0 xs.length c0) xs.length (xs.map (Value.int .i64)) hown ad zs.length c (zs.map (Value.int .i64)) (by simp) hr.news (ints_oneCell _ _)
      (by unfold maxLen; omega) (by omega) hbase
    rw [← List.map_append] at h2
    obtain ⟨_, ⟨hv, hz⟩ | ⟨g, c', hv⟩⟩ := own_shape h2
    · have hx : xs = [] ∧ zs = [] := by simpa using hz
      obtain ⟨rfl, rfl⟩ := hx
      subst hv
      exact ⟨none, 0, w', hrun, h2, hblk ▸ h3⟩
    · subst hv
      rw [List.length_append] at hrun h2
      exact ⟨_, c', w', hrun, by unfold Own; rw [List.length_append]; exact h2, hblk ▸ h3⟩

theorem wpList_append_any {ops : Array Oper} {rest : List Oper} {o : Oper} {a : Act} {w : World} {Q : Exit → Act → World → Prop} (hgd : o.guard = none) (s x : Operand) (T : TypeId) (hT : Try.prog.underlying T = some (.slice 3))
    (ho : o.op = .call { callee := .builtin .append, args := #[s, x], argTypes := #[T, T] })
    (base : Nat) (A0 : Option Addr) (c0 : Nat) (xs : List Int) (n : Nat) (hxn : xs.length = n) (hs : a.eval s = .slice A0 n c0) (hown : Own w base A0 c0 xs)
    (A : Option Addr) (c : Nat) (zs : List Int) (m : Nat) (hzm : zs.length = m) (hx : a.eval x = .slice A m c) (hr : Rd w A c zs)
    (hn : n + m ≤ 1099511627776) (hbase : base ≤ w.heap.size)
    (h : ∀ A' c' w', Own w' base A' c' (xs ++ zs) → w.grownBy w' (ofA A0) → wpList Try.prog ops Q rest (a.put o.dst (.slice A' (n + m) c')) w') :
    wpList Try.prog ops Q (o :: rest) a w :=
  wpList_plain hgd fun _ hK => by
    subst hxn hzm
    obtain ⟨A', c', w', hrun, h1, h2⟩ := run_append_intsT T o.type hT w base A0 c0 xs hown A c zs hr hn hbase
    unfold Oper.wp execOp
    simp only [ho, resolve, invoke, builtin, Sem.run_bind, Sem.run_pure, Result.andThen_ok, List.map_toArray, List.map_cons, List.map_nil, hs, hx, hrun]
    exact hK _ _ (h A' c' w' h1 h2)

theorem Own.grownBelow0 {w w' wa : World} {B : Nat} {A0 : Option Addr} {c0 : Nat} {xs : List Int} (hb : Below B wa w) (ho : Own w B A0 c0 xs) (hs : B ≤ w.heap.size) (hg : w.grownBy w' (ofA A0)) : Below B wa w' :=
  hb.grown hg hs (fun k hk => (World.ownsRow.lt ho k (by rw [own_block]; exact hk)).1)

theorem intsU_info : (Try.prog.info? 23).map (fun i => (i.zero, i.size, i.bytes)) = some (some (.slice none 0 0), 1, 24) := by kernel_rfl

end Go.Proofs.Ytpildecpabeanaa

/-
  Chapter 8, the program: numbers with that of none behind them; pairs in memory, and their sum.
-/
namespace Go.Proofs.Ytpildecpabeanaa
open Go.RowKit

/-- A new list, in memory of the call's own. -/
def NewL (w : World) (zs : List Int) (e : Ending) (w' : World) : Prop :=
  ∃ A c, e = .returned (.slice A zs.length c) ∧ Own w' w.heap.size A c zs ∧ Below w.heap.size w w'

set_option maxRecDepth 100000 in
set_option maxHeartbeats 1000000 in
theorem withNone_any (A : Option Addr) (c : Nat) (xs : List Int) (w : World) (h : Rd w A c xs) (h1 : 1 ≤ xs.length) (hc : xs.length ≤ c) (hl : xs.length ≤ 1048576) :
    Calls Try.prog 108 #[.slice A xs.length c] w (NewL w (xs ++ [0])) := by
  obtain ⟨i0, hi, hz0, hz1, hz2⟩ := info_parts int_info
  obtain ⟨b, off, rfl, hrd⟩ := h.open_ h1
  have hlit := own_lit w [0] (by simp)
  have hb0 := (Below.refl w.heap.size w).alloc (Nat.le_refl _) (.cells #[.int .i64 0] 3)
  have HCE : Hid (∀ b', some (⟨b, off, none⟩ : Addr) = some b' → ∀ (j : Nat) (u : Value), (xs.map (Value.int .i64))[j]? = some u → (w.alloc (.cells #[.int .i64 0] 3)).cell? (b'.add j) = some u) := Lib.hid (fun b' e j u hu => by
    cases e
    rw [List.getElem?_map] at hu
    obtain ⟨x, hx, rfl⟩ := Option.map_eq_some_iff.1 hu
    have := (hrd j x hx)
    rw [Addr.add_lit]
    exact (hb0.cell (p := ⟨b, off + j, none⟩) (World.block_lt_of_cell? w _ this)).trans this)
  have HLC : Hid (∀ (j : Nat) (u : Value), [Value.int .i64 0][j]? = some u → (w.alloc (.cells #[.int .i64 0] 3)).cell? ((⟨w.heap.size, 0, none⟩ : Addr).add j) = some u) := Lib.hid (fun j u hu => by
    cases j with
    | zero =>
      simp only [List.getElem?_cons_zero, Option.some.injEq] at hu
      subst hu
      rw [Addr.add_lit, Nat.add_zero, World.cell?_alloc_new]
      rfl
    | succ j => simp at hu)
  have hm1 : xs.length + 1 ≤ maxLen := by unfold maxLen; omega
  have HM1 := Lib.hid hm1
  have hm2 : (xs.length + 1) * 8 ≤ 140737488355328 := by omega
  have HM2 := Lib.hid hm2
  have HB0 := Lib.hid hb0
  clear hrd hlit hb0 hm1 hm2 h
  go_enter Try.func108, Try.ntmps108
  go_wp2_with (at_builtin; refine wpList_append_grows _ rfl _ _ 23 rfl 3 i0 (.int .i64 0) 1 8 rfl hi hz0 hz1 hz2 rfl (by decide) (some ⟨b, off, none⟩) xs.length xs.length (xs.map (Value.int .i64)) rfl (fun e => by cases e) (by simp) HCE.out ⟨w.heap.size, 0, none⟩ 1 1 [Value.int .i64 0] rfl rfl HLC.out (fun u hu => by have := List.mem_singleton.1 hu; subst this; rfl) (by omega) HM1.out HM2.out ?_; intro v' w' hown hgr)
  go_ret
  have hB : Below w.heap.size w w' := HB0.out.grown hgr HB0.out.size (fun k e => by cases e)
  have hmap : xs.map (Value.int .i64) ++ [Value.int .i64 0] = (xs ++ [0]).map (Value.int .i64) := by simp
  rw [hmap] at hown
  obtain ⟨_, ⟨hv, hz⟩ | ⟨g, c', hv⟩⟩ := own_shape hown
  · simp at hz
  · subst hv
    refine ⟨some ⟨g, 0, none⟩, c', rfl, ?_, hB⟩
    have := own_base hown HB0.out.size
    rw [show xs.length + 1 = (xs ++ [0]).length by simp] at this
    exact this

/-- Pairs in memory: each tells a thing and its worth. -/
def PLs (w : World) : Value → List (Int × Int) → Prop
  | v, [] => v = .pointer none
  | v, t :: ts => ∃ b rest, v = .pointer (some ⟨b, 0, none⟩) ∧ w.cell? ⟨b, 0, none⟩ = some (.int .i64 t.1) ∧ w.cell? ⟨b, 1, none⟩ = some (.int .i64 t.2) ∧ w.cell? ⟨b, 2, none⟩ = some rest ∧ PLs w rest ts
theorem PLs.below {w w' : World} (hb : Below w.heap.size w w') : ∀ {ts : List (Int × Int)} {v : Value}, PLs w v ts → PLs w' v ts := by
  intro ts
  induction ts with
  | nil => intro v h; exact h
  | cons t ts ih =>
    intro v h
    obtain ⟨b, rest, hv, h0, h1, h2, hr⟩ := h
    have k := fun (j : Nat) (u : Value) (hc : w.cell? ⟨b, j, none⟩ = some u) => (hb.cell (p := ⟨b, j, none⟩) (World.block_lt_of_cell? w _ hc)).trans hc
    exact ⟨b, rest, hv, k 0 _ h0, k 1 _ h1, k 2 _ h2, ih hr⟩
/-- Their sum. -/
def smP : List (Int × Int) → Int
  | [] => 0
  | t :: ts => t.2 + smP ts
/-- Who has what, with its worth. -/
def prs : List (List Int) → List Nat → List (Int × Int)
  | r :: rs, j :: js => ((j : Int), r.getD j 0) :: prs rs js
  | _, _ => []
theorem smP_prs : ∀ (rows : List (List Int)) (js : List Nat), smP (prs rows js) = vl rows js := by
  intro rows
  induction rows with
  | nil => intro js; simp [prs, smP, vl]
  | cons r rs ih =>
    intro js
    cases js with
    | nil => simp [prs, smP, vl]
    | cons j js => simp only [prs, smP, vl, ih]

theorem calls_qd {P : Program} {f : FuncId} {args : Array Value} {w : World} {n : Nat} {v : Value} (h : Calls P f args (w.drewN n) fun e w' => e = .returned v ∧ ∃ k, w' = (w.drewN n).drewN k) :
    Calls P f args (w.drewN n) fun e w'' => e = .returned v ∧ ∃ k, w'' = w.drewN k := h.mono fun _ _ ⟨he, k, hw⟩ => ⟨he, n + k, by rw [hw]; simp⟩
theorem smP_bd : ∀ (ts : List (Int × Int)), (∀ t ∈ ts, 0 ≤ t.2 ∧ t.2 ≤ 12) → 0 ≤ smP ts ∧ smP ts ≤ 12 * ts.length := by
  intro ts
  induction ts with
  | nil => intro _; simp [smP]
  | cons t ts ih =>
    intro h
    have a := ih (fun x hx => h x (by simp [hx]))
    have b := h t (by simp)
    simp only [smP, List.length_cons]
    omega

set_option maxHeartbeats 400000 in
theorem sum_any : ∀ (ts : List (Int × Int)) (v : Value) (w : World), PLs w v ts → ts.length ≤ 4 → (∀ t ∈ ts, 0 ≤ t.2 ∧ t.2 ≤ 12) →
    Calls Try.prog 101 #[v] w fun e w' => e = .returned (.int .i64 (smP ts)) ∧ ∃ n, w' = w.drewN n := by
  intro ts
  induction ts with
  | nil =>
    intro v w h _ _
    obtain rfl : v = .pointer none := h
    go_enter Try.func101, Try.ntmps101
    go_wp2
    go_ret
    exact ⟨rfl, 0, rfl⟩
  | cons t ts ih =>
    intro v w h hl hb
    obtain ⟨b, rest, rfl, h0, h1, h2, hr⟩ := h
    have HI := Lib.hid (fun n => ih rest (w.drewN n) (hr.below (below_drewN' (Below.refl _ _) n)) (by simp at hl; omega) (fun x hx => hb x (by simp [hx])))
    have hw0 := smP_bd ts (fun x hx => hb x (by simp [hx]))
    have hw1 := hb t (by simp)
    have hl' : ts.length ≤ 3 := by simp at hl; omega
    have hw : IntKind.i64.wrap (t.2 + smP ts) = t.2 + smP ts := IntWalk.i64_in _ (by omega)
    clear ih hr hb hl hw0 hw1 hl'
    go_enter Try.func101, Try.ntmps101
    go_wp2_with fail
    go_quiet (exact calls_qd (HI.out _))
    go_wp2
    go_ret
    exact ⟨by first | rfl | simp only [smP], _, rfl⟩
end Go.Proofs.Ytpildecpabeanaa
