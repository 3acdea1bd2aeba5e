/-
  Chapter 9, plain: the bidders of a set, what all things are worth to them, and more of them.
-/
import Derived.Test.YtccbjgajmjcpjabMa
namespace Go.Proofs.Ytccbjgajmjcpjab

/-- The tables of the bidders in a set. -/
def ch : List (List Int) → Nat → List (List Int)
  | [], _ => []
  | t :: ts, S => if S % 2 = 1 then t :: ch ts (S / 2) else ch ts (S / 2)
theorem ch_sub : ∀ (ts : List (List Int)) (S : Nat), (ch ts S).Sublist ts
  | [], _ => List.Sublist.refl _
  | t :: ts, S => by
    simp only [ch]
    split
    · exact (ch_sub ts _).cons_cons t
    · exact (ch_sub ts _).cons t
theorem ch_mem {ts : List (List Int)} {S : Nat} {t : List Int} (h : t ∈ ch ts S) : t ∈ ts := (ch_sub ts S).mem h
theorem ch_len (ts : List (List Int)) (S : Nat) : (ch ts S).length ≤ ts.length := (ch_sub ts S).length_le
theorem ch_take : ∀ (ts : List (List Int)) (S k : Nat) {t : List Int}, ts[k]? = some t → ch (ts.take (k + 1)) S = if S / 2 ^ k % 2 = 1 then ch (ts.take k) S ++ [t] else ch (ts.take k) S
  | [], _, k, t, h => by simp at h
  | u :: ts, S, 0, t, h => by
    simp at h; subst h
    simp only [List.take_succ_cons, List.take_zero, ch, Nat.pow_zero, Nat.div_one, List.nil_append]
  | u :: ts, S, k + 1, t, h => by
    have ih := ch_take ts (S / 2) k (t := t) (by simpa using h)
    have e : S / 2 ^ (k + 1) = S / 2 / 2 ^ k := by rw [Nat.pow_succ, Nat.mul_comm, Nat.div_div_eq_div_mul]
    rw [List.take_succ_cons, List.take_succ_cons]
    simp only [ch, e]
    rw [ih]
    by_cases h1 : S % 2 = 1 <;> by_cases h2 : S / 2 / 2 ^ k % 2 = 1 <;> simp [h1, h2]
theorem ch_zero : ∀ ts : List (List Int), ch ts 0 = []
  | [] => rfl
  | t :: ts => by simp only [ch, Nat.zero_div]; rw [if_neg (by decide), ch_zero ts]
theorem ch_all : ∀ ts : List (List Int), ch ts (2 ^ ts.length - 1) = ts
  | [] => rfl
  | t :: ts => by
    have h1 : 2 ^ (t :: ts).length - 1 = 2 * (2 ^ ts.length - 1) + 1 := by
      have : 0 < 2 ^ ts.length := Nat.pow_pos (by omega)
      rw [List.length_cons, Nat.pow_succ]; omega
    rw [h1]
    simp only [ch]
    rw [if_pos (by omega), show (2 * (2 ^ ts.length - 1) + 1) / 2 = 2 ^ ts.length - 1 by omega, ch_all ts]
/-- Bits behind the bidders are not looked at. -/
theorem ch_mod : ∀ (ts : List (List Int)) (S : Nat), ch ts (S % 2 ^ ts.length) = ch ts S
  | [], _ => rfl
  | t :: ts, S => by
    have h1 : S % 2 ^ (t :: ts).length % 2 = S % 2 := by
      rw [List.length_cons, Nat.pow_succ, Nat.mul_comm]; rw [Nat.mod_mul]; omega
    have h2 : S % 2 ^ (t :: ts).length / 2 = S / 2 % 2 ^ ts.length := by
      rw [List.length_cons, Nat.pow_succ, Nat.mul_comm]; rw [Nat.mod_mul]; omega
    simp only [ch]
    rw [h1, h2, ch_mod ts]

/-- What all things are worth to the bidders in a set. -/
def ww (ts : List (List Int)) (S : Nat) : Int := sv (ch ts S) 7
theorem ww_zero (ts : List (List Int)) : ww ts 0 = 0 := by unfold ww; rw [ch_zero]; rfl
theorem ww_all (ts : List (List Int)) : ww ts (2 ^ ts.length - 1) = sv ts 7 := by unfold ww; rw [ch_all]
theorem ch_vt {ts : List (List Int)} (h : ∀ t ∈ ts, VT t) (S : Nat) : ∀ t ∈ ch ts S, VT t := fun t ht => h t (ch_mem ht)
theorem ww_bd {ts : List (List Int)} (h : ∀ t ∈ ts, VT t) (h4 : ts.length ≤ 4) (S : Nat) : 0 ≤ ww ts S ∧ ww ts S ≤ 120 := by
  have h1 := sv_bd (ch_vt h S) 7 (by omega)
  have h2 := ch_len ts S
  exact ⟨sv_nonneg _ _, by unfold ww; omega⟩

/-- The order of bidders does not matter. -/
theorem got_perm {l l' : List (List Int)} (h : l.Perm l') : ∀ {X : Nat} {v : Int}, X < 8 → Got l X v → Got l' X v := by
  induction h with
  | nil => intro X v _ h; exact h
  | cons t _ ih =>
    rintro X v hX ⟨s, hs, u, hu, rfl⟩
    exact ⟨s, hs, u, ih (sub_lt hX hs) hu, rfl⟩
  | swap t u l =>
    rintro X v hX ⟨s, hs, _, ⟨r, hr, y, hy, rfl⟩, rfl⟩
    obtain ⟨h1, h2, h3⟩ := sub_sub hX hs hr
    exact ⟨r, h1, _, ⟨s, h2, y, h3 ▸ hy, rfl⟩, by omega⟩
  | trans _ _ ih1 ih2 => intro X v hX h; exact ih2 hX (ih1 hX h)
theorem sv_perm {l l' : List (List Int)} (h : l.Perm l') (hz : ∀ t ∈ l, T t 0 = 0) : sv l 7 = sv l' 7 := by
  have hz' : ∀ t ∈ l', T t 0 = 0 := fun t ht => hz t (h.symm.subset ht)
  exact Int.le_antisymm (got_le (got_perm h (by omega) (got_sv hz 7))) (got_le (got_perm h.symm (by omega) (got_sv hz' 7)))
/-- One bidder more in a set. -/
theorem ch_more : ∀ (ts : List (List Int)) (S i : Nat), i < ts.length → S / 2 ^ i % 2 = 0 → (ch ts (S + 2 ^ i)).Perm (ch ts S ++ [ts.getD i []])
  | [], _, _, h, _ => by simp at h
  | t :: ts, S, 0, _, hb => by
    simp only [Nat.pow_zero, Nat.div_one] at hb
    simp only [ch, Nat.pow_zero]
    rw [if_pos (by omega), if_neg (by omega), show (S + 1) / 2 = S / 2 by omega]
    simp only [List.getD_cons_zero]
    exact (List.perm_append_comm (l₁ := [t]))
  | t :: ts, S, i + 1, h, hb => by
    have e : S / 2 ^ (i + 1) = S / 2 / 2 ^ i := by rw [Nat.pow_succ, Nat.mul_comm, Nat.div_div_eq_div_mul]
    rw [e] at hb
    have ih := ch_more ts (S / 2) i (by simpa using h) hb
    have e2 : (S + 2 ^ (i + 1)) / 2 = S / 2 + 2 ^ i := by rw [Nat.pow_succ]; omega
    have e3 : (S + 2 ^ (i + 1)) % 2 = S % 2 := by rw [Nat.pow_succ]; omega
    simp only [ch, e2, e3, List.getD_cons_succ]
    split
    · exact ih.cons t
    · exact ih
theorem ch_drop : ∀ (ts : List (List Int)) (S i : Nat), ts.length ≤ i → ch ts (S + 2 ^ i) = ch ts S := by
  intro ts S i h
  rw [← ch_mod ts (S + 2 ^ i), ← ch_mod ts S]
  congr 1
  obtain ⟨d, rfl⟩ := Nat.exists_eq_add_of_le h
  rw [Nat.pow_add, Nat.add_mul_mod_self_left]
/-- All but one. -/
theorem ch_but : ∀ (ts : List (List Int)) (i : Nat), i < ts.length → ch ts (2 ^ ts.length - 1 - 2 ^ i) = ts.eraseIdx i
  | [], _, h => by simp at h
  | t :: ts, 0, _ => by
    have h1 : 2 ^ (t :: ts).length - 1 - 2 ^ 0 = 2 * (2 ^ ts.length - 1) := by
      have : 0 < 2 ^ ts.length := Nat.pow_pos (by omega)
      rw [List.length_cons, Nat.pow_succ]; omega
    rw [h1]
    simp only [ch]
    rw [if_neg (by omega), show 2 * (2 ^ ts.length - 1) / 2 = 2 ^ ts.length - 1 by omega, ch_all ts]; rfl
  | t :: ts, i + 1, h => by
    have hi : i < ts.length := by simpa using h
    have h0 : 2 ^ i < 2 ^ ts.length := Nat.pow_lt_pow_right (by omega) hi
    have h1 : 2 ^ (t :: ts).length - 1 - 2 ^ (i + 1) = 2 * (2 ^ ts.length - 1 - 2 ^ i) + 1 := by
      rw [List.length_cons, Nat.pow_succ, Nat.pow_succ]; omega
    rw [h1]
    simp only [ch]
    rw [if_pos (by omega), show (2 * (2 ^ ts.length - 1 - 2 ^ i) + 1) / 2 = 2 ^ ts.length - 1 - 2 ^ i by omega, ch_but ts i hi]; rfl
theorem ww_but {ts : List (List Int)} {i : Nat} (h : i < ts.length) : ww ts (2 ^ ts.length - 1 - 2 ^ i) = sv (ts.eraseIdx i) 7 := by unfold ww; rw [ch_but ts i h]

/-- More bidders are worth no less. -/
theorem ww_more {ts : List (List Int)} (hz : ∀ t ∈ ts, T t 0 = 0) {S i : Nat} (hi : i < ts.length) (hb : S / 2 ^ i % 2 = 0) : ww ts S ≤ ww ts (S + 2 ^ i) := by
  unfold ww
  have hp := ch_more ts S i hi hb
  rw [sv_perm hp (fun t ht => hz t (ch_mem ht))]
  exact sv_last (fun t ht => hz t (ch_mem ht)) (hz _ (getD_mem hi)) (by omega)

/-- Two bidders more, where things may be moved: together they add no more than one by one. -/
theorem ww_two {ts : List (List Int)} (h : ∀ t ∈ ts, VT t ∧ Mo (T t)) {S i j : Nat} (hi : S / 2 ^ i % 2 = 0) (hj : (S + 2 ^ i) / 2 ^ j % 2 = 0) (hj2 : S / 2 ^ j % 2 = 0) :
    ww ts (S + 2 ^ i + 2 ^ j) + ww ts S ≤ ww ts (S + 2 ^ i) + ww ts (S + 2 ^ j) := by
  rcases Nat.lt_or_ge i ts.length with h1 | h1
  · rcases Nat.lt_or_ge j ts.length with h2 | h2
    · have hz : ∀ t ∈ ts, T t 0 = 0 := fun t ht => (h t ht).1.2.1
      have p1 := ch_more ts S i h1 hi
      have p2 := ch_more ts (S + 2 ^ i) j h2 hj
      have p3 := ch_more ts S j h2 hj2
      have p4 : (ch ts (S + 2 ^ i + 2 ^ j)).Perm ((ch ts S ++ [ts.getD i []]) ++ [ts.getD j []]) := p2.trans (p1.append_right _)
      unfold ww
      rw [sv_perm p1 (fun t ht => hz t (ch_mem ht)), sv_perm p3 (fun t ht => hz t (ch_mem ht)), sv_perm p4 (fun t ht => hz t (ch_mem ht))]
      have hm : ∀ t ∈ (ch ts S ++ [ts.getD i []]) ++ [ts.getD j []], VT t ∧ Mo (T t) := fun t ht => by
        rcases List.mem_append.1 ht with ht | ht
        · rcases List.mem_append.1 ht with ht | ht
          · exact h t (ch_mem ht)
          · rw [List.mem_singleton.1 ht]; exact h _ (getD_mem h1)
        · rw [List.mem_singleton.1 ht]; exact h _ (getD_mem h2)
      have hl := sv_less hm (i := (ch ts S).length) (by simp)
      have he : (ch ts S ++ [ts.getD i []]).eraseIdx (ch ts S).length = ch ts S := erase_last
      rw [he] at hl
      omega
    · have e1 : ch ts (S + 2 ^ i + 2 ^ j) = ch ts (S + 2 ^ i) := ch_drop ts _ j h2
      have e2 : ch ts (S + 2 ^ j) = ch ts S := ch_drop ts _ j h2
      unfold ww; rw [e1, e2]; omega
  · have e1 : ch ts (S + 2 ^ i) = ch ts S := ch_drop ts _ i h1
    have e2 : ch ts (S + 2 ^ i + 2 ^ j) = ch ts (S + 2 ^ j) := by
      rw [show S + 2 ^ i + 2 ^ j = S + 2 ^ j + 2 ^ i by omega]; exact ch_drop ts _ i h1
    unfold ww; rw [e1, e2]; omega

end Go.Proofs.Ytccbjgajmjcpjab
