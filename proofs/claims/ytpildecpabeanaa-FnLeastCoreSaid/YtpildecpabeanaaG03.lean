/-
  Chapter 6, plain: more bidders pay more, and two names are no better, where things may be moved.
-/
import Derived.Test.YtpildecpabeanaaG02
namespace Go.Proofs.Ytpildecpabeanaa

/-- What is had goes to one bidder, and the rest to the others. -/
theorem got_pick {ts : List (List Int)} : ∀ (i X : Nat) (v : Int), X < 8 → i < ts.length → (Got ts X v ↔ ∃ s, s ∈ subs X ∧ ∃ u, Got (ts.eraseIdx i) (X - s) u ∧ v = T (ts.getD i []) s + u) := by
  induction ts with
  | nil => intro i X v _ h; simp at h
  | cons t ts ih =>
    intro i X v hX h
    cases i with
    | zero => simp only [List.eraseIdx_zero, List.tail_cons, List.getD_cons_zero, Got]
    | succ i =>
      simp only [List.eraseIdx_cons_succ, List.getD_cons_succ, Got]
      have hi : i < ts.length := by simpa using h
      constructor
      · rintro ⟨s, hs, u, hu, rfl⟩
        obtain ⟨r, hr, u', hu', rfl⟩ := (ih i (X - s) u (sub_lt hX hs) hi).1 hu
        obtain ⟨h1, h2, h3⟩ := sub_sub hX hs hr
        exact ⟨r, h1, T t s + u', ⟨s, h2, u', h3 ▸ hu', rfl⟩, by omega⟩
      · rintro ⟨r, hr, w, ⟨s, hs, u', hu', rfl⟩, rfl⟩
        obtain ⟨h1, h2, h3⟩ := sub_sub hX hr hs
        exact ⟨s, h1, T (ts.getD i []) r + u', (ih i (X - s) _ (sub_lt hX h1) hi).2 ⟨r, h2, u', h3 ▸ hu', rfl⟩, by omega⟩
/-- Both rests together are no less than the rest of both and all. -/
theorem mo_rests {S : Nat → Int} (A : Mo S) {r s : Nat} (hr : r ∈ subs 7) (hs : s ∈ subs (7 - r)) : S (7 - r - s) + S 7 ≤ S (7 - r) + S (7 - s) := by
  obtain ⟨z, m3, m5, m6, m71, m72, m74, n1, n2, n4, _, _, _⟩ := A
  have hr8 := subs_lt hr
  have hs8 := subs_lt hs
  have ha := subs_and hs
  rcases nat8 hr8 with rfl | rfl | rfl | rfl | rfl | rfl | rfl | rfl <;> rcases nat8 hs8 with rfl | rfl | rfl | rfl | rfl | rfl | rfl | rfl <;>
    first
    | (exfalso; revert ha; decide)
    | (simp only [Nat.sub_zero, Nat.sub_self, Nat.reduceSub]; omega)
/-- One bidder more brings less where there is another one more. -/
theorem sv_less {ts : List (List Int)} {b : List Int} (h : ∀ t ∈ ts ++ [b], VT t ∧ Mo (T t)) {i : Nat} (hi : i < ts.length) :
    sv (ts ++ [b]) 7 + sv (ts.eraseIdx i) 7 ≤ sv (ts.eraseIdx i ++ [b]) 7 + sv ts 7 := by
  have hz : ∀ t ∈ ts ++ [b], T t 0 = 0 := fun t ht => (h t ht).1.2.1
  have ho : ∀ t ∈ ts.eraseIdx i, VT t ∧ Mo (T t) := fun t ht => h t (List.mem_append.2 (.inl (mem_erase ht)))
  have A := sv_mo ho
  obtain ⟨r, hr, u, hu, e1⟩ := (got_snoc (by omega)).1 (got_sv hz 7)
  obtain ⟨s, hs, u', hu', e2⟩ := (got_pick i (7 - r) u (sub_lt (by omega) hr) hi).1 hu
  have h1 := got_le hu'
  have hsr := sub_sub (by omega) hr hs
  have h2 : sv (ts.eraseIdx i) (7 - r) + T b r ≤ sv (ts.eraseIdx i ++ [b]) 7 := got_le ((got_snoc (by omega)).2 ⟨r, hr, _, got_sv (fun t ht => (ho t ht).1.2.1) _, rfl⟩)
  have h3 : T (ts.getD i []) s + sv (ts.eraseIdx i) (7 - s) ≤ sv ts 7 := got_le ((got_pick i 7 _ (by omega) hi).2 ⟨s, hsr.1, _, got_sv (fun t ht => (ho t ht).1.2.1) _, rfl⟩)
  have h4 := mo_rests A hr hs
  omega

/-- The sum of what the others have without each of the first k. -/
def outTo (ts : List (List Int)) : Nat → Int
  | 0 => 0
  | k + 1 => outTo ts k + sv (ts.eraseIdx k) 7
theorem paid_out (ts : List (List Int)) : ∀ k, paidTo ts k = outTo ts k - (k : Int) * worthF ts (wayF ts) + hasTo ts (wayF ts) k
  | 0 => by simp [paidTo, outTo, hasTo]
  | k + 1 => by
    have := paid_out ts k
    simp only [paidTo, outTo, hasTo, pvF]
    have e : ((k + 1 : Nat) : Int) * worthF ts (wayF ts) = (k : Int) * worthF ts (wayF ts) + worthF ts (wayF ts) := by rw [Int.natCast_add, Int.add_mul]; simp
    rw [e]
    omega
theorem erase_snoc {ts : List (List Int)} {b : List Int} {i : Nat} (hi : i < ts.length) : (ts ++ [b]).eraseIdx i = ts.eraseIdx i ++ [b] := List.eraseIdx_append_of_lt_length hi _
theorem erase_last {ts : List (List Int)} {b : List Int} : (ts ++ [b]).eraseIdx ts.length = ts := by
  rw [List.eraseIdx_append_of_length_le (Nat.le_refl _)]; simp
theorem out_snoc {ts : List (List Int)} {b : List Int} : ∀ k, k ≤ ts.length → (∀ t ∈ ts ++ [b], VT t ∧ Mo (T t)) → outTo ts k + (k : Int) * sv (ts ++ [b]) 7 ≤ outTo (ts ++ [b]) k + (k : Int) * sv ts 7
  | 0, _, _ => by simp [outTo]
  | k + 1, hk, h => by
    have ih := out_snoc k (by omega) h
    have h1 := sv_less h (i := k) hk
    simp only [outTo]
    rw [erase_snoc hk]
    have e1 : ((k + 1 : Nat) : Int) * sv (ts ++ [b]) 7 = (k : Int) * sv (ts ++ [b]) 7 + sv (ts ++ [b]) 7 := by rw [Int.natCast_add, Int.add_mul]; simp
    have e2 : ((k + 1 : Nat) : Int) * sv ts 7 = (k : Int) * sv ts 7 + sv ts 7 := by rw [Int.natCast_add, Int.add_mul]; simp
    rw [e1, e2]
    omega

/-- More bidders pay more. -/
theorem paid_more {ts : List (List Int)} {b : List Int} (hn : ts.length + 1 ≤ 4) (h : ∀ t ∈ ts ++ [b], VT t ∧ Mo (T t)) : paidTo ts ts.length ≤ paidTo (ts ++ [b]) (ts ++ [b]).length := by
  have hz : ∀ t ∈ ts ++ [b], T t 0 = 0 := fun t ht => (h t ht).1.2.1
  have hz' : ∀ t ∈ ts, T t 0 = 0 := fun t ht => hz t (List.mem_append.2 (.inl ht))
  have hl : (ts ++ [b]).length = ts.length + 1 := by simp
  have w1 := wayF_worth hz' (by omega)
  have w2 := wayF_worth hz (by rw [hl]; exact hn)
  have p1 := paid_out ts ts.length
  have p2 := paid_out (ts ++ [b]) (ts ++ [b]).length
  rw [hasTo_is _ _ (Nat.le_refl _), List.take_length, w1] at p1
  rw [hasTo_is _ _ (Nat.le_refl _), List.take_length, w2] at p2
  have o := out_snoc ts.length (Nat.le_refl _) h
  have e : outTo (ts ++ [b]) (ts ++ [b]).length = outTo (ts ++ [b]) ts.length + sv ts 7 := by
    rw [hl]
    simp only [outTo]
    rw [erase_last]
  rw [e] at p2
  have e2 : (((ts ++ [b]).length : Nat) : Int) * sv (ts ++ [b]) 7 = (ts.length : Int) * sv (ts ++ [b]) 7 + sv (ts ++ [b]) 7 := by rw [hl, Int.natCast_add, Int.add_mul]; simp
  rw [e2] at p2
  rw [p1, p2]
  omega

/-- The set of a bidder is among the things that go to this and later ones. -/
theorem skn_in {x y z k i : Int} (h : k ≤ i) : skn x y z i ∈ subs (ge k x y z) := by
  unfold skn ge
  have ex : (x = i ∧ k ≤ x) ∨ (¬ x = i ∧ k ≤ x) ∨ (¬ x = i ∧ ¬ k ≤ x) := by omega
  have ey : (y = i ∧ k ≤ y) ∨ (¬ y = i ∧ k ≤ y) ∨ (¬ y = i ∧ ¬ k ≤ y) := by omega
  have ez : (z = i ∧ k ≤ z) ∨ (¬ z = i ∧ k ≤ z) ∨ (¬ z = i ∧ ¬ k ≤ z) := by omega
  rcases ex with ⟨a1, b1⟩ | ⟨a1, b1⟩ | ⟨a1, b1⟩ <;> rcases ey with ⟨a2, b2⟩ | ⟨a2, b2⟩ | ⟨a2, b2⟩ <;> rcases ez with ⟨a3, b3⟩ | ⟨a3, b3⟩ | ⟨a3, b3⟩ <;>
    ((first | rw [if_pos a1] | rw [if_neg a1]); (first | rw [if_pos b1] | rw [if_neg b1]); (first | rw [if_pos a2] | rw [if_neg a2]); (first | rw [if_pos b2] | rw [if_neg b2]); (first | rw [if_pos a3] | rw [if_neg a3]); (first | rw [if_pos b3] | rw [if_neg b3]); decide)
theorem ge_in {x y z k i : Int} (h : k ≤ i) : ge i x y z ∈ subs (ge k x y z) := by
  unfold ge
  have ex : (i ≤ x ∧ k ≤ x) ∨ (¬ i ≤ x ∧ k ≤ x) ∨ (¬ i ≤ x ∧ ¬ k ≤ x) := by omega
  have ey : (i ≤ y ∧ k ≤ y) ∨ (¬ i ≤ y ∧ k ≤ y) ∨ (¬ i ≤ y ∧ ¬ k ≤ y) := by omega
  have ez : (i ≤ z ∧ k ≤ z) ∨ (¬ i ≤ z ∧ k ≤ z) ∨ (¬ i ≤ z ∧ ¬ k ≤ z) := by omega
  rcases ex with ⟨a1, b1⟩ | ⟨a1, b1⟩ | ⟨a1, b1⟩ <;> rcases ey with ⟨a2, b2⟩ | ⟨a2, b2⟩ | ⟨a2, b2⟩ <;> rcases ez with ⟨a3, b3⟩ | ⟨a3, b3⟩ | ⟨a3, b3⟩ <;>
    ((first | rw [if_pos a1] | rw [if_neg a1]); (first | rw [if_pos b1] | rw [if_neg b1]); (first | rw [if_pos a2] | rw [if_neg a2]); (first | rw [if_pos b2] | rw [if_neg b2]); (first | rw [if_pos a3] | rw [if_neg a3]); (first | rw [if_pos b3] | rw [if_neg b3]); decide)
/-- What the first bidders have is no more than what goes to them. -/
theorem got_first (x y z : Int) : ∀ (ts : List (List Int)) (k : Int), Got ts (ge k x y z - ge (k + ts.length) x y z) (wk ts k x y z)
  | [], k => rfl
  | t :: ts, k => by
    obtain ⟨h1, h2⟩ := ge_step k x y z
    have h3 := got_first x y z ts (k + 1)
    have e : k + ((t :: ts).length : Int) = k + 1 + (ts.length : Int) := by simp; omega
    rw [e]
    have h4 : ge (k + 1 + (ts.length : Int)) x y z ∈ subs (ge k x y z - skn x y z k) := by rw [h2]; exact ge_in (by omega)
    obtain ⟨_, q2, q3⟩ := sub_sub (ge_lt k x y z) h1 h4
    rw [h2] at q3
    exact ⟨_, q2, _, by rw [← q3]; exact h3, rfl⟩
/-- The same without one of them. -/
theorem got_but (x y z : Int) : ∀ (ts : List (List Int)) (i : Nat) (k : Int), i < ts.length → skn x y z (k + i) ∈ subs (ge k x y z - ge (k + ts.length) x y z) ∧
    Got (ts.eraseIdx i) (ge k x y z - ge (k + ts.length) x y z - skn x y z (k + i)) (wk ts k x y z - T (ts.getD i []) (skn x y z (k + i)))
  | [], i, k, h => by simp at h
  | t :: ts, i, k, h => by
    obtain ⟨h1, h2⟩ := ge_step k x y z
    have e : k + ((t :: ts).length : Int) = k + 1 + (ts.length : Int) := by simp; omega
    rw [e]
    have h4 : ge (k + 1 + (ts.length : Int)) x y z ∈ subs (ge k x y z - skn x y z k) := by rw [h2]; exact ge_in (by omega)
    obtain ⟨q1, q2, q3⟩ := sub_sub (ge_lt k x y z) h1 h4
    rw [h2] at q3
    have hlt : ge k x y z - ge (k + 1 + (ts.length : Int)) x y z < 8 := Nat.lt_of_le_of_lt (Nat.sub_le _ _) (ge_lt k x y z)
    cases i with
    | zero =>
      have h3 := got_first x y z ts (k + 1)
      simp only [List.eraseIdx_zero, List.tail_cons, List.getD_cons_zero, wk]
      rw [show k + ((0 : Nat) : Int) = k by omega]
      refine ⟨q2, ?_⟩
      rw [← q3, show T t (skn x y z k) + wk ts (k + 1) x y z - T t (skn x y z k) = wk ts (k + 1) x y z by omega]
      exact h3
    | succ i =>
      obtain ⟨r1, r2⟩ := got_but x y z ts i (k + 1) (by simpa using h)
      simp only [List.eraseIdx_cons_succ, List.getD_cons_succ, wk]
      rw [show k + ((i + 1 : Nat) : Int) = k + 1 + (i : Int) by omega]
      rw [q3] at r1 r2
      obtain ⟨p1, p2, p3⟩ := sub_sub hlt q2 r1
      refine ⟨p1, _, p2, _, by rw [← p3]; exact r2, by omega⟩

/-- Sets of a way that ends with one more bidder. -/
theorem apart_sets {G D A B : Nat} (hG : G < 8) (hD : D ∈ subs G) (hB : B ∈ subs D) (hA : A ∈ subs (G - D)) :
    B ∈ subs 7 ∧ A ∈ subs 7 ∧ A ∈ subs (7 - B) ∧ 7 - B - A = 7 - (A ||| B) ∧ (A ||| B) ∈ subs 7 ∧ (G - D - A) ∈ subs (7 - B - A) := by
  have h1 := all3 (p := fun G D B => !(D &&& G == D) || !(B &&& D == B) || ((G - D) &&& (7 - B) == G - D)) (by decide) hG (subs_lt hD) (subs_lt hB)
  simp [subs_and hD, subs_and hB] at h1
  have hP : G - D < 8 := Nat.lt_of_le_of_lt (Nat.sub_le _ _) hG
  have h2 := all3 (p := fun P A B => !(P &&& (7 - B) == P) || !(A &&& P == A) || (A &&& (7 - B) == A && 7 - B - A == 7 - (A ||| B) && (P - A) &&& (7 - B - A) == P - A && decide (A ||| B < 8) && decide (P - A < 8))) (by decide) hP (subs_lt hA) (subs_lt hB)
  simp [h1, subs_and hA] at h2
  obtain ⟨⟨⟨⟨e1, e2⟩, e3⟩, e4⟩, e5⟩ := h2
  exact ⟨in7 (subs_lt hB), in7 (subs_lt hA), by simp [subs, subs_lt hA, e1], e2, in7 e4, by simp [subs, e5]; exact e3⟩

end Go.Proofs.Ytpildecpabeanaa

/-
  Chapter 9, plain: the bidders of a set, what all things are worth to them, and more of them.
-/
namespace Go.Proofs.Ytpildecpabeanaa

/-- The tables of the bidders in a set. -/
def ch : List (List Int) → Nat → List (List Int)
  | [], _ => []
  | t :: ts, S => if S % 2 = 1 then t :: ch ts (S / 2) else ch ts (S / 2)
theorem ch_sub : ∀ (ts : List (List Int)) (S : Nat), (ch ts S).Sublist ts
  | [], _ => List.Sublist.refl _
  | t :: ts, S => by
    simp only [ch]
    split
    · exact (ch_sub ts _).cons_cons t
    · exact (ch_sub ts _).cons t
theorem ch_mem {ts : List (List Int)} {S : Nat} {t : List Int} (h : t ∈ ch ts S) : t ∈ ts := (ch_sub ts S).mem h
theorem ch_len (ts : List (List Int)) (S : Nat) : (ch ts S).length ≤ ts.length := (ch_sub ts S).length_le
theorem ch_take : ∀ (ts : List (List Int)) (S k : Nat) {t : List Int}, ts[k]? = some t → ch (ts.take (k + 1)) S = if S / 2 ^ k % 2 = 1 then ch (ts.take k) S ++ [t] else ch (ts.take k) S
  | [], _, k, t, h => by simp at h
  | u :: ts, S, 0, t, h => by
    simp at h; subst h
    simp only [List.take_succ_cons, List.take_zero, ch, Nat.pow_zero, Nat.div_one, List.nil_append]
  | u :: ts, S, k + 1, t, h => by
    have ih := ch_take ts (S / 2) k (t := t) (by simpa using h)
    have e : S / 2 ^ (k + 1) = S / 2 / 2 ^ k := by rw [Nat.pow_succ, Nat.mul_comm, Nat.div_div_eq_div_mul]
    rw [List.take_succ_cons, List.take_succ_cons]
    simp only [ch, e]
    rw [ih]
    by_cases h1 : S % 2 = 1 <;> by_cases h2 : S / 2 / 2 ^ k % 2 = 1 <;> simp [h1, h2]
theorem ch_zero : ∀ ts : List (List Int), ch ts 0 = []
  | [] => rfl
  | t :: ts => by simp only [ch, Nat.zero_div]; rw [if_neg (by decide), ch_zero ts]
theorem ch_all : ∀ ts : List (List Int), ch ts (2 ^ ts.length - 1) = ts
  | [] => rfl
  | t :: ts => by
    have h1 : 2 ^ (t :: ts).length - 1 = 2 * (2 ^ ts.length - 1) + 1 := by
      have : 0 < 2 ^ ts.length := Nat.pow_pos (by omega)
      rw [List.length_cons, Nat.pow_succ]; omega
    rw [h1]
    simp only [ch]
    rw [if_pos (by omega), show (2 * (2 ^ ts.length - 1) + 1) / 2 = 2 ^ ts.length - 1 by omega, ch_all ts]
/-- Bits behind the bidders are not looked at. -/
theorem ch_mod : ∀ (ts : List (List Int)) (S : Nat), ch ts (S % 2 ^ ts.length) = ch ts S
  | [], _ => rfl
  | t :: ts, S => by
    have h1 : S % 2 ^ (t :: ts).length % 2 = S % 2 := by
      rw [List.length_cons, Nat.pow_succ, Nat.mul_comm]; rw [Nat.mod_mul]; omega
    have h2 : S % 2 ^ (t :: ts).length / 2 = S / 2 % 2 ^ ts.length := by
      rw [List.length_cons, Nat.pow_succ, Nat.mul_comm]; rw [Nat.mod_mul]; omega
    simp only [ch]
    rw [h1, h2, ch_mod ts]

/-- What all things are worth to the bidders in a set. -/
def ww (ts : List (List Int)) (S : Nat) : Int := sv (ch ts S) 7
theorem ww_zero (ts : List (List Int)) : ww ts 0 = 0 := by unfold ww; rw [ch_zero]; rfl
theorem ww_all (ts : List (List Int)) : ww ts (2 ^ ts.length - 1) = sv ts 7 := by unfold ww; rw [ch_all]
theorem ch_vt {ts : List (List Int)} (h : ∀ t ∈ ts, VT t) (S : Nat) : ∀ t ∈ ch ts S, VT t := fun t ht => h t (ch_mem ht)
theorem ww_bd {ts : List (List Int)} (h : ∀ t ∈ ts, VT t) (h4 : ts.length ≤ 4) (S : Nat) : 0 ≤ ww ts S ∧ ww ts S ≤ 120 := by
  have h1 := sv_bd (ch_vt h S) 7 (by omega)
  have h2 := ch_len ts S
  exact ⟨sv_nonneg _ _, by unfold ww; omega⟩

/-- The order of bidders does not matter. -/
theorem got_perm {l l' : List (List Int)} (h : l.Perm l') : ∀ {X : Nat} {v : Int}, X < 8 → Got l X v → Got l' X v := by
  induction h with
  | nil => intro X v _ h; exact h
  | cons t _ ih =>
    rintro X v hX ⟨s, hs, u, hu, rfl⟩
    exact ⟨s, hs, u, ih (sub_lt hX hs) hu, rfl⟩
  | swap t u l =>
    rintro X v hX ⟨s, hs, _, ⟨r, hr, y, hy, rfl⟩, rfl⟩
    obtain ⟨h1, h2, h3⟩ := sub_sub hX hs hr
    exact ⟨r, h1, _, ⟨s, h2, y, h3 ▸ hy, rfl⟩, by omega⟩
  | trans _ _ ih1 ih2 => intro X v hX h; exact ih2 hX (ih1 hX h)
theorem sv_perm {l l' : List (List Int)} (h : l.Perm l') (hz : ∀ t ∈ l, T t 0 = 0) : sv l 7 = sv l' 7 := by
  have hz' : ∀ t ∈ l', T t 0 = 0 := fun t ht => hz t (h.symm.subset ht)
  exact Int.le_antisymm (got_le (got_perm h (by omega) (got_sv hz 7))) (got_le (got_perm h.symm (by omega) (got_sv hz' 7)))
/-- One bidder more in a set. -/
theorem ch_more : ∀ (ts : List (List Int)) (S i : Nat), i < ts.length → S / 2 ^ i % 2 = 0 → (ch ts (S + 2 ^ i)).Perm (ch ts S ++ [ts.getD i []])
  | [], _, _, h, _ => by simp at h
  | t :: ts, S, 0, _, hb => by
    simp only [Nat.pow_zero, Nat.div_one] at hb
    simp only [ch, Nat.pow_zero]
    rw [if_pos (by omega), if_neg (by omega), show (S + 1) / 2 = S / 2 by omega]
    simp only [List.getD_cons_zero]
    exact (List.perm_append_comm (l₁ := [t]))
  | t :: ts, S, i + 1, h, hb => by
    have e : S / 2 ^ (i + 1) = S / 2 / 2 ^ i := by rw [Nat.pow_succ, Nat.mul_comm, Nat.div_div_eq_div_mul]
    rw [e] at hb
    have ih := ch_more ts (S / 2) i (by simpa using h) hb
    have e2 : (S + 2 ^ (i + 1)) / 2 = S / 2 + 2 ^ i := by rw [Nat.pow_succ]; omega
    have e3 : (S + 2 ^ (i + 1)) % 2 = S % 2 := by rw [Nat.pow_succ]; omega
    simp only [ch, e2, e3, List.getD_cons_succ]
    split
    · exact ih.cons t
    · exact ih
theorem ch_drop : ∀ (ts : List (List Int)) (S i : Nat), ts.length ≤ i → ch ts (S + 2 ^ i) = ch ts S := by
  intro ts S i h
  rw [← ch_mod ts (S + 2 ^ i), ← ch_mod ts S]
  congr 1
  obtain ⟨d, rfl⟩ := Nat.exists_eq_add_of_le h
  rw [Nat.pow_add, Nat.add_mul_mod_self_left]
/-- All but one. -/
theorem ch_but : ∀ (ts : List (List Int)) (i : Nat), i < ts.length → ch ts (2 ^ ts.length - 1 - 2 ^ i) = ts.eraseIdx i
  | [], _, h => by simp at h
  | t :: ts, 0, _ => by
    have h1 : 2 ^ (t :: ts).length - 1 - 2 ^ 0 = 2 * (2 ^ ts.length - 1) := by
      have : 0 < 2 ^ ts.length := Nat.pow_pos (by omega)
      rw [List.length_cons, Nat.pow_succ]; omega
    rw [h1]
    simp only [ch]
    rw [if_neg (by omega), show 2 * (2 ^ ts.length - 1) / 2 = 2 ^ ts.length - 1 by omega, ch_all ts]; rfl
  | t :: ts, i + 1, h => by
    have hi : i < ts.length := by simpa using h
    have h0 : 2 ^ i < 2 ^ ts.length := Nat.pow_lt_pow_right (by omega) hi
    have h1 : 2 ^ (t :: ts).length - 1 - 2 ^ (i + 1) = 2 * (2 ^ ts.length - 1 - 2 ^ i) + 1 := by
      rw [List.length_cons, Nat.pow_succ, Nat.pow_succ]; omega
    rw [h1]
    simp only [ch]
    rw [if_pos (by omega), show (2 * (2 ^ ts.length - 1 - 2 ^ i) + 1) / 2 = 2 ^ ts.length - 1 - 2 ^ i by omega, ch_but ts i hi]; rfl
theorem ww_but {ts : List (List Int)} {i : Nat} (h : i < ts.length) : ww ts (2 ^ ts.length - 1 - 2 ^ i) = sv (ts.eraseIdx i) 7 := by unfold ww; rw [ch_but ts i h]

/-- More bidders are worth no less. -/
theorem ww_more {ts : List (List Int)} (hz : ∀ t ∈ ts, T t 0 = 0) {S i : Nat} (hi : i < ts.length) (hb : S / 2 ^ i % 2 = 0) : ww ts S ≤ ww ts (S + 2 ^ i) := by
  unfold ww
  have hp := ch_more ts S i hi hb
  rw [sv_perm hp (fun t ht => hz t (ch_mem ht))]
  exact sv_last (fun t ht => hz t (ch_mem ht)) (hz _ (getD_mem hi)) (by omega)

/-- Two bidders more, where things may be moved: together they add no more than one by one. -/
theorem ww_two {ts : List (List Int)} (h : ∀ t ∈ ts, VT t ∧ Mo (T t)) {S i j : Nat} (hi : S / 2 ^ i % 2 = 0) (hj : (S + 2 ^ i) / 2 ^ j % 2 = 0) (hj2 : S / 2 ^ j % 2 = 0) :
    ww ts (S + 2 ^ i + 2 ^ j) + ww ts S ≤ ww ts (S + 2 ^ i) + ww ts (S + 2 ^ j) := by
  rcases Nat.lt_or_ge i ts.length with h1 | h1
  · rcases Nat.lt_or_ge j ts.length with h2 | h2
    · have hz : ∀ t ∈ ts, T t 0 = 0 := fun t ht => (h t ht).1.2.1
      have p1 := ch_more ts S i h1 hi
      have p2 := ch_more ts (S + 2 ^ i) j h2 hj
      have p3 := ch_more ts S j h2 hj2
      have p4 : (ch ts (S + 2 ^ i + 2 ^ j)).Perm ((ch ts S ++ [ts.getD i []]) ++ [ts.getD j []]) := p2.trans (p1.append_right _)
      unfold ww
      rw [sv_perm p1 (fun t ht => hz t (ch_mem ht)), sv_perm p3 (fun t ht => hz t (ch_mem ht)), sv_perm p4 (fun t ht => hz t (ch_mem ht))]
      have hm : ∀ t ∈ (ch ts S ++ [ts.getD i []]) ++ [ts.getD j []], VT t ∧ Mo (T t) := fun t ht => by
        rcases List.mem_append.1 ht with ht | ht
        · rcases List.mem_append.1 ht with ht | ht
          · exact h t (ch_mem ht)
          · rw [List.mem_singleton.1 ht]; exact h _ (getD_mem h1)
        · rw [List.mem_singleton.1 ht]; exact h _ (getD_mem h2)
      have hl := sv_less hm (i := (ch ts S).length) (by simp)
      have he : (ch ts S ++ [ts.getD i []]).eraseIdx (ch ts S).length = ch ts S := erase_last
      rw [he] at hl
      omega
    · have e1 : ch ts (S + 2 ^ i + 2 ^ j) = ch ts (S + 2 ^ i) := ch_drop ts _ j h2
      have e2 : ch ts (S + 2 ^ j) = ch ts S := ch_drop ts _ j h2
      unfold ww; rw [e1, e2]; omega
  · have e1 : ch ts (S + 2 ^ i) = ch ts S := ch_drop ts _ i h1
    have e2 : ch ts (S + 2 ^ i + 2 ^ j) = ch ts (S + 2 ^ j) := by
      rw [show S + 2 ^ i + 2 ^ j = S + 2 ^ j + 2 ^ i by omega]; exact ch_drop ts _ i h1
    unfold ww; rw [e1, e2]; omega

end Go.Proofs.Ytpildecpabeanaa

/-
  Chapter 9, plain: sets of bidders that add less to more, the core, and the pivots in it.
-/
namespace Go.Proofs.Ytpildecpabeanaa

/-- More bidders add less to more. -/
def Nes (f : Nat → Int) (n : Nat) : Prop := ∀ a, a < 2 ^ n → ∀ b, b < 2 ^ n → f (a ||| b) + f (a &&& b) ≤ f a + f b

/-- Two one by one. -/
def Two (f : Nat → Int) : Prop := ∀ S i j, S / 2 ^ i % 2 = 0 → (S + 2 ^ i) / 2 ^ j % 2 = 0 → S / 2 ^ j % 2 = 0 → f (S + 2 ^ i + 2 ^ j) + f S ≤ f (S + 2 ^ i) + f (S + 2 ^ j)

/-- The set a with the things of b below k. -/
def mxS (a b k : Nat) : Nat := a ||| (b % 2 ^ k)
set_option maxRecDepth 100000 in
theorem mxS_step : ∀ a, a < 16 → ∀ b, b < 16 → ∀ k, k < 4 → (mxS a b (k + 1) = mxS a b k ∨ (mxS a b (k + 1) = mxS a b k + 2 ^ k ∧ mxS a b k / 2 ^ k % 2 = 0 ∧ b / 2 ^ k % 2 = 1 ∧ a / 2 ^ k % 2 = 0)) := by decide +kernel
theorem mxS_zero (a b : Nat) : mxS a b 0 = a := by simp [mxS, Nat.mod_one]
set_option maxRecDepth 100000 in
theorem mxS_four : ∀ a, a < 16 → ∀ b, b < 16 → mxS a b 4 = a ||| b := by decide +kernel
set_option maxRecDepth 100000 in
theorem mxS_off0 : ∀ a, a < 16 → ∀ b, b < 16 → ∀ c, c < 20 → (¬ (a / 2 ^ (c % 4) % 2 = 0 ∧ b / 2 ^ (c % 4) % 2 = 0) ∨ mxS a b (c / 4) / 2 ^ (c % 4) % 2 = 0) := by decide +kernel
theorem mxS_off (a : Nat) (ha : a < 16) (b : Nat) (hb : b < 16) (k : Nat) (hk : k < 5) (i : Nat) (hi : i < 4) : ¬ (a / 2 ^ i % 2 = 0 ∧ b / 2 ^ i % 2 = 0) ∨ mxS a b k / 2 ^ i % 2 = 0 := by
  have := mxS_off0 a ha b hb (k * 4 + i) (by omega)
  rwa [show (k * 4 + i) % 4 = i by omega, show (k * 4 + i) / 4 = k by omega] at this
set_option maxRecDepth 100000 in
theorem two_off : ∀ i, i < 4 → ∀ k, k < 4 → ∀ S, S < 16 → (¬ (i ≠ k ∧ S / 2 ^ i % 2 = 0 ∧ S / 2 ^ k % 2 = 0) ∨ (S + 2 ^ k) / 2 ^ i % 2 = 0) := by decide +kernel
set_option maxRecDepth 100000 in
theorem mxS_lt : ∀ a, a < 16 → ∀ b, b < 16 → ∀ k, k < 5 → mxS a b k < 16 := by decide +kernel
/-- What one adds, to less and to more. -/
theorem add_less {f : Nat → Int} (h : Two f) {a b i : Nat} (ha : a < 16) (hb : b < 16) (hi : i < 4) (za : a / 2 ^ i % 2 = 0) (zb : b / 2 ^ i % 2 = 0) : f ((a ||| b) + 2 ^ i) + f a ≤ f (a ||| b) + f (a + 2 ^ i) := by
  have key : ∀ k, k ≤ 4 → f (mxS a b k + 2 ^ i) + f a ≤ f (mxS a b k) + f (a + 2 ^ i) := by
    intro k
    induction k with
    | zero => intro _; rw [mxS_zero]; omega
    | succ k ih =>
      intro hk
      have ih := ih (by omega)
      rcases mxS_step a ha b hb k (by omega) with e | ⟨e, e1, e2, e3⟩
      · rw [e]; exact ih
      · have hne : i ≠ k := by rintro rfl; omega
        have o1 := (mxS_off a ha b hb k (by omega) i hi).resolve_left (fun h => h ⟨za, zb⟩)
        have o2 := (two_off i hi k (by omega) _ (mxS_lt a ha b hb k (by omega))).resolve_left (fun h => h ⟨hne, o1, e1⟩)
        have t := h (mxS a b k) k i e1 o2 o1
        rw [e]; omega
  have := key 4 (by omega)
  rwa [mxS_four a ha b hb] at this
set_option maxRecDepth 100000 in
theorem bits_in : ∀ a, a < 16 → ∀ b, b < 16 → ∀ k, k < 5 → a ||| mxS (a &&& b) b k = mxS a b k ∧ mxS (a &&& b) b k < 16 := by decide +kernel
set_option maxRecDepth 100000 in
theorem mxS_both : ∀ a, a < 16 → ∀ b, b < 16 → ∀ k, k < 4 → (¬ (a / 2 ^ k % 2 = 0 ∧ b / 2 ^ k % 2 = 1) ∨ (mxS (a &&& b) b (k + 1) = mxS (a &&& b) b k + 2 ^ k ∧ mxS (a &&& b) b k / 2 ^ k % 2 = 0 ∧ mxS (a &&& b) b k ||| mxS a b k = mxS a b k)) := by decide +kernel
set_option maxRecDepth 100000 in
theorem mxS_same : ∀ a, a < 16 → ∀ b, b < 16 → ∀ k, k < 4 → ¬ (a / 2 ^ k % 2 = 0 ∧ b / 2 ^ k % 2 = 1) → mxS (a &&& b) b (k + 1) = mxS (a &&& b) b k ∧ mxS a b (k + 1) = mxS a b k := by decide +kernel
set_option maxRecDepth 100000 in
theorem mxS_end : ∀ a, a < 16 → ∀ b, b < 16 → mxS (a &&& b) b 4 = b := by decide +kernel
theorem nes_of {f : Nat → Int} (h : Two f) {n : Nat} (hn : n ≤ 4) : Nes f n := by
  intro a ha b hb
  have h16 : 2 ^ n ≤ 16 := Nat.pow_le_pow_right (n := 2) (by omega) hn
  have ha : a < 16 := by omega
  have hb : b < 16 := by omega
  have key : ∀ k, k ≤ 4 → f (mxS a b k) + f (a &&& b) ≤ f a + f (mxS (a &&& b) b k) := by
    intro k
    induction k with
    | zero => intro _; rw [mxS_zero, mxS_zero]; omega
    | succ k ih =>
      intro hk
      have ih := ih (by omega)
      by_cases hc : a / 2 ^ k % 2 = 0 ∧ b / 2 ^ k % 2 = 1
      · obtain ⟨e1, e2, e3⟩ := (mxS_both a ha b hb k (by omega)).resolve_left (fun h => h hc)
        rcases mxS_step a ha b hb k (by omega) with e | ⟨e, q1, _, _⟩
        · exfalso
          have := mxS_step a ha b hb k (by omega)
          have hx : ∀ a, a < 16 → ∀ b, b < 16 → ∀ k, k < 4 → (¬ (a / 2 ^ k % 2 = 0 ∧ b / 2 ^ k % 2 = 1) ∨ ¬ mxS a b (k + 1) = mxS a b k) := by decide +kernel
          exact (hx a ha b hb k (by omega)).resolve_left (fun h => h hc) e
        · have t := add_less h (bits_in a ha b hb k (by omega)).2 (mxS_lt a ha b hb k (by omega)) (by omega : k < 4) e2 q1
          rw [e3] at t
          rw [e, e1]; omega
      · obtain ⟨e1, e2⟩ := mxS_same a ha b hb k (by omega) hc
        rw [e1, e2]; exact ih
  have := key 4 (by omega)
  rw [mxS_four a ha b hb, mxS_end a ha b hb] at this
  omega
/-- Where things may be moved more bidders add less to more. -/
theorem nes_ww {ts : List (List Int)} (h : ∀ t ∈ ts, VT t ∧ Mo (T t)) (h4 : ts.length ≤ 4) : Nes (ww ts) ts.length :=
  nes_of (fun _ _ _ h1 h2 h3 => ww_two h h1 h2 h3) h4

/-- What the bidders of a set have and the others pay, of the first k. -/
def hv (o p : Nat → Int) (S : Nat) : Nat → Int
  | 0 => 0
  | k + 1 => hv o p S k + (if S / 2 ^ k % 2 = 1 then o k else p k)
/-- The sum of the first k. -/
def smF (p : Nat → Int) : Nat → Int
  | 0 => 0
  | k + 1 => smF p k + p k
theorem hv_zero (o p : Nat → Int) : ∀ k, hv o p 0 k = smF p k
  | 0 => rfl
  | k + 1 => by simp only [hv, smF, hv_zero o p k, Nat.zero_div]; rw [if_neg (by decide)]
theorem hv_same (o : Nat → Int) (S : Nat) : ∀ k, hv o o S k = smF o k
  | 0 => rfl
  | k + 1 => by simp only [hv, smF, hv_same o S k]; split <;> rfl
theorem hv_congr {o o' p p' : Nat → Int} {S : Nat} : ∀ {k : Nat}, (∀ i, i < k → o i = o' i) → (∀ i, i < k → p i = p' i) → hv o p S k = hv o' p' S k
  | 0, _, _ => rfl
  | k + 1, h1, h2 => by
    simp only [hv, hv_congr (k := k) (fun i hi => h1 i (by omega)) (fun i hi => h2 i (by omega)), h1 k (by omega), h2 k (by omega)]
theorem smF_congr {p p' : Nat → Int} : ∀ {k : Nat}, (∀ i, i < k → p i = p' i) → smF p k = smF p' k
  | 0, _ => rfl
  | k + 1, h => by simp only [smF, smF_congr (k := k) (fun i hi => h i (by omega)), h k (by omega)]
theorem smF_le {p p' : Nat → Int} : ∀ {k : Nat}, (∀ i, i < k → p i ≤ p' i) → smF p k ≤ smF p' k
  | 0, _ => by simp [smF]
  | k + 1, h => by
    have := smF_le (k := k) (fun i hi => h i (by omega))
    have := h k (by omega)
    simp only [smF]; omega
theorem smF_eq {p p' : Nat → Int} : ∀ {k : Nat}, (∀ i, i < k → p i ≤ p' i) → smF p' k ≤ smF p k → ∀ i, i < k → p i = p' i
  | 0, _, _, i, hi => by omega
  | k + 1, h, hs, i, hi => by
    have h1 := smF_le (k := k) (fun i hi => h i (by omega))
    have h2 := h k (by omega)
    simp only [smF] at hs
    rcases Nat.lt_or_ge i k with hk | hk
    · exact smF_eq (k := k) (fun i hi => h i (by omega)) (by omega) i hk
    · have : i = k := by omega
      subst this; omega
theorem smF_bd {p : Nat → Int} {M : Int} : ∀ {k : Nat}, (∀ i, i < k → 0 ≤ p i ∧ p i ≤ M) → 0 ≤ smF p k ∧ smF p k ≤ M * k
  | 0, _ => by simp [smF]
  | k + 1, h => by
    have h1 := smF_bd (k := k) (fun i hi => h i (by omega))
    have h2 := h k (by omega)
    simp only [smF]
    rw [show M * ((k + 1 : Nat) : Int) = M * k + M by rw [Int.natCast_add, Int.mul_add]; simp]
    omega
theorem hv_bd {o p : Nat → Int} {M : Int} (S : Nat) : ∀ {k : Nat}, (∀ i, i < k → 0 ≤ o i ∧ o i ≤ M) → (∀ i, i < k → 0 ≤ p i ∧ p i ≤ M) → 0 ≤ hv o p S k ∧ hv o p S k ≤ M * k
  | 0, _, _ => by simp [hv]
  | k + 1, h, g => by
    have h1 := hv_bd S (k := k) (fun i hi => h i (by omega)) (fun i hi => g i (by omega))
    have h2 := h k (by omega)
    have h3 := g k (by omega)
    simp only [hv]
    rw [show M * ((k + 1 : Nat) : Int) = M * k + M by rw [Int.natCast_add, Int.mul_add]; simp]
    split <;> omega
set_option maxRecDepth 100000 in
theorem but_bits : ∀ n, n < 5 → ∀ i, i < n → ∀ k, k < n → ((2 ^ n - 1 - 2 ^ i) / 2 ^ k % 2 = if k = i then 0 else 1) ∧ 2 ^ n - 1 - 2 ^ i < 2 ^ n := by decide +kernel
theorem hv_but (o p : Nat → Int) {n i : Nat} (hn : n ≤ 4) (hi : i < n) : ∀ k, k ≤ n → hv o p (2 ^ n - 1 - 2 ^ i) k = smF o k + (if i < k then p i - o i else 0)
  | 0, _ => by simp [hv, smF]
  | k + 1, hk => by
    have ih := hv_but o p hn hi k (by omega)
    have hb := (but_bits n (by omega) i hi k (by omega)).1
    simp only [hv, smF, ih, hb]
    by_cases h1 : k = i
    · subst h1
      simp; omega
    · rw [if_neg h1, if_pos rfl]
      by_cases h2 : i < k
      · rw [if_pos h2, if_pos (by omega)]; omega
      · rw [if_neg h2, if_neg (by omega)]; omega

/-- What bidder i has of the best split. -/
noncomputable def ow (ts : List (List Int)) (i : Nat) : Int := T (ts.getD i []) (setOf (wayF ts) i)
theorem ow_sum {ts : List (List Int)} (hv : ∀ t ∈ ts, VT t) (hn : ts.length ≤ 4) : smF (ow ts) ts.length = sv ts 7 := by
  have h := hasTo_is (ts := ts) (wayF ts) ts.length (Nat.le_refl _)
  rw [List.take_length, wayF_worth (VTs.zeros hv) hn] at h
  rw [← h]
  have : ∀ k, smF (ow ts) k = hasTo ts (wayF ts) k := by
    intro k
    induction k with
    | zero => rfl
    | succ k ih => simp only [smF, hasTo, ih]; rfl
  exact this _
theorem ow_bd {ts : List (List Int)} (hv : ∀ t ∈ ts, VT t) {i : Nat} (h : i < ts.length) : 0 ≤ ow ts i ∧ ow ts i ≤ 30 := (hv _ (getD_mem h)).bd (setOf_lt (wayF ts) i)

/-- Payments in the core. -/
def InC (ts : List (List Int)) (p : Nat → Int) : Prop := (∀ i, i < ts.length → p i ≤ ow ts i) ∧ ∀ S, S < 2 ^ ts.length → ww ts S ≤ hv (ow ts) p S ts.length
theorem InC.congr {ts : List (List Int)} {p q : Nat → Int} (h : ∀ i, i < ts.length → p i = q i) (hp : InC ts p) : InC ts q :=
  ⟨fun i hi => by rw [← h i hi]; exact hp.1 i hi, fun S hS => by rw [← hv_congr (fun _ _ => rfl) h]; exact hp.2 S hS⟩

theorem got_sublist {l l' : List (List Int)} (h : l.Sublist l') : (∀ t ∈ l', T t 0 = 0) → ∀ {X : Nat} {v : Int}, Got l X v → Got l' X v := by
  induction h with
  | slnil => intro _ X v h; exact h
  | cons t _ ih =>
    intro hz X v h
    exact ⟨0, sub_zero X, v, by simpa using ih (fun t ht => hz t (List.mem_cons_of_mem _ ht)) h, by rw [hz t (by simp)]; omega⟩
  | cons_cons t _ ih =>
    rintro hz X v ⟨s, hs, u, hu, rfl⟩
    exact ⟨s, hs, u, ih (fun t ht => hz t (List.mem_cons_of_mem _ ht)) hu, rfl⟩
theorem ww_le {ts : List (List Int)} (hz : ∀ t ∈ ts, T t 0 = 0) (S : Nat) : ww ts S ≤ sv ts 7 :=
  got_le (got_sublist (ch_sub ts S) hz (got_sv (fun t ht => hz t (ch_mem ht)) 7))
/-- In the core all pay at least their pivots. -/
theorem inC_pivots {ts : List (List Int)} {p : Nat → Int} (hv : ∀ t ∈ ts, VT t) (hn : ts.length ≤ 4) (h : InC ts p) {i : Nat} (hi : i < ts.length) : pvF ts i ≤ p i := by
  have h1 := h.2 (2 ^ ts.length - 1 - 2 ^ i) (but_bits ts.length (by omega) i hi 0 (by omega)).2
  rw [ww_but hi, hv_but _ _ hn hi _ (Nat.le_refl _), if_pos hi, ow_sum hv hn] at h1
  unfold pvF
  rw [wayF_worth (VTs.zeros hv) hn]
  unfold ow at h1
  omega
/-- What the own sets are worth is in the core. -/
theorem inC_own {ts : List (List Int)} (hv : ∀ t ∈ ts, VT t) (hn : ts.length ≤ 4) : InC ts (ow ts) :=
  ⟨fun i _ => Int.le_refl _, fun S _ => by rw [hv_same, ow_sum hv hn]; exact ww_le (VTs.zeros hv) S⟩

/-- The set S with all from k on. -/
def rsS (n S k : Nat) : Nat := S % 2 ^ k + (2 ^ n - 2 ^ k)
set_option maxRecDepth 100000 in
theorem rsS_step : ∀ n, n < 5 → ∀ S, S < 2 ^ n → ∀ k, k < n → (if S / 2 ^ k % 2 = 1 then rsS n S (k + 1) = rsS n S k else
    rsS n S k ||| (2 ^ n - 1 - 2 ^ k) = 2 ^ n - 1 ∧ rsS n S k &&& (2 ^ n - 1 - 2 ^ k) = rsS n S (k + 1)) ∧ rsS n S k < 2 ^ n := by decide +kernel
/-- Where more bidders add less to more the pivots are in the core. -/
theorem nes_pivots {ts : List (List Int)} (hv : ∀ t ∈ ts, VT t) (hn : ts.length ≤ 4) (h : Nes (ww ts) ts.length) : InC ts (pvF ts) := by
  refine ⟨fun i hi => pv_le hv hn hi, fun S hS => ?_⟩
  have key : ∀ k, k ≤ ts.length → ww ts (rsS ts.length S k) ≤ sv ts 7 - smF (ow ts) k + Go.Proofs.Ytpildecpabeanaa.hv (ow ts) (pvF ts) S k := by
    intro k
    induction k with
    | zero =>
      intro _
      have e : rsS ts.length S 0 = 2 ^ ts.length - 1 := by simp [rsS, Nat.mod_one]
      rw [e, ww_all]; simp [smF, Go.Proofs.Ytpildecpabeanaa.hv]
    | succ k ih =>
      intro hk
      have ih := ih (by omega)
      obtain ⟨h1, h2⟩ := rsS_step ts.length (by omega) S hS k (by omega)
      simp only [smF, Go.Proofs.Ytpildecpabeanaa.hv]
      by_cases hb : S / 2 ^ k % 2 = 1
      · rw [if_pos hb] at h1 ⊢
        rw [h1]; omega
      · rw [if_neg hb] at h1 ⊢
        have h3 := h _ h2 (2 ^ ts.length - 1 - 2 ^ k) (but_bits ts.length (by omega) k (by omega) 0 (by omega)).2
        rw [h1.1, h1.2, ww_all, ww_but (by omega)] at h3
        have h4 := truth_has hv hn k
        unfold adF at h4
        have h5 : ow ts k = T (ts.getD k []) (setOf (wayF ts) k) := rfl
        omega
  have h1 := key ts.length (Nat.le_refl _)
  have e : rsS ts.length S ts.length = S := by simp [rsS, Nat.mod_eq_of_lt hS]
  rw [e, ow_sum hv hn] at h1
  omega

end Go.Proofs.Ytpildecpabeanaa
