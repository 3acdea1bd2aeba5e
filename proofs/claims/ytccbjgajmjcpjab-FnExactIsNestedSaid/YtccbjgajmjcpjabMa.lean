/-
  Chapter 6, plain: more bidders pay more, and two names are no better, where things may be moved.
-/
import Derived.Test.YtccbjgajmjcpjabZa
import Derived.Test.YtccbjgajmjcpjabJb
namespace Go.Proofs.Ytccbjgajmjcpjab

/-- What is had goes to one bidder, and the rest to the others. -/
theorem got_pick {ts : List (List Int)} : ∀ (i X : Nat) (v : Int), X < 8 → i < ts.length → (Got ts X v ↔ ∃ s, s ∈ subs X ∧ ∃ u, Got (ts.eraseIdx i) (X - s) u ∧ v = T (ts.getD i []) s + u) := by
  induction ts with
  | nil => intro i X v _ h; simp at h
  | cons t ts ih =>
    intro i X v hX h
    cases i with
    | zero => simp only [List.eraseIdx_zero, List.tail_cons, List.getD_cons_zero, Got]
    | succ i =>
      simp only [List.eraseIdx_cons_succ, List.getD_cons_succ, Got]
      have hi : i < ts.length := by simpa using h
      constructor
      · rintro ⟨s, hs, u, hu, rfl⟩
        obtain ⟨r, hr, u', hu', rfl⟩ := (ih i (X - s) u (sub_lt hX hs) hi).1 hu
        obtain ⟨h1, h2, h3⟩ := sub_sub hX hs hr
        exact ⟨r, h1, T t s + u', ⟨s, h2, u', h3 ▸ hu', rfl⟩, by omega⟩
      · rintro ⟨r, hr, w, ⟨s, hs, u', hu', rfl⟩, rfl⟩
        obtain ⟨h1, h2, h3⟩ := sub_sub hX hr hs
        exact ⟨s, h1, T (ts.getD i []) r + u', (ih i (X - s) _ (sub_lt hX h1) hi).2 ⟨r, h2, u', h3 ▸ hu', rfl⟩, by omega⟩
/-- Both rests together are no less than the rest of both and all. -/
theorem mo_rests {S : Nat → Int} (A : Mo S) {r s : Nat} (hr : r ∈ subs 7) (hs : s ∈ subs (7 - r)) : S (7 - r - s) + S 7 ≤ S (7 - r) + S (7 - s) := by
  obtain ⟨z, m3, m5, m6, m71, m72, m74, n1, n2, n4, _, _, _⟩ := A
  have hr8 := subs_lt hr
  have hs8 := subs_lt hs
  have ha := subs_and hs
  rcases nat8 hr8 with rfl | rfl | rfl | rfl | rfl | rfl | rfl | rfl <;> rcases nat8 hs8 with rfl | rfl | rfl | rfl | rfl | rfl | rfl | rfl <;>
    first
    | (exfalso; revert ha; decide)
    | (simp only [Nat.sub_zero, Nat.sub_self, Nat.reduceSub]; omega)
/-- One bidder more brings less where there is another one more. -/
theorem sv_less {ts : List (List Int)} {b : List Int} (h : ∀ t ∈ ts ++ [b], VT t ∧ Mo (T t)) {i : Nat} (hi : i < ts.length) :
    sv (ts ++ [b]) 7 + sv (ts.eraseIdx i) 7 ≤ sv (ts.eraseIdx i ++ [b]) 7 + sv ts 7 := by
  have hz : ∀ t ∈ ts ++ [b], T t 0 = 0 := fun t ht => (h t ht).1.2.1
  have ho : ∀ t ∈ ts.eraseIdx i, VT t ∧ Mo (T t) := fun t ht => h t (List.mem_append.2 (.inl (mem_erase ht)))
  have A := sv_mo ho
  obtain ⟨r, hr, u, hu, e1⟩ := (got_snoc (by omega)).1 (got_sv hz 7)
  obtain ⟨s, hs, u', hu', e2⟩ := (got_pick i (7 - r) u (sub_lt (by omega) hr) hi).1 hu
  have h1 := got_le hu'
  have hsr := sub_sub (by omega) hr hs
  have h2 : sv (ts.eraseIdx i) (7 - r) + T b r ≤ sv (ts.eraseIdx i ++ [b]) 7 := got_le ((got_snoc (by omega)).2 ⟨r, hr, _, got_sv (fun t ht => (ho t ht).1.2.1) _, rfl⟩)
  have h3 : T (ts.getD i []) s + sv (ts.eraseIdx i) (7 - s) ≤ sv ts 7 := got_le ((got_pick i 7 _ (by omega) hi).2 ⟨s, hsr.1, _, got_sv (fun t ht => (ho t ht).1.2.1) _, rfl⟩)
  have h4 := mo_rests A hr hs
  omega

/-- The sum of what the others have without each of the first k. -/
def outTo (ts : List (List Int)) : Nat → Int
  | 0 => 0
  | k + 1 => outTo ts k + sv (ts.eraseIdx k) 7
theorem paid_out (ts : List (List Int)) : ∀ k, paidTo ts k = outTo ts k - (k : Int) * worthF ts (wayF ts) + hasTo ts (wayF ts) k
  | 0 => by simp [paidTo, outTo, hasTo]
  | k + 1 => by
    have := paid_out ts k
    simp only [paidTo, outTo, hasTo, pvF]
    have e : ((k + 1 : Nat) : Int) * worthF ts (wayF ts) = (k : Int) * worthF ts (wayF ts) + worthF ts (wayF ts) := by rw [Int.natCast_add, Int.add_mul]; simp
    rw [e]
    omega
theorem erase_snoc {ts : List (List Int)} {b : List Int} {i : Nat} (hi : i < ts.length) : (ts ++ [b]).eraseIdx i = ts.eraseIdx i ++ [b] := List.eraseIdx_append_of_lt_length hi _
theorem erase_last {ts : List (List Int)} {b : List Int} : (ts ++ [b]).eraseIdx ts.length = ts := by
  rw [List.eraseIdx_append_of_length_le (Nat.le_refl _)]; simp
theorem out_snoc {ts : List (List Int)} {b : List Int} : ∀ k, k ≤ ts.length → (∀ t ∈ ts ++ [b], VT t ∧ Mo (T t)) → outTo ts k + (k : Int) * sv (ts ++ [b]) 7 ≤ outTo (ts ++ [b]) k + (k : Int) * sv ts 7
  | 0, _, _ => by simp [outTo]
  | k + 1, hk, h => by
    have ih := out_snoc k (by omega) h
    have h1 := sv_less h (i := k) hk
    simp only [outTo]
    rw [erase_snoc hk]
    have e1 : ((k + 1 : Nat) : Int) * sv (ts ++ [b]) 7 = (k : Int) * sv (ts ++ [b]) 7 + sv (ts ++ [b]) 7 := by rw [Int.natCast_add, Int.add_mul]; simp
    have e2 : ((k + 1 : Nat) : Int) * sv ts 7 = (k : Int) * sv ts 7 + sv ts 7 := by rw [Int.natCast_add, Int.add_mul]; simp
    rw [e1, e2]
    omega

/-- More bidders pay more. -/
theorem paid_more {ts : List (List Int)} {b : List Int} (hn : ts.length + 1 ≤ 4) (h : ∀ t ∈ ts ++ [b], VT t ∧ Mo (T t)) : paidTo ts ts.length ≤ paidTo (ts ++ [b]) (ts ++ [b]).length := by
  have hz : ∀ t ∈ ts ++ [b], T t 0 = 0 := fun t ht => (h t ht).1.2.1
  have hz' : ∀ t ∈ ts, T t 0 = 0 := fun t ht => hz t (List.mem_append.2 (.inl ht))
  have hl : (ts ++ [b]).length = ts.length + 1 := by simp
  have w1 := wayF_worth hz' (by omega)
  have w2 := wayF_worth hz (by rw [hl]; exact hn)
  have p1 := paid_out ts ts.length
  have p2 := paid_out (ts ++ [b]) (ts ++ [b]).length
  rw [hasTo_is _ _ (Nat.le_refl _), List.take_length, w1] at p1
  rw [hasTo_is _ _ (Nat.le_refl _), List.take_length, w2] at p2
  have o := out_snoc ts.length (Nat.le_refl _) h
  have e : outTo (ts ++ [b]) (ts ++ [b]).length = outTo (ts ++ [b]) ts.length + sv ts 7 := by
    rw [hl]
    simp only [outTo]
    rw [erase_last]
  rw [e] at p2
  have e2 : (((ts ++ [b]).length : Nat) : Int) * sv (ts ++ [b]) 7 = (ts.length : Int) * sv (ts ++ [b]) 7 + sv (ts ++ [b]) 7 := by rw [hl, Int.natCast_add, Int.add_mul]; simp
  rw [e2] at p2
  rw [p1, p2]
  omega

/-- The set of a bidder is among the things that go to this and later ones. -/
theorem skn_in {x y z k i : Int} (h : k ≤ i) : skn x y z i ∈ subs (ge k x y z) := by
  unfold skn ge
  have ex : (x = i ∧ k ≤ x) ∨ (¬ x = i ∧ k ≤ x) ∨ (¬ x = i ∧ ¬ k ≤ x) := by omega
  have ey : (y = i ∧ k ≤ y) ∨ (¬ y = i ∧ k ≤ y) ∨ (¬ y = i ∧ ¬ k ≤ y) := by omega
  have ez : (z = i ∧ k ≤ z) ∨ (¬ z = i ∧ k ≤ z) ∨ (¬ z = i ∧ ¬ k ≤ z) := by omega
  rcases ex with ⟨a1, b1⟩ | ⟨a1, b1⟩ | ⟨a1, b1⟩ <;> rcases ey with ⟨a2, b2⟩ | ⟨a2, b2⟩ | ⟨a2, b2⟩ <;> rcases ez with ⟨a3, b3⟩ | ⟨a3, b3⟩ | ⟨a3, b3⟩ <;>
    ((first | rw [if_pos a1] | rw [if_neg a1]); (first | rw [if_pos b1] | rw [if_neg b1]); (first | rw [if_pos a2] | rw [if_neg a2]); (first | rw [if_pos b2] | rw [if_neg b2]); (first | rw [if_pos a3] | rw [if_neg a3]); (first | rw [if_pos b3] | rw [if_neg b3]); decide)
theorem ge_in {x y z k i : Int} (h : k ≤ i) : ge i x y z ∈ subs (ge k x y z) := by
  unfold ge
  have ex : (i ≤ x ∧ k ≤ x) ∨ (¬ i ≤ x ∧ k ≤ x) ∨ (¬ i ≤ x ∧ ¬ k ≤ x) := by omega
  have ey : (i ≤ y ∧ k ≤ y) ∨ (¬ i ≤ y ∧ k ≤ y) ∨ (¬ i ≤ y ∧ ¬ k ≤ y) := by omega
  have ez : (i ≤ z ∧ k ≤ z) ∨ (¬ i ≤ z ∧ k ≤ z) ∨ (¬ i ≤ z ∧ ¬ k ≤ z) := by omega
  rcases ex with ⟨a1, b1⟩ | ⟨a1, b1⟩ | ⟨a1, b1⟩ <;> rcases ey with ⟨a2, b2⟩ | ⟨a2, b2⟩ | ⟨a2, b2⟩ <;> rcases ez with ⟨a3, b3⟩ | ⟨a3, b3⟩ | ⟨a3, b3⟩ <;>
    ((first | rw [if_pos a1] | rw [if_neg a1]); (first | rw [if_pos b1] | rw [if_neg b1]); (first | rw [if_pos a2] | rw [if_neg a2]); (first | rw [if_pos b2] | rw [if_neg b2]); (first | rw [if_pos a3] | rw [if_neg a3]); (first | rw [if_pos b3] | rw [if_neg b3]); decide)
/-- What the first bidders have is no more than what goes to them. -/
theorem got_first (x y z : Int) : ∀ (ts : List (List Int)) (k : Int), Got ts (ge k x y z - ge (k + ts.length) x y z) (wk ts k x y z)
  | [], k => rfl
  | t :: ts, k => by
    obtain ⟨h1, h2⟩ := ge_step k x y z
    have h3 := got_first x y z ts (k + 1)
    have e : k + ((t :: ts).length : Int) = k + 1 + (ts.length : Int) := by simp; omega
    rw [e]
    have h4 : ge (k + 1 + (ts.length : Int)) x y z ∈ subs (ge k x y z - skn x y z k) := by rw [h2]; exact ge_in (by omega)
    obtain ⟨_, q2, q3⟩ := sub_sub (ge_lt k x y z) h1 h4
    rw [h2] at q3
    exact ⟨_, q2, _, by rw [← q3]; exact h3, rfl⟩
/-- The same without one of them. -/
theorem got_but (x y z : Int) : ∀ (ts : List (List Int)) (i : Nat) (k : Int), i < ts.length → skn x y z (k + i) ∈ subs (ge k x y z - ge (k + ts.length) x y z) ∧
    Got (ts.eraseIdx i) (ge k x y z - ge (k + ts.length) x y z - skn x y z (k + i)) (wk ts k x y z - T (ts.getD i []) (skn x y z (k + i)))
  | [], i, k, h => by simp at h
  | t :: ts, i, k, h => by
    obtain ⟨h1, h2⟩ := ge_step k x y z
    have e : k + ((t :: ts).length : Int) = k + 1 + (ts.length : Int) := by simp; omega
    rw [e]
    have h4 : ge (k + 1 + (ts.length : Int)) x y z ∈ subs (ge k x y z - skn x y z k) := by rw [h2]; exact ge_in (by omega)
    obtain ⟨q1, q2, q3⟩ := sub_sub (ge_lt k x y z) h1 h4
    rw [h2] at q3
    have hlt : ge k x y z - ge (k + 1 + (ts.length : Int)) x y z < 8 := Nat.lt_of_le_of_lt (Nat.sub_le _ _) (ge_lt k x y z)
    cases i with
    | zero =>
      have h3 := got_first x y z ts (k + 1)
      simp only [List.eraseIdx_zero, List.tail_cons, List.getD_cons_zero, wk]
      rw [show k + ((0 : Nat) : Int) = k by omega]
      refine ⟨q2, ?_⟩
      rw [← q3, show T t (skn x y z k) + wk ts (k + 1) x y z - T t (skn x y z k) = wk ts (k + 1) x y z by omega]
      exact h3
    | succ i =>
      obtain ⟨r1, r2⟩ := got_but x y z ts i (k + 1) (by simpa using h)
      simp only [List.eraseIdx_cons_succ, List.getD_cons_succ, wk]
      rw [show k + ((i + 1 : Nat) : Int) = k + 1 + (i : Int) by omega]
      rw [q3] at r1 r2
      obtain ⟨p1, p2, p3⟩ := sub_sub hlt q2 r1
      refine ⟨p1, _, p2, _, by rw [← p3]; exact r2, by omega⟩

/-- Sets of a way that ends with one more bidder. -/
theorem apart_sets {G D A B : Nat} (hG : G < 8) (hD : D ∈ subs G) (hB : B ∈ subs D) (hA : A ∈ subs (G - D)) :
    B ∈ subs 7 ∧ A ∈ subs 7 ∧ A ∈ subs (7 - B) ∧ 7 - B - A = 7 - (A ||| B) ∧ (A ||| B) ∈ subs 7 ∧ (G - D - A) ∈ subs (7 - B - A) := by
  have h1 := all3 (p := fun G D B => !(D &&& G == D) || !(B &&& D == B) || ((G - D) &&& (7 - B) == G - D)) (by decide) hG (subs_lt hD) (subs_lt hB)
  simp [subs_and hD, subs_and hB] at h1
  have hP : G - D < 8 := Nat.lt_of_le_of_lt (Nat.sub_le _ _) hG
  have h2 := all3 (p := fun P A B => !(P &&& (7 - B) == P) || !(A &&& P == A) || (A &&& (7 - B) == A && 7 - B - A == 7 - (A ||| B) && (P - A) &&& (7 - B - A) == P - A && decide (A ||| B < 8) && decide (P - A < 8))) (by decide) hP (subs_lt hA) (subs_lt hB)
  simp [h1, subs_and hA] at h2
  obtain ⟨⟨⟨⟨e1, e2⟩, e3⟩, e4⟩, e5⟩ := h2
  exact ⟨in7 (subs_lt hB), in7 (subs_lt hA), by simp [subs, subs_lt hA, e1], e2, in7 e4, by simp [subs, e5]; exact e3⟩

end Go.Proofs.Ytccbjgajmjcpjab
