/-
  Chapter 6, plain: more bidders pay more, and two names are no better, where things may be moved.
-/
import Derived.Test.YtfjncipekjnbjabGZ
import Derived.Test.YtfjncipekjnbjabJb
namespace Go.Proofs.Ytfjncipekjnbjab

/-- What is had goes to one bidder, and the rest to the others. -/
theorem got_pick {ts : List (List Int)} : ∀ (i X : Nat) (v : Int), X < 8 → i < ts.length → (Got ts X v ↔ ∃ s, s ∈ subs X ∧ ∃ u, Got (ts.eraseIdx i) (X - s) u ∧ v = T (ts.getD i []) s + u) := by
  induction ts with
  | nil => intro i X v _ h; simp at h
  | cons t ts ih =>
    intro i X v hX h
    cases i with
    | zero => simp only [List.eraseIdx_zero, List.tail_cons, List.getD_cons_zero, Got]
    | succ i =>
      simp only [List.eraseIdx_cons_succ, List.getD_cons_succ, Got]
      have hi : i < ts.length := by simpa using h
      constructor
      · rintro ⟨s, hs, u, hu, rfl⟩
        obtain ⟨r, hr, u', hu', rfl⟩ := (ih i (X - s) u (sub_lt hX hs) hi).1 hu
        obtain ⟨h1, h2, h3⟩ := sub_sub hX hs hr
        exact ⟨r, h1, T t s + u', ⟨s, h2, u', h3 ▸ hu', rfl⟩, by omega⟩
      · rintro ⟨r, hr, w, ⟨s, hs, u', hu', rfl⟩, rfl⟩
        obtain ⟨h1, h2, h3⟩ := sub_sub hX hr hs
        exact ⟨s, h1, T (ts.getD i []) r + u', (ih i (X - s) _ (sub_lt hX h1) hi).2 ⟨r, h2, u', h3 ▸ hu', rfl⟩, by omega⟩
/-- Both rests together are no less than the rest of both and all. -/
theorem mo_rests {S : Nat → Int} (A : Mo S) {r s : Nat} (hr : r ∈ subs 7) (hs : s ∈ subs (7 - r)) : S (7 - r - s) + S 7 ≤ S (7 - r) + S (7 - s) := by
  obtain ⟨z, m3, m5, m6, m71, m72, m74, n1, n2, n4, _, _, _⟩ := A
  have hr8 := subs_lt hr
  have hs8 := subs_lt hs
  have ha := subs_and hs
  rcases nat8 hr8 with rfl | rfl | rfl | rfl | rfl | rfl | rfl | rfl <;> rcases nat8 hs8 with rfl | rfl | rfl | rfl | rfl | rfl | rfl | rfl <;>
    first
    | (exfalso; revert ha; decide)
    | (simp only [Nat.sub_zero, Nat.sub_self, Nat.reduceSub]; omega)
/-- One bidder more brings less where there is another one more. -/
theorem sv_less {ts : List (List Int)} {b : List Int} (h : ∀ t ∈ ts ++ [b], VT t ∧ Mo (T t)) {i : Nat} (hi : i < ts.length) :
    sv (ts ++ [b]) 7 + sv (ts.eraseIdx i) 7 ≤ sv (ts.eraseIdx i ++ [b]) 7 + sv ts 7 := by
  have hz : ∀ t ∈ ts ++ [b], T t 0 = 0 := fun t ht => (h t ht).1.2.1
  have ho : ∀ t ∈ ts.eraseIdx i, VT t ∧ Mo (T t) := fun t ht => h t (List.mem_append.2 (.inl (mem_erase ht)))
  have A := sv_mo ho
  obtain ⟨r, hr, u, hu, e1⟩ := (got_snoc (by omega)).1 (got_sv hz 7)
  obtain ⟨s, hs, u', hu', e2⟩ := (got_pick i (7 - r) u (sub_lt (by omega) hr) hi).1 hu
  have h1 := got_le hu'
  have hsr := sub_sub (by omega) hr hs
  have h2 : sv (ts.eraseIdx i) (7 - r) + T b r ≤ sv (ts.eraseIdx i ++ [b]) 7 := got_le ((got_snoc (by omega)).2 ⟨r, hr, _, got_sv (fun t ht => (ho t ht).1.2.1) _, rfl⟩)
  have h3 : T (ts.getD i []) s + sv (ts.eraseIdx i) (7 - s) ≤ sv ts 7 := got_le ((got_pick i 7 _ (by omega) hi).2 ⟨s, hsr.1, _, got_sv (fun t ht => (ho t ht).1.2.1) _, rfl⟩)
  have h4 := mo_rests A hr hs
  omega

/-- The sum of what the others have without each of the first k. -/
def outTo (ts : List (List Int)) : Nat → Int
  | 0 => 0
  | k + 1 => outTo ts k + sv (ts.eraseIdx k) 7
theorem paid_out (ts : List (List Int)) : ∀ k, paidTo ts k = outTo ts k - (k : Int) * worthF ts (wayF ts) + hasTo ts (wayF ts) k
  | 0 => by simp [paidTo, outTo, hasTo]
  | k + 1 => by
    have := paid_out ts k
    simp only [paidTo, outTo, hasTo, pvF]
    have e : ((k + 1 : Nat) : Int) * worthF ts (wayF ts) = (k : Int) * worthF ts (wayF ts) + worthF ts (wayF ts) := by rw [Int.natCast_add, Int.add_mul]; simp
    rw [e]
    omega
theorem erase_snoc {ts : List (List Int)} {b : List Int} {i : Nat} (hi : i < ts.length) : (ts ++ [b]).eraseIdx i = ts.eraseIdx i ++ [b] := List.eraseIdx_append_of_lt_length hi _
theorem erase_last {ts : List (List Int)} {b : List Int} : (ts ++ [b]).eraseIdx ts.length = ts := by
  rw [List.eraseIdx_append_of_length_le (Nat.le_refl _)]; simp
theorem out_snoc {ts : List (List Int)} {b : List Int} : ∀ k, k ≤ ts.length → (∀ t ∈ ts ++ [b], VT t ∧ Mo (T t)) → outTo ts k + (k : Int) * sv (ts ++ [b]) 7 ≤ outTo (ts ++ [b]) k + (k : Int) * sv ts 7
  | 0, _, _ => by simp [outTo]
  | k + 1, hk, h => by
    have ih := out_snoc k (by omega) h
    have h1 := sv_less h (i := k) hk
    simp only [outTo]
    rw [erase_snoc hk]
    have e1 : ((k + 1 : Nat) : Int) * sv (ts ++ [b]) 7 = (k : Int) * sv (ts ++ [b]) 7 + sv (ts ++ [b]) 7 := by rw [Int.natCast_add, Int.add_mul]; simp
    have e2 : ((k + 1 : Nat) : Int) * sv ts 7 = (k : Int) * sv ts 7 + sv ts 7 := by rw [Int.natCast_add, Int.add_mul]; simp
    rw [e1, e2]
    omega

/-- More bidders pay more. -/
theorem paid_more {ts : List (List Int)} {b : List Int} (hn : ts.length + 1 ≤ 4) (h : ∀ t ∈ ts ++ [b], VT t ∧ Mo (T t)) : paidTo ts ts.length ≤ paidTo (ts ++ [b]) (ts ++ [b]).length := by
  have hz : ∀ t ∈ ts ++ [b], T t 0 = 0 := fun t ht => (h t ht).1.2.1
  have hz' : ∀ t ∈ ts, T t 0 = 0 := fun t ht => hz t (List.mem_append.2 (.inl ht))
  have hl : (ts ++ [b]).length = ts.length + 1 := by simp
  have w1 := wayF_worth hz' (by omega)
  have w2 := wayF_worth hz (by rw [hl]; exact hn)
  have p1 := paid_out ts ts.length
  have p2 := paid_out (ts ++ [b]) (ts ++ [b]).length
  rw [hasTo_is _ _ (Nat.le_refl _), List.take_length, w1] at p1
  rw [hasTo_is _ _ (Nat.le_refl _), List.take_length, w2] at p2
  have o := out_snoc ts.length (Nat.le_refl _) h
  have e : outTo (ts ++ [b]) (ts ++ [b]).length = outTo (ts ++ [b]) ts.length + sv ts 7 := by
    rw [hl]
    simp only [outTo]
    rw [erase_last]
  rw [e] at p2
  have e2 : (((ts ++ [b]).length : Nat) : Int) * sv (ts ++ [b]) 7 = (ts.length : Int) * sv (ts ++ [b]) 7 + sv (ts ++ [b]) 7 := by rw [hl, Int.natCast_add, Int.add_mul]; simp
  rw [e2] at p2
  rw [p1, p2]
  omega

end Go.Proofs.Ytfjncipekjnbjab
