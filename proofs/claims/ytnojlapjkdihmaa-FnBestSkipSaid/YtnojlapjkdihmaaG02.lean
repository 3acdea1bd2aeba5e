/-
  Chapter 1 in plain arithmetic: who has the thing, what all pay, what is gained, by whatever kind.
-/
import Derived.Below
import Derived.Test.YtnojlapjkdihmaaOne
namespace Go.Proofs.Ytnojlapjkdihmaa

/-- Of the first k bids the first one of the greatest. -/
def gr (xs : List Int) : Nat → Nat
  | 0 => 0
  | k + 1 => if xs.getD (gr xs k) 0 < xs.getD k 0 then k else gr xs k

theorem gr_one (xs : List Int) : gr xs 1 = 0 := by simp [gr]
theorem gr_lt (xs : List Int) : ∀ k, 1 ≤ k → gr xs k < k
  | 0, h => by omega
  | 1, _ => by simp [gr]
  | k + 2, _ => by
    have := gr_lt xs (k + 1) (by omega)
    rw [gr]; split <;> omega
theorem gr_max (xs : List Int) : ∀ k j, j < k → xs.getD j 0 ≤ xs.getD (gr xs k) 0
  | 0, j, h => by omega
  | k + 1, j, h => by
    rw [gr]
    rcases Nat.lt_or_ge j k with hj | hj
    · have := gr_max xs k j hj
      split <;> omega
    · obtain rfl : j = k := by omega
      split <;> omega
theorem gr_first (xs : List Int) : ∀ k j, j < gr xs k → xs.getD j 0 < xs.getD (gr xs k) 0
  | 0, j, h => by simp [gr] at h
  | k + 1, j, h => by
    rw [gr] at h ⊢
    split at h
    · rename_i hc
      rw [if_pos hc]
      have := gr_max xs k j h
      omega
    · rename_i hc
      rw [if_neg hc]
      exact gr_first xs k j h

/-- The greatest one of all, the next one, and so on, 0 behind the last. -/
def nthG : Nat → List Int → Int
  | _, [] => 0
  | 0, x :: xs => (x :: xs).getD (gr (x :: xs) (xs.length + 1)) 0
  | m + 1, x :: xs => nthG m ((x :: xs).eraseIdx (gr (x :: xs) (xs.length + 1)))

theorem nthG_nil (m : Nat) : nthG m [] = 0 := by cases m <;> rfl
theorem nthG_zero (xs : List Int) : nthG 0 xs = xs.getD (gr xs xs.length) 0 := by cases xs <;> rfl
theorem nthG_succ (m : Nat) (xs : List Int) : nthG (m + 1) xs = nthG m (xs.eraseIdx (gr xs xs.length)) := by
  cases xs with
  | nil => simp [nthG_nil]
  | cons x xs => rfl

/-- Ascending order. -/
def Asc (s : List Int) : Prop := s.Pairwise (· ≤ ·)

theorem asc_last {s : List Int} {M : Int} (h : Asc (s ++ [M])) : ∀ x ∈ s, x ≤ M := by
  unfold Asc at h
  rw [List.pairwise_append] at h
  exact fun x hx => h.2.2 x hx M (by simp)

theorem nth_sorted : ∀ (m : Nat) (xs s : List Int), Asc s → s.Perm xs → m < xs.length → nthG m xs = s.getD (xs.length - 1 - m) 0
  | m, xs, s, ha, hp, hm => by
    have hl := hp.length_eq
    have hg := gr_lt xs xs.length (by omega)
    have hs : s ≠ [] := by rintro rfl; simp at hl; omega
    obtain ⟨s', M, rfl⟩ : ∃ s' M, s = s' ++ [M] := ⟨s.dropLast, s.getLast hs, (List.dropLast_concat_getLast hs).symm⟩
    simp at hl
    have hx : xs.getD (gr xs xs.length) 0 = M := by
      have h1 : xs.getD (gr xs xs.length) 0 ∈ xs := by rw [List.getD_eq_getElem?_getD, List.getElem?_eq_getElem hg]; simp
      have h2 : xs.getD (gr xs xs.length) 0 ≤ M := by
        rcases List.mem_append.1 (hp.mem_iff.2 h1) with h | h
        · exact asc_last ha _ h
        · have := List.mem_singleton.1 h; omega
      have h3 : M ∈ xs := hp.mem_iff.1 (by simp)
      obtain ⟨j, hj, he⟩ := List.getElem_of_mem h3
      have h4 := gr_max xs xs.length j hj
      have h5 : xs.getD j 0 = M := by rw [List.getD_eq_getElem?_getD, List.getElem?_eq_getElem hj]; exact he
      omega
    cases m with
    | zero => rw [nthG_zero, hx, show xs.length - 1 - 0 = s'.length by omega]; simp
    | succ m =>
      have hp' : s'.Perm (xs.eraseIdx (gr xs xs.length)) := by
        have e1 : xs.Perm (M :: xs.eraseIdx (gr xs xs.length)) := by
          have hM : xs[gr xs xs.length] = M := by rw [← hx, List.getD_eq_getElem?_getD, List.getElem?_eq_getElem hg]; rfl
          have h6 : xs = xs.take (gr xs xs.length) ++ M :: xs.drop (gr xs xs.length + 1) := by rw [← hM]; simp
          rw [List.eraseIdx_eq_take_drop_succ]
          exact (List.Perm.of_eq h6).trans List.perm_middle
        have e2 : (s' ++ [M]).Perm (M :: s') := List.perm_append_comm
        exact (List.perm_cons M).1 (e2.symm.trans (hp.trans e1))
      have ha' : Asc s' := by unfold Asc at ha ⊢; rw [List.pairwise_append] at ha; exact ha.1
      have he : (xs.eraseIdx (gr xs xs.length)).length = xs.length - 1 := by rw [List.length_eraseIdx, if_pos hg]
      rw [nthG_succ, nth_sorted m _ s' ha' hp' (by omega), he]
      rw [show xs.length - 1 - 1 - m = xs.length - 1 - (m + 1) by omega, List.getD_eq_getElem?_getD, List.getD_eq_getElem?_getD, List.getElem?_append_left (by omega)]

theorem nthG_behind : ∀ (m : Nat) (xs : List Int), xs.length ≤ m → nthG m xs = 0
  | m, [], _ => nthG_nil m
  | 0, x :: xs, h => by simp at h
  | m + 1, x :: xs, h => by
    have hg := gr_lt (x :: xs) (x :: xs).length (by simp)
    rw [nthG_succ]
    refine nthG_behind m _ ?_
    rw [List.length_eraseIdx, if_pos hg]
    simp at h ⊢
    omega

/-- Who has the thing: the first one of the greatest bids, -1 if this is less than the reserve. -/
def atOf (xs : List Int) (r : Int) : Int := if xs.getD (gr xs xs.length) 0 < r then -1 else gr xs xs.length

/-- What all pay by the kind kd: 1, 2, 3: the price of that rank; 4: all pay. -/
def payOf (kd : Nat) (xs : List Int) (r : Int) : List Int :=
  if kd = 4 then xs
  else if xs.getD (gr xs xs.length) 0 < r then List.replicate xs.length 0
  else (List.replicate xs.length 0).set (gr xs xs.length) (max r (nthG (kd - 1) xs))

theorem payOf_len (kd : Nat) (xs : List Int) (r : Int) : (payOf kd xs r).length = xs.length := by
  unfold payOf; split
  · rfl
  · split <;> simp
theorem payOf_all (xs : List Int) (r : Int) : payOf 4 xs r = xs := by simp [payOf]
theorem payOf_none {kd : Nat} {xs : List Int} {r : Int} (hk : kd ≠ 4) (h : xs.getD (gr xs xs.length) 0 < r) : payOf kd xs r = List.replicate xs.length 0 := by
  rw [payOf, if_neg hk, if_pos h]
theorem payOf_some {kd : Nat} {xs : List Int} {r : Int} (hk : kd ≠ 4) (h : ¬ xs.getD (gr xs xs.length) 0 < r) : payOf kd xs r = (List.replicate xs.length 0).set (gr xs xs.length) (max r (nthG (kd - 1) xs)) := by
  rw [payOf, if_neg hk, if_neg h]
theorem payOf_first {xs : List Int} {r : Int} (h : ¬ xs.getD (gr xs xs.length) 0 < r) : payOf 1 xs r = (List.replicate xs.length 0).set (gr xs xs.length) (xs.getD (gr xs xs.length) 0) := by
  rw [payOf_some (by decide) h, nthG_zero, Int.max_eq_right (by omega)]
theorem atOf_none {xs : List Int} {r : Int} (h : xs.getD (gr xs xs.length) 0 < r) : atOf xs r = -1 := by rw [atOf, if_pos h]
theorem atOf_some {xs : List Int} {r : Int} (h : ¬ xs.getD (gr xs xs.length) 0 < r) : atOf xs r = gr xs xs.length := by rw [atOf, if_neg h]

/-- What the bidder i has of a sale. -/
def gainF (kd : Nat) (xs : List Int) (i : Nat) (v r : Int) : Int := (if atOf xs r = i then v else 0) - (payOf kd xs r).getD i 0

/-- The least one up to k by which g is the greatest, and this. -/
def bestF (g : Nat → Int) : Nat → Nat × Int
  | 0 => (0, g 0)
  | k + 1 => if (bestF g k).2 < g (k + 1) then (k + 1, g (k + 1)) else bestF g k

/-- The first one from k on, of n, of which p holds. -/
def findF (p : Nat → Bool) : Nat → Nat → Option Nat
  | 0, _ => none
  | n + 1, k => if p k then some k else findF p n (k + 1)
theorem findF_yes {p : Nat → Bool} {n k : Nat} (h : p k = true) : findF p (n + 1) k = some k := by rw [findF, if_pos h]
theorem findF_no {p : Nat → Bool} {n k : Nat} (h : p k = false) : findF p (n + 1) k = findF p n (k + 1) := by rw [findF, if_neg (by simp [h])]

/-- Whether the bidder i has the thing with the bid b. -/
def winB (xs : List Int) (i : Nat) (r : Int) (b : Nat) : Bool := decide (atOf (xs.set i b) r = i)
/-- The least bid with which the bidder i has the thing. -/
def leastF (xs : List Int) (i : Nat) (r : Int) : Option Nat := findF (winB xs i r) 31 0
def optN : Option Nat → Int
  | some b => b
  | none => 0

end Go.Proofs.Ytnojlapjkdihmaa

/-
  Chapter 1, the model: the contracts of greatest and withBid.
-/
namespace Go.Proofs.Ytnojlapjkdihmaa
open Go.RowKit

end Go.Proofs.Ytnojlapjkdihmaa
