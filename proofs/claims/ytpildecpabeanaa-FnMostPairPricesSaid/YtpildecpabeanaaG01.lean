/-
  Chapter 1, bids: the contracts of ValidBids, of the program and of the model, and of what they call.
-/
import Derived.Test.YtpildecpabeanaaMem
import Derived.Below
namespace Go.Proofs.Ytpildecpabeanaa
open Go.RowKit

/-- A number in a range. -/
def inR (n lo hi : Int) : Bool := decide (lo ≤ n) && decide (n ≤ hi)
theorem inR_true {n lo hi : Int} : inR n lo hi = true ↔ lo ≤ n ∧ n ≤ hi := by simp [inR]
theorem inR_false {n lo hi : Int} : inR n lo hi = false ↔ ¬ (lo ≤ n ∧ n ≤ hi) := by simp [inR]

/-- Numbers are bids. -/
def vB (xs : List Int) : Bool := inR xs.length 1 6 && xs.all (fun x => inR x 0 30)

theorem inRange_any (n lo hi : Int) (w : World) :
    Calls Try.prog 69 #[.int .i64 n, .int .i64 lo, .int .i64 hi] w fun e w' => e = .returned (.bool (inR n lo hi)) ∧ w = w' := by
  by_cases h1 : lo ≤ n
  · by_cases h2 : n ≤ hi
    · have HE := Lib.hid (inR_true.2 ⟨h1, h2⟩)
      go_enter Try.func69, Try.ntmps69
      go_wp2
      go_ret
      exact ⟨by rw [HE.out]; rfl, rfl⟩
    · have HE := Lib.hid (inR_false.2 (fun h : lo ≤ n ∧ n ≤ hi => h2 h.2))
      go_enter Try.func69, Try.ntmps69
      go_wp2
      go_ret
      exact ⟨by rw [HE.out]; rfl, rfl⟩
  · have HE := Lib.hid (inR_false.2 (fun h : lo ≤ n ∧ n ≤ hi => h1 h.1))
    go_enter Try.func69, Try.ntmps69
    go_wp2
    go_ret
    exact ⟨by rw [HE.out]; rfl, rfl⟩

theorem isBid_any (n : Int) (w : World) :
    Calls Try.prog 66 #[.int .i64 n] w fun e w' => e = .returned (.bool (inR n 0 30)) ∧ w = w' := by
  by_cases h1 : 0 ≤ n
  · by_cases h2 : n ≤ 30
    · have HE := Lib.hid (inR_true.2 ⟨h1, h2⟩)
      go_enter Try.func66, Try.ntmps66
      go_wp2
      go_ret
      exact ⟨by rw [HE.out]; rfl, rfl⟩
    · have HE := Lib.hid (inR_false.2 (fun h : 0 ≤ n ∧ n ≤ 30 => h2 h.2))
      go_enter Try.func66, Try.ntmps66
      go_wp2
      go_ret
      exact ⟨by rw [HE.out]; rfl, rfl⟩
  · have HE := Lib.hid (inR_false.2 (fun h : 0 ≤ n ∧ n ≤ 30 => h1 h.1))
    go_enter Try.func66, Try.ntmps66
    go_wp2
    go_ret
    exact ⟨by rw [HE.out]; rfl, rfl⟩

theorem all_at {xs : List Int} {p : Int → Bool} {k : Nat} {x : Int} (hx : xs[k]? = some x) (h : p x = false) : xs.all p = false := by
  rw [List.all_eq_false]
  exact ⟨x, List.mem_of_getElem? hx, by simp [h]⟩
theorem all_step {xs : List Int} {p : Int → Bool} {k : Nat} {x : Int} (hx : xs[k]? = some x) (h : p x = true) (ht : (xs.take k).all p = true) : (xs.take (k + 1)).all p = true := by
  rw [List.take_add_one, hx]; simp at ht ⊢; exact ⟨ht, h⟩
theorem vB_bad {xs : List Int} (h : xs.all (fun x => inR x 0 30) = false) : vB xs = false := by simp only [vB, h, Bool.and_false]
theorem vB_all {xs : List Int} (h : (xs.take xs.length).all (fun x => inR x 0 30) = true) : vB xs = inR xs.length 1 6 := by
  rw [List.take_length] at h; simp only [vB, h, Bool.and_true]
theorem vB_len {xs : List Int} (h : inR xs.length 1 6 = false) : vB xs = false := by simp only [vB, h, Bool.false_and]

set_option maxHeartbeats 400000 in
theorem validBids_any (A : Option Addr) (c : Nat) (xs : List Int) (w : World) (h : Rd w A c xs) (hl : xs.length ≤ 1099511627776) :
    Calls Try.prog 117 #[.slice A xs.length c] w fun e w' => e = .returned (.bool (vB xs)) ∧ w = w' := by
  go_enter Try.func117, Try.ntmps117
  go_wp2
  go_loop [3] (fun i => ∃ k : Nat, k ≤ xs.length ∧ i = .int .i64 k ∧ Hid ((xs.take k).all (fun x => inR x 0 30) = true)) (fun i => xs.length - (intOf i).toNat)
  case atStart => exact ⟨0, Nat.zero_le _, rfl, Lib.hid rfl⟩
  case round =>
    obtain ⟨k, hk, rfl, HT⟩ := hrel
    by_cases hlt : k < xs.length
    · obtain ⟨b, off, x, rfl, _, hx, hc⟩ := h.at_ hlt
      go_wp2_with fail
      refine (inRange_any _ _ _ _).mono ?_
      rintro e w' ⟨rfl, rfl⟩
      cases hb : inR x 0 30 with
      | true =>
        have HT' := Lib.hid (all_step hx.out hb HT.out)
        clear hb
        go_wp2
        go_round
        case rel => exact ⟨k + 1, by omega, by go_num, HT'⟩
        case measure => simp [intOf]; omega
      | false =>
        have HE := Lib.hid (vB_bad (all_at (p := fun x => inR x 0 30) hx.out hb))
        clear hb
        go_wp2
        go_ret
        exact ⟨by rw [HE.out]; rfl, rfl⟩
    · obtain rfl : k = xs.length := by omega
      have HE := Lib.hid (vB_all HT.out)
      go_wp2_with (refine (inRange_any _ _ _ _).mono ?_; rintro e w' ⟨rfl, rfl⟩)
      go_ret
      exact ⟨by rw [HE.out]; rfl, rfl⟩

set_option maxHeartbeats 400000 in
/-- areAll at bids. -/
theorem areBids_any (A : Option Addr) (c : Nat) (xs : List Int) (w : World) (h : Rd w A c xs) (hl : xs.length ≤ 1099511627776) :
    Calls Try.prog 78 #[.slice A xs.length c, .int .i64 6, .func (.func 66) #[] #[]] w fun e w' => e = .returned (.bool (vB xs)) ∧ w = w' := by
  by_cases h1 : 1 ≤ xs.length
  · by_cases h2 : xs.length ≤ 6
    · have HR := Lib.hid (inR_true (n := (xs.length : Int)) (lo := 1) (hi := 6) |>.2 ⟨by omega, by omega⟩)
      go_enter Try.func78, Try.ntmps78
      go_wp2
      go_loop [20] (fun i => ∃ k : Nat, k ≤ xs.length ∧ i = .int .i64 k ∧ Hid ((xs.take k).all (fun x => inR x 0 30) = true)) (fun i => xs.length - (intOf i).toNat)
      case atStart => exact ⟨0, Nat.zero_le _, rfl, Lib.hid rfl⟩
      case round =>
        obtain ⟨k, hk, rfl, HT⟩ := hrel
        by_cases hlt : k < xs.length
        · obtain ⟨b, off, x, rfl, _, hx, hc⟩ := h.at_ hlt
          go_wp2_with fail
          refine (isBid_any _ _).mono ?_
          rintro e w' ⟨rfl, rfl⟩
          cases hb : inR x 0 30 with
          | true =>
            have HT' := Lib.hid (all_step hx.out hb HT.out)
            clear hb
            go_wp2
            go_round
            case rel => exact ⟨k + 1, by omega, by go_num, HT'⟩
            case measure => simp [intOf]; omega
          | false =>
            have HE := Lib.hid (vB_bad (all_at (p := fun x => inR x 0 30) hx.out hb))
            clear hb
            go_wp2
            go_ret
            exact ⟨by rw [HE.out]; rfl, rfl⟩
        · obtain rfl : k = xs.length := by omega
          have HE := Lib.hid (vB_all HT.out)
          go_wp2
          go_ret
          exact ⟨by rw [HE.out, HR.out]; rfl, rfl⟩
    · have HE := Lib.hid (vB_len (inR_false (n := (xs.length : Int)) (lo := 1) (hi := 6) |>.2 (by omega)))
      go_enter Try.func78, Try.ntmps78
      go_wp2
      go_ret
      exact ⟨by rw [HE.out]; rfl, rfl⟩
  · have HE := Lib.hid (vB_len (inR_false (n := (xs.length : Int)) (lo := 1) (hi := 6) |>.2 (by omega)))
    go_enter Try.func78, Try.ntmps78
    go_wp2
    go_ret
    exact ⟨by rw [HE.out]; rfl, rfl⟩

theorem ValidBids_any (A : Option Addr) (c : Nat) (xs : List Int) (w : World) (h : Rd w A c xs) (hl : xs.length ≤ 1099511627776) :
    Calls Try.prog 65 #[.slice A xs.length c] w fun e w' => e = .returned (.bool (vB xs)) ∧ w = w' := by
  have HC := Lib.hid (areBids_any A c xs w h hl)
  go_enter Try.func65, Try.ntmps65
  go_wp2_with (go_at_call 78; refine HC.out.mono ?_; rintro e w' ⟨rfl, rfl⟩)
  go_ret
  exact ⟨rfl, rfl⟩

end Go.Proofs.Ytpildecpabeanaa

/-
  The exact laws' helpers that mark a slice of ints, and that ask whether the marks are held.
-/
namespace Go.Proofs.Ytpildecpabeanaa
open Go.RowKit

/-- k, one more, and so on. -/
def upF (k : Int) (n : Nat) : List Int := (List.range n).map (fun i => k + (i : Nat))
theorem upF_len (k : Int) (n : Nat) : (upF k n).length = n := by simp [upF]
theorem upF_at (k : Int) (n i : Nat) (h : i < n) : (upF k n)[i]? = some (k + i) := by simp [upF, h]

/-- The first j places marked from k on, the others as they were. -/
def markd (k : Int) (xs : List Int) (j : Nat) : List Int := upF k j ++ xs.drop j
theorem markd_len (k : Int) (xs : List Int) (j : Nat) (hj : j ≤ xs.length) : (markd k xs j).length = xs.length := by simp [markd, upF_len]; omega
theorem markd_zero (k : Int) (xs : List Int) : markd k xs 0 = xs := by simp [markd, upF]
theorem markd_all (k : Int) (xs : List Int) : markd k xs xs.length = upF k xs.length := by simp [markd]
theorem markd_set (k : Int) (xs : List Int) (j : Nat) (hj : j < xs.length) : (markd k xs j).set j (k + j) = markd k xs (j + 1) := by
  unfold markd
  rw [List.set_append, if_neg (by rw [upF_len]; omega), upF_len, Nat.sub_self]
  rw [List.drop_eq_getElem_cons hj, List.set_cons_zero]
  simp [upF, List.range_succ]

theorem own_block (A : Option Addr) (n c : Nat) : (Value.slice A n c).ownBlock = ofA A := by cases A <;> rfl

theorem Own.kept_ {w w' : World} {B : Nat} {A A2 : Option Addr} {c : Nat} {xs : List Int} (h : Own w B A c xs) (hg : w.grownBy w' (ofA A2)) (hne : ofA A = none ∨ ofA A ≠ ofA A2) : Own w' B A c xs :=
  World.ownsRow.kept h hg (by rw [own_block]; exact hne)

theorem Own.apart {wa wb : World} {B1 B2 : Nat} {A1 A2 : Option Addr} {c1 c2 : Nat} {xs ys : List Int} (h1 : Own wa B1 A1 c1 xs) (h2 : Own wb B2 A2 c2 ys) (hlt : wa.heap.size ≤ B2) : (ofA A1 = none ∨ ofA A1 ≠ ofA A2) ∧ (ofA A2 = none ∨ ofA A2 ≠ ofA A1) := by
  have e : ∀ k, ofA A1 = some k → ofA A2 = some k → False := by
    intro k hk1 hk2
    have l1 := (World.ownsRow.lt h1 k (by rw [own_block]; exact hk1)).2
    have l2 := (World.ownsRow.lt h2 k (by rw [own_block]; exact hk2)).1
    omega
  constructor
  · rcases hA : ofA A1 with _ | k
    · exact .inl rfl
    · exact .inr (fun h => e k hA h.symm)
  · rcases hA : ofA A2 with _ | k
    · exact .inl rfl
    · exact .inr (fun h => e k h.symm hA)

theorem Own.grownBelow {w w' wa : World} {B B2 : Nat} {A2 : Option Addr} {c2 : Nat} {ys : List Int} (hb : Below B wa w) (h2 : Own w B2 A2 c2 ys) (hB : B ≤ B2) (hs : B ≤ w.heap.size) (hg : w.grownBy w' (ofA A2)) : Below B wa w' :=
  hb.grown hg hs (fun k hk => Nat.le_trans hB (World.ownsRow.lt h2 k (by rw [own_block]; exact hk)).1)

end Go.Proofs.Ytpildecpabeanaa

/-
  Chapter 1 in plain arithmetic: who has the thing, what all pay, what is gained, by whatever kind.
-/
namespace Go.Proofs.Ytpildecpabeanaa

/-- Of the first k bids the first one of the greatest. -/
def gr (xs : List Int) : Nat → Nat
  | 0 => 0
  | k + 1 => if xs.getD (gr xs k) 0 < xs.getD k 0 then k else gr xs k

theorem gr_one (xs : List Int) : gr xs 1 = 0 := by simp [gr]
theorem gr_lt (xs : List Int) : ∀ k, 1 ≤ k → gr xs k < k
  | 0, h => by omega
  | 1, _ => by simp [gr]
  | k + 2, _ => by
    have := gr_lt xs (k + 1) (by omega)
    rw [gr]; split <;> omega
theorem gr_max (xs : List Int) : ∀ k j, j < k → xs.getD j 0 ≤ xs.getD (gr xs k) 0
  | 0, j, h => by omega
  | k + 1, j, h => by
    rw [gr]
    rcases Nat.lt_or_ge j k with hj | hj
    · have := gr_max xs k j hj
      split <;> omega
    · obtain rfl : j = k := by omega
      split <;> omega
theorem gr_first (xs : List Int) : ∀ k j, j < gr xs k → xs.getD j 0 < xs.getD (gr xs k) 0
  | 0, j, h => by simp [gr] at h
  | k + 1, j, h => by
    rw [gr] at h ⊢
    split at h
    · rename_i hc
      rw [if_pos hc]
      have := gr_max xs k j h
      omega
    · rename_i hc
      rw [if_neg hc]
      exact gr_first xs k j h

/-- The greatest one of all, the next one, and so on, 0 behind the last. -/
def nthG : Nat → List Int → Int
  | _, [] => 0
  | 0, x :: xs => (x :: xs).getD (gr (x :: xs) (xs.length + 1)) 0
  | m + 1, x :: xs => nthG m ((x :: xs).eraseIdx (gr (x :: xs) (xs.length + 1)))

theorem nthG_nil (m : Nat) : nthG m [] = 0 := by cases m <;> rfl
theorem nthG_zero (xs : List Int) : nthG 0 xs = xs.getD (gr xs xs.length) 0 := by cases xs <;> rfl
theorem nthG_succ (m : Nat) (xs : List Int) : nthG (m + 1) xs = nthG m (xs.eraseIdx (gr xs xs.length)) := by
  cases xs with
  | nil => simp [nthG_nil]
  | cons x xs => rfl

/-- Ascending order. -/
def Asc (s : List Int) : Prop := s.Pairwise (· ≤ ·)

theorem asc_last {s : List Int} {M : Int} (h : Asc (s ++ [M])) : ∀ x ∈ s, x ≤ M := by
  unfold Asc at h
  rw [List.pairwise_append] at h
  exact fun x hx => h.2.2 x hx M (by simp)

theorem nth_sorted : ∀ (m : Nat) (xs s : List Int), Asc s → s.Perm xs → m < xs.length → nthG m xs = s.getD (xs.length - 1 - m) 0
  | m, xs, s, ha, hp, hm => by
    have hl := hp.length_eq
    have hg := gr_lt xs xs.length (by omega)
    have hs : s ≠ [] := by rintro rfl; simp at hl; omega
    obtain ⟨s', M, rfl⟩ : ∃ s' M, s = s' ++ [M] := ⟨s.dropLast, s.getLast hs, (List.dropLast_concat_getLast hs).symm⟩
    simp at hl
    have hx : xs.getD (gr xs xs.length) 0 = M := by
      have h1 : xs.getD (gr xs xs.length) 0 ∈ xs := by rw [List.getD_eq_getElem?_getD, List.getElem?_eq_getElem hg]; simp
      have h2 : xs.getD (gr xs xs.length) 0 ≤ M := by
        rcases List.mem_append.1 (hp.mem_iff.2 h1) with h | h
        · exact asc_last ha _ h
        · have := List.mem_singleton.1 h; omega
      have h3 : M ∈ xs := hp.mem_iff.1 (by simp)
      obtain ⟨j, hj, he⟩ := List.getElem_of_mem h3
      have h4 := gr_max xs xs.length j hj
      have h5 : xs.getD j 0 = M := by rw [List.getD_eq_getElem?_getD, List.getElem?_eq_getElem hj]; exact he
      omega
    cases m with
    | zero => rw [nthG_zero, hx, show xs.length - 1 - 0 = s'.length by omega]; simp
    | succ m =>
      have hp' : s'.Perm (xs.eraseIdx (gr xs xs.length)) := by
        have e1 : xs.Perm (M :: xs.eraseIdx (gr xs xs.length)) := by
          have hM : xs[gr xs xs.length] = M := by rw [← hx, List.getD_eq_getElem?_getD, List.getElem?_eq_getElem hg]; rfl
          have h6 : xs = xs.take (gr xs xs.length) ++ M :: xs.drop (gr xs xs.length + 1) := by rw [← hM]; simp
          rw [List.eraseIdx_eq_take_drop_succ]
          exact (List.Perm.of_eq h6).trans List.perm_middle
        have e2 : (s' ++ [M]).Perm (M :: s') := List.perm_append_comm
        exact (List.perm_cons M).1 (e2.symm.trans (hp.trans e1))
      have ha' : Asc s' := by unfold Asc at ha ⊢; rw [List.pairwise_append] at ha; exact ha.1
      have he : (xs.eraseIdx (gr xs xs.length)).length = xs.length - 1 := by rw [List.length_eraseIdx, if_pos hg]
      rw [nthG_succ, nth_sorted m _ s' ha' hp' (by omega), he]
      rw [show xs.length - 1 - 1 - m = xs.length - 1 - (m + 1) by omega, List.getD_eq_getElem?_getD, List.getD_eq_getElem?_getD, List.getElem?_append_left (by omega)]

theorem nthG_behind : ∀ (m : Nat) (xs : List Int), xs.length ≤ m → nthG m xs = 0
  | m, [], _ => nthG_nil m
  | 0, x :: xs, h => by simp at h
  | m + 1, x :: xs, h => by
    have hg := gr_lt (x :: xs) (x :: xs).length (by simp)
    rw [nthG_succ]
    refine nthG_behind m _ ?_
    rw [List.length_eraseIdx, if_pos hg]
    simp at h ⊢
    omega

/-- Who has the thing: the first one of the greatest bids, -1 if this is less than the reserve. -/
def atOf (xs : List Int) (r : Int) : Int := if xs.getD (gr xs xs.length) 0 < r then -1 else gr xs xs.length

/-- What all pay by the kind kd: 1, 2, 3: the price of that rank; 4: all pay. -/
def payOf (kd : Nat) (xs : List Int) (r : Int) : List Int :=
  if kd = 4 then xs
  else if xs.getD (gr xs xs.length) 0 < r then List.replicate xs.length 0
  else (List.replicate xs.length 0).set (gr xs xs.length) (max r (nthG (kd - 1) xs))

theorem payOf_len (kd : Nat) (xs : List Int) (r : Int) : (payOf kd xs r).length = xs.length := by
  unfold payOf; split
  · rfl
  · split <;> simp
theorem payOf_all (xs : List Int) (r : Int) : payOf 4 xs r = xs := by simp [payOf]
theorem payOf_none {kd : Nat} {xs : List Int} {r : Int} (hk : kd ≠ 4) (h : xs.getD (gr xs xs.length) 0 < r) : payOf kd xs r = List.replicate xs.length 0 := by
  rw [payOf, if_neg hk, if_pos h]
theorem payOf_some {kd : Nat} {xs : List Int} {r : Int} (hk : kd ≠ 4) (h : ¬ xs.getD (gr xs xs.length) 0 < r) : payOf kd xs r = (List.replicate xs.length 0).set (gr xs xs.length) (max r (nthG (kd - 1) xs)) := by
  rw [payOf, if_neg hk, if_neg h]
theorem payOf_first {xs : List Int} {r : Int} (h : ¬ xs.getD (gr xs xs.length) 0 < r) : payOf 1 xs r = (List.replicate xs.length 0).set (gr xs xs.length) (xs.getD (gr xs xs.length) 0) := by
  rw [payOf_some (by decide) h, nthG_zero, Int.max_eq_right (by omega)]
theorem atOf_none {xs : List Int} {r : Int} (h : xs.getD (gr xs xs.length) 0 < r) : atOf xs r = -1 := by rw [atOf, if_pos h]
theorem atOf_some {xs : List Int} {r : Int} (h : ¬ xs.getD (gr xs xs.length) 0 < r) : atOf xs r = gr xs xs.length := by rw [atOf, if_neg h]

/-- What the bidder i has of a sale. -/
def gainF (kd : Nat) (xs : List Int) (i : Nat) (v r : Int) : Int := (if atOf xs r = i then v else 0) - (payOf kd xs r).getD i 0

/-- The least one up to k by which g is the greatest, and this. -/
def bestF (g : Nat → Int) : Nat → Nat × Int
  | 0 => (0, g 0)
  | k + 1 => if (bestF g k).2 < g (k + 1) then (k + 1, g (k + 1)) else bestF g k

/-- The first one from k on, of n, of which p holds. -/
def findF (p : Nat → Bool) : Nat → Nat → Option Nat
  | 0, _ => none
  | n + 1, k => if p k then some k else findF p n (k + 1)
theorem findF_yes {p : Nat → Bool} {n k : Nat} (h : p k = true) : findF p (n + 1) k = some k := by rw [findF, if_pos h]
theorem findF_no {p : Nat → Bool} {n k : Nat} (h : p k = false) : findF p (n + 1) k = findF p n (k + 1) := by rw [findF, if_neg (by simp [h])]

/-- Whether the bidder i has the thing with the bid b. -/
def winB (xs : List Int) (i : Nat) (r : Int) (b : Nat) : Bool := decide (atOf (xs.set i b) r = i)
/-- The least bid with which the bidder i has the thing. -/
def leastF (xs : List Int) (i : Nat) (r : Int) : Option Nat := findF (winB xs i r) 31 0
def optN : Option Nat → Int
  | some b => b
  | none => 0

end Go.Proofs.Ytpildecpabeanaa
