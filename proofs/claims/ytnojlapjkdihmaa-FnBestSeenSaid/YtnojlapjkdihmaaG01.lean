/-
  The exact laws' helpers that mark a slice of ints, and that ask whether the marks are held.
-/
import Derived.Test.YtnojlapjkdihmaaMem
import Derived.Below
namespace Go.Proofs.Ytnojlapjkdihmaa
open Go.RowKit

/-- k, one more, and so on. -/
def upF (k : Int) (n : Nat) : List Int := (List.range n).map (fun i => k + (i : Nat))
theorem upF_len (k : Int) (n : Nat) : (upF k n).length = n := by simp [upF]
theorem upF_at (k : Int) (n i : Nat) (h : i < n) : (upF k n)[i]? = some (k + i) := by simp [upF, h]

/-- The first j places marked from k on, the others as they were. -/
def markd (k : Int) (xs : List Int) (j : Nat) : List Int := upF k j ++ xs.drop j
theorem markd_len (k : Int) (xs : List Int) (j : Nat) (hj : j ≤ xs.length) : (markd k xs j).length = xs.length := by simp [markd, upF_len]; omega
theorem markd_zero (k : Int) (xs : List Int) : markd k xs 0 = xs := by simp [markd, upF]
theorem markd_all (k : Int) (xs : List Int) : markd k xs xs.length = upF k xs.length := by simp [markd]
theorem markd_set (k : Int) (xs : List Int) (j : Nat) (hj : j < xs.length) : (markd k xs j).set j (k + j) = markd k xs (j + 1) := by
  unfold markd
  rw [List.set_append, if_neg (by rw [upF_len]; omega), upF_len, Nat.sub_self]
  rw [List.drop_eq_getElem_cons hj, List.set_cons_zero]
  simp [upF, List.range_succ]

theorem own_block (A : Option Addr) (n c : Nat) : (Value.slice A n c).ownBlock = ofA A := by cases A <;> rfl

theorem Own.kept_ {w w' : World} {B : Nat} {A A2 : Option Addr} {c : Nat} {xs : List Int} (h : Own w B A c xs) (hg : w.grownBy w' (ofA A2)) (hne : ofA A = none ∨ ofA A ≠ ofA A2) : Own w' B A c xs :=
  World.ownsRow.kept h hg (by rw [own_block]; exact hne)

theorem Own.apart {wa wb : World} {B1 B2 : Nat} {A1 A2 : Option Addr} {c1 c2 : Nat} {xs ys : List Int} (h1 : Own wa B1 A1 c1 xs) (h2 : Own wb B2 A2 c2 ys) (hlt : wa.heap.size ≤ B2) : (ofA A1 = none ∨ ofA A1 ≠ ofA A2) ∧ (ofA A2 = none ∨ ofA A2 ≠ ofA A1) := by
  have e : ∀ k, ofA A1 = some k → ofA A2 = some k → False := by
    intro k hk1 hk2
    have l1 := (World.ownsRow.lt h1 k (by rw [own_block]; exact hk1)).2
    have l2 := (World.ownsRow.lt h2 k (by rw [own_block]; exact hk2)).1
    omega
  constructor
  · rcases hA : ofA A1 with _ | k
    · exact .inl rfl
    · exact .inr (fun h => e k hA h.symm)
  · rcases hA : ofA A2 with _ | k
    · exact .inl rfl
    · exact .inr (fun h => e k h.symm hA)

theorem Own.grownBelow {w w' wa : World} {B B2 : Nat} {A2 : Option Addr} {c2 : Nat} {ys : List Int} (hb : Below B wa w) (h2 : Own w B2 A2 c2 ys) (hB : B ≤ B2) (hs : B ≤ w.heap.size) (hg : w.grownBy w' (ofA A2)) : Below B wa w' :=
  hb.grown hg hs (fun k hk => Nat.le_trans hB (World.ownsRow.lt h2 k (by rw [own_block]; exact hk)).1)

end Go.Proofs.Ytnojlapjkdihmaa

/-
  An append of ints onto a row of the call's own, or onto nil.
-/
namespace Go.Proofs.Ytnojlapjkdihmaa
open Go.RowKit

/-- 'append(xs, zs...)' at slices of ints of whatever named type. -/
theorem run_append_intsT (T ty : TypeId) (hT : Try.prog.underlying T = some (.slice 3)) (w : World) (base : Nat) (A0 : Option Addr) (c0 : Nat) (xs : List Int) (hown : Own w base A0 c0 xs) (A : Option Addr) (c : Nat) (zs : List Int) (hr : Rd w A c zs)
    (hn : xs.length + zs.length ≤ 1099511627776) (hbase : base ≤ w.heap.size) :
    ∃ A' c' w', (Builtin.append_ #[T, T] ty #[.slice A0 xs.length c0, .slice A zs.length c]).run Try.prog w = .ok (.slice A' (xs.length + zs.length) c') w' ∧
      Own w' base A' c' (xs ++ zs) ∧ w.grownBy w' (ofA A0) := by
  obtain ⟨i0, hi, hz0, hz1, hz2⟩ := info_parts int_info
  have hblk : (Value.slice A0 xs.length c0).ownBlock = ofA A0 := by cases A0 <;> rfl
  cases A with
  | none =>
    obtain ⟨rfl, rfl⟩ : zs = [] ∧ c = 0 := by
      rcases hr with h | ⟨b, off, h, _⟩
      · exact ⟨h.1, h.2 rfl⟩
      · cases h
    exact ⟨A0, c0, w, run_append_owned_none (P := Try.prog) (w := w) base T ty 3 i0 1 hT hi _ _ _ hown, by simpa using hown, World.grownBy.refl _ _⟩
  | some ad =>
    obtain ⟨v', w', hrun, h2, h3, _⟩ := run_append_own_at (P := Try.prog) w base T ty 3 i0 (.int .i64 0) 1 8 hT hi hz0 hz1 hz2 rfl (by decide) (.slice A0 xs.length c0) xs.length (xs.map (Value.int .i64)) hown ad zs.length c (zs.map (Value.int .i64)) (by simp) hr.news (ints_oneCell _ _)
      (by unfold maxLen; omega) (by omega) hbase
    rw [← List.map_append] at h2
    obtain ⟨_, ⟨hv, hz⟩ | ⟨g, c', hv⟩⟩ := own_shape h2
    · have hx : xs = [] ∧ zs = [] := by simpa using hz
      obtain ⟨rfl, rfl⟩ := hx
      subst hv
      exact ⟨none, 0, w', hrun, h2, hblk ▸ h3⟩
    · subst hv
      rw [List.length_append] at hrun h2
      exact ⟨_, c', w', hrun, by unfold Own; rw [List.length_append]; exact h2, hblk ▸ h3⟩

theorem wpList_append_any {ops : Array Oper} {rest : List Oper} {o : Oper} {a : Act} {w : World} {Q : Exit → Act → World → Prop} (hgd : o.guard = none) (s x : Operand) (T : TypeId) (hT : Try.prog.underlying T = some (.slice 3))
    (ho : o.op = .call { callee := .builtin .append, args := #[s, x], argTypes := #[T, T] })
    (base : Nat) (A0 : Option Addr) (c0 : Nat) (xs : List Int) (n : Nat) (hxn : xs.length = n) (hs : a.eval s = .slice A0 n c0) (hown : Own w base A0 c0 xs)
    (A : Option Addr) (c : Nat) (zs : List Int) (m : Nat) (hzm : zs.length = m) (hx : a.eval x = .slice A m c) (hr : Rd w A c zs)
    (hn : n + m ≤ 1099511627776) (hbase : base ≤ w.heap.size)
    (h : ∀ A' c' w', Own w' base A' c' (xs ++ zs) → w.grownBy w' (ofA A0) → wpList Try.prog ops Q rest (a.put o.dst (.slice A' (n + m) c')) w') :
    wpList Try.prog ops Q (o :: rest) a w :=
  wpList_plain hgd fun _ hK => by
    subst hxn hzm
    obtain ⟨A', c', w', hrun, h1, h2⟩ := run_append_intsT T o.type hT w base A0 c0 xs hown A c zs hr hn hbase
    unfold Oper.wp execOp
    simp only [ho, resolve, invoke, builtin, Sem.run_bind, Sem.run_pure, Result.andThen_ok, List.map_toArray, List.map_cons, List.map_nil, hs, hx, hrun]
    exact hK _ _ (h A' c' w' h1 h2)

theorem Own.grownBelow0 {w w' wa : World} {B : Nat} {A0 : Option Addr} {c0 : Nat} {xs : List Int} (hb : Below B wa w) (ho : Own w B A0 c0 xs) (hs : B ≤ w.heap.size) (hg : w.grownBy w' (ofA A0)) : Below B wa w' :=
  hb.grown hg hs (fun k hk => (World.ownsRow.lt ho k (by rw [own_block]; exact hk)).1)

theorem intsU_info : (Try.prog.info? 24).map (fun i => (i.zero, i.size, i.bytes)) = some (some (.slice none 0 0), 1, 24) := by kernel_rfl

end Go.Proofs.Ytnojlapjkdihmaa

/-
  Chapter 1 in plain arithmetic: who has the thing, what all pay, what is gained, by whatever kind.
-/
namespace Go.Proofs.Ytnojlapjkdihmaa

/-- Of the first k bids the first one of the greatest. -/
def gr (xs : List Int) : Nat → Nat
  | 0 => 0
  | k + 1 => if xs.getD (gr xs k) 0 < xs.getD k 0 then k else gr xs k

theorem gr_one (xs : List Int) : gr xs 1 = 0 := by simp [gr]
theorem gr_lt (xs : List Int) : ∀ k, 1 ≤ k → gr xs k < k
  | 0, h => by omega
  | 1, _ => by simp [gr]
  | k + 2, _ => by
    have := gr_lt xs (k + 1) (by omega)
    rw [gr]; split <;> omega
theorem gr_max (xs : List Int) : ∀ k j, j < k → xs.getD j 0 ≤ xs.getD (gr xs k) 0
  | 0, j, h => by omega
  | k + 1, j, h => by
    rw [gr]
    rcases Nat.lt_or_ge j k with hj | hj
    · have := gr_max xs k j hj
      split <;> omega
    · obtain rfl : j = k := by omega
      split <;> omega
theorem gr_first (xs : List Int) : ∀ k j, j < gr xs k → xs.getD j 0 < xs.getD (gr xs k) 0
  | 0, j, h => by simp [gr] at h
  | k + 1, j, h => by
    rw [gr] at h ⊢
    split at h
    · rename_i hc
      rw [if_pos hc]
      have := gr_max xs k j h
      omega
    · rename_i hc
      rw [if_neg hc]
      exact gr_first xs k j h

/-- The greatest one of all, the next one, and so on, 0 behind the last. -/
def nthG : Nat → List Int → Int
  | _, [] => 0
  | 0, x :: xs => (x :: xs).getD (gr (x :: xs) (xs.length + 1)) 0
  | m + 1, x :: xs => nthG m ((x :: xs).eraseIdx (gr (x :: xs) (xs.length + 1)))

theorem nthG_nil (m : Nat) : nthG m [] = 0 := by cases m <;> rfl
theorem nthG_zero (xs : List Int) : nthG 0 xs = xs.getD (gr xs xs.length) 0 := by cases xs <;> rfl
theorem nthG_succ (m : Nat) (xs : List Int) : nthG (m + 1) xs = nthG m (xs.eraseIdx (gr xs xs.length)) := by
  cases xs with
  | nil => simp [nthG_nil]
  | cons x xs => rfl

/-- Ascending order. -/
def Asc (s : List Int) : Prop := s.Pairwise (· ≤ ·)

theorem asc_last {s : List Int} {M : Int} (h : Asc (s ++ [M])) : ∀ x ∈ s, x ≤ M := by
  unfold Asc at h
  rw [List.pairwise_append] at h
  exact fun x hx => h.2.2 x hx M (by simp)

theorem nth_sorted : ∀ (m : Nat) (xs s : List Int), Asc s → s.Perm xs → m < xs.length → nthG m xs = s.getD (xs.length - 1 - m) 0
  | m, xs, s, ha, hp, hm => by
    have hl := hp.length_eq
    have hg := gr_lt xs xs.length (by omega)
    have hs : s ≠ [] := by rintro rfl; simp at hl; omega
    obtain ⟨s', M, rfl⟩ : ∃ s' M, s = s' ++ [M] := ⟨s.dropLast, s.getLast hs, (List.dropLast_concat_getLast hs).symm⟩
    simp at hl
    have hx : xs.getD (gr xs xs.length) 0 = M := by
      have h1 : xs.getD (gr xs xs.length) 0 ∈ xs := by rw [List.getD_eq_getElem?_getD, List.getElem?_eq_getElem hg]; simp
      have h2 : xs.getD (gr xs xs.length) 0 ≤ M := by
        rcases List.mem_append.1 (hp.mem_iff.2 h1) with h | h
        · exact asc_last ha _ h
        · have := List.mem_singleton.1 h; omega
      have h3 : M ∈ xs := hp.mem_iff.1 (by simp)
      obtain ⟨j, hj, he⟩ := List.getElem_of_mem h3
      have h4 := gr_max xs xs.length j hj
      have h5 : xs.getD j 0 = M := by rw [List.getD_eq_getElem?_getD, List.getElem?_eq_getElem hj]; exact he
      omega
    cases m with
    | zero => rw [nthG_zero, hx, show xs.length - 1 - 0 = s'.length by omega]; simp
    | succ m =>
      have hp' : s'.Perm (xs.eraseIdx (gr xs xs.length)) := by
        have e1 : xs.Perm (M :: xs.eraseIdx (gr xs xs.length)) := by
          have hM : xs[gr xs xs.length] = M := by rw [← hx, List.getD_eq_getElem?_getD, List.getElem?_eq_getElem hg]; rfl
          have h6 : xs = xs.take (gr xs xs.length) ++ M :: xs.drop (gr xs xs.length + 1) := by rw [← hM]; simp
          rw [List.eraseIdx_eq_take_drop_succ]
          exact (List.Perm.of_eq h6).trans List.perm_middle
        have e2 : (s' ++ [M]).Perm (M :: s') := List.perm_append_comm
        exact (List.perm_cons M).1 (e2.symm.trans (hp.trans e1))
      have ha' : Asc s' := by unfold Asc at ha ⊢; rw [List.pairwise_append] at ha; exact ha.1
      have he : (xs.eraseIdx (gr xs xs.length)).length = xs.length - 1 := by rw [List.length_eraseIdx, if_pos hg]
      rw [nthG_succ, nth_sorted m _ s' ha' hp' (by omega), he]
      rw [show xs.length - 1 - 1 - m = xs.length - 1 - (m + 1) by omega, List.getD_eq_getElem?_getD, List.getD_eq_getElem?_getD, List.getElem?_append_left (by omega)]

theorem nthG_behind : ∀ (m : Nat) (xs : List Int), xs.length ≤ m → nthG m xs = 0
  | m, [], _ => nthG_nil m
  | 0, x :: xs, h => by simp at h
  | m + 1, x :: xs, h => by
    have hg := gr_lt (x :: xs) (x :: xs).length (by simp)
    rw [nthG_succ]
    refine nthG_behind m _ ?_
    rw [List.length_eraseIdx, if_pos hg]
    simp at h ⊢
    omega

/-- Who has the thing: the first one of the greatest bids, -1 if this is less than the reserve. -/
def atOf (xs : List Int) (r : Int) : Int := if xs.getD (gr xs xs.length) 0 < r then -1 else gr xs xs.length

/-- What all pay by the kind kd: 1, 2, 3: the price of that rank; 4: all pay. -/
def payOf (kd : Nat) (xs : List Int) (r : Int) : List Int :=
  if kd = 4 then xs
  else if xs.getD (gr xs xs.length) 0 < r then List.replicate xs.length 0
  else (List.replicate xs.length 0).set (gr xs xs.length) (max r (nthG (kd - 1) xs))

theorem payOf_len (kd : Nat) (xs : List Int) (r : Int) : (payOf kd xs r).length = xs.length := by
  unfold payOf; split
  · rfl
  · split <;> simp
theorem payOf_all (xs : List Int) (r : Int) : payOf 4 xs r = xs := by simp [payOf]
theorem payOf_none {kd : Nat} {xs : List Int} {r : Int} (hk : kd ≠ 4) (h : xs.getD (gr xs xs.length) 0 < r) : payOf kd xs r = List.replicate xs.length 0 := by
  rw [payOf, if_neg hk, if_pos h]
theorem payOf_some {kd : Nat} {xs : List Int} {r : Int} (hk : kd ≠ 4) (h : ¬ xs.getD (gr xs xs.length) 0 < r) : payOf kd xs r = (List.replicate xs.length 0).set (gr xs xs.length) (max r (nthG (kd - 1) xs)) := by
  rw [payOf, if_neg hk, if_neg h]
theorem payOf_first {xs : List Int} {r : Int} (h : ¬ xs.getD (gr xs xs.length) 0 < r) : payOf 1 xs r = (List.replicate xs.length 0).set (gr xs xs.length) (xs.getD (gr xs xs.length) 0) := by
  rw [payOf_some (by decide) h, nthG_zero, Int.max_eq_right (by omega)]
theorem atOf_none {xs : List Int} {r : Int} (h : xs.getD (gr xs xs.length) 0 < r) : atOf xs r = -1 := by rw [atOf, if_pos h]
theorem atOf_some {xs : List Int} {r : Int} (h : ¬ xs.getD (gr xs xs.length) 0 < r) : atOf xs r = gr xs xs.length := by rw [atOf, if_neg h]

/-- What the bidder i has of a sale. -/
def gainF (kd : Nat) (xs : List Int) (i : Nat) (v r : Int) : Int := (if atOf xs r = i then v else 0) - (payOf kd xs r).getD i 0

/-- The least one up to k by which g is the greatest, and this. -/
def bestF (g : Nat → Int) : Nat → Nat × Int
  | 0 => (0, g 0)
  | k + 1 => if (bestF g k).2 < g (k + 1) then (k + 1, g (k + 1)) else bestF g k

/-- The first one from k on, of n, of which p holds. -/
def findF (p : Nat → Bool) : Nat → Nat → Option Nat
  | 0, _ => none
  | n + 1, k => if p k then some k else findF p n (k + 1)
theorem findF_yes {p : Nat → Bool} {n k : Nat} (h : p k = true) : findF p (n + 1) k = some k := by rw [findF, if_pos h]
theorem findF_no {p : Nat → Bool} {n k : Nat} (h : p k = false) : findF p (n + 1) k = findF p n (k + 1) := by rw [findF, if_neg (by simp [h])]

/-- Whether the bidder i has the thing with the bid b. -/
def winB (xs : List Int) (i : Nat) (r : Int) (b : Nat) : Bool := decide (atOf (xs.set i b) r = i)
/-- The least bid with which the bidder i has the thing. -/
def leastF (xs : List Int) (i : Nat) (r : Int) : Option Nat := findF (winB xs i r) 31 0
def optN : Option Nat → Int
  | some b => b
  | none => 0

end Go.Proofs.Ytnojlapjkdihmaa

/-
  Chapter 3 in plain arithmetic: what units are worth at best, bidder by bidder, and what bounds it.
-/
namespace Go.Proofs.Ytnojlapjkdihmaa

/-- What the first k numbers are together. -/
def pre (r : List Int) (k : Nat) : Int := (r.take k).sum
theorem pre_zero (r : List Int) : pre r 0 = 0 := by simp [pre]
theorem pre_nil (k : Nat) : pre [] k = 0 := by simp [pre]
theorem pre_cons (x : Int) (r : List Int) (k : Nat) : pre (x :: r) (k + 1) = x + pre r k := by simp [pre]
theorem pre_step {r : List Int} {k : Nat} {x : Int} (hx : r[k]? = some x) : pre r (k + 1) = pre r k + x := by
  unfold pre; rw [List.take_add_one, hx]; simp
theorem pre_end {r : List Int} {k : Nat} (h : r.length ≤ k) : pre r k = pre r r.length := by
  unfold pre; rw [List.take_of_length_le h, List.take_length]
theorem pre_min (r : List Int) (k : Nat) : pre r (min k r.length) = pre r k := by
  rcases Nat.le_total k r.length with h | h
  · rw [Nat.min_eq_left h]
  · rw [Nat.min_eq_right h, pre_end h]

/-- A row: at most five numbers of 0..30, none greater than one ahead. -/
def RowOk (r : List Int) : Prop := r.length ≤ 5 ∧ ∀ (k : Nat) (x : Int), r[k]? = some x → 0 ≤ x ∧ x ≤ 30 ∧ ∀ (j : Nat) (y : Int), j < k → r[j]? = some y → x ≤ y

theorem rowOk_of {r : List Int} (hl : r.length ≤ 5) (h : ∀ (k : Nat) (x : Int), r[k]? = some x → 0 ≤ x ∧ x ≤ 30 ∧ ∀ y : Int, 0 < k → r[k - 1]? = some y → x ≤ y) : RowOk r := by
  refine ⟨hl, fun k => ?_⟩
  induction k with
  | zero => exact fun x hx => ⟨(h 0 x hx).1, (h 0 x hx).2.1, fun j y hj => absurd hj (by omega)⟩
  | succ k ih =>
    intro x hx
    obtain ⟨h1, h2, h3⟩ := h (k + 1) x hx
    refine ⟨h1, h2, fun j y hj hy => ?_⟩
    have hk : k < r.length := by have := (List.getElem?_eq_some_iff.1 hx).1; omega
    have hz : r[k]? = some r[k] := List.getElem?_eq_getElem hk
    have h4 : x ≤ r[k] := h3 _ (by omega) hz
    rcases Nat.lt_or_ge j k with hjk | hjk
    · have := (ih _ hz).2.2 j y hjk hy
      omega
    · obtain rfl : j = k := by omega
      rw [hz] at hy
      cases hy
      exact h4
theorem rowOk_nil : RowOk [] := ⟨by simp, fun k x h => by simp at h⟩

theorem pre_nn {r : List Int} (h : RowOk r) (k : Nat) : 0 ≤ pre r k ∧ pre r k ≤ 30 * k := by
  induction k with
  | zero => simp [pre]
  | succ k ih =>
    cases hx : r[k]? with
    | none =>
      have : r.length ≤ k := by simpa using hx
      rw [pre_end (by omega), ← pre_end this]
      omega
    | some x =>
      have := h.2 k x hx
      rw [pre_step hx]
      omega
theorem pre_le150 {r : List Int} (h : RowOk r) (k : Nat) : 0 ≤ pre r k ∧ pre r k ≤ 150 := by
  have h1 := pre_nn h (min k r.length)
  rw [pre_min] at h1
  have h2 := h.1
  have h3 : ((min k r.length : Nat) : Int) ≤ 5 := by omega
  omega

/-- The greatest of f at x, and of what m units less leave and the row gives for them, up to m units. -/
def convTo (f : Nat → Int) (r : List Int) (x : Nat) : Nat → Int
  | 0 => f x
  | m + 1 => max (convTo f r x m) (f (x - (m + 1)) + pre r (m + 1))
def conv (f : Nat → Int) (r : List Int) (x : Nat) : Int := convTo f r x x

/-- What at most x units are worth to the first n bidders, at best. -/
def bst (R : Nat → List Int) : Nat → Nat → Int
  | 0, _ => 0
  | i + 1, x => conv (bst R i) (R i) x

def sumTo (f : Nat → Int) : Nat → Int
  | 0 => 0
  | n + 1 => sumTo f n + f n
theorem sumTo_congr {f g : Nat → Int} {n : Nat} (h : ∀ i, i < n → f i = g i) : sumTo f n = sumTo g n := by
  induction n with
  | zero => rfl
  | succ n ih => rw [sumTo, sumTo, ih (fun i hi => h i (by omega)), h n (by omega)]
theorem sumTo_le {f g : Nat → Int} {n : Nat} (h : ∀ i, i < n → f i ≤ g i) : sumTo f n ≤ sumTo g n := by
  induction n with
  | zero => simp [sumTo]
  | succ n ih => have h1 := ih (fun i hi => h i (by omega)); have h2 := h n (by omega); rw [sumTo, sumTo]; omega
theorem sumTo_nn {f : Nat → Int} {n : Nat} (h : ∀ i, i < n → 0 ≤ f i) : 0 ≤ sumTo f n := by
  induction n with
  | zero => simp [sumTo]
  | succ n ih => have h1 := ih (fun i hi => h i (by omega)); have h2 := h n (by omega); rw [sumTo]; omega
theorem sumTo_add (f g : Nat → Int) (n : Nat) : sumTo (fun i => f i + g i) n = sumTo f n + sumTo g n := by
  induction n with
  | zero => rfl
  | succ n ih => simp only [sumTo, ih]; omega
theorem sumTo_sub (f g : Nat → Int) (n : Nat) : sumTo (fun i => f i - g i) n = sumTo f n - sumTo g n := by
  induction n with
  | zero => rfl
  | succ n ih => simp only [sumTo, ih]; omega
theorem sumTo_mul (f : Nat → Int) (t : Int) (n : Nat) : sumTo (fun i => f i * t) n = sumTo f n * t := by
  induction n with
  | zero => simp [sumTo]
  | succ n ih => simp only [sumTo, ih, Int.add_mul]
theorem sumTo_const (t : Int) (n : Nat) : sumTo (fun _ => t) n = n * t := by
  induction n with
  | zero => simp [sumTo]
  | succ n ih => simp only [sumTo, ih]; push_cast; rw [Int.add_mul]; omega
/-- One term is apart. -/
theorem sumTo_one {f g : Nat → Int} {n i : Nat} (hi : i < n) (h : ∀ j, j < n → j ≠ i → f j = g j) : sumTo f n - f i = sumTo g n - g i := by
  induction n with
  | zero => omega
  | succ n ih =>
    rw [sumTo, sumTo]
    rcases Nat.lt_or_ge i n with hin | hin
    · have h1 := ih hin (fun j hj hne => h j (by omega) hne)
      have h2 := h n (by omega) (by omega)
      omega
    · obtain rfl : i = n := by omega
      have h1 := sumTo_congr (f := f) (g := g) (n := i) (fun j hj => h j (by omega) (by omega))
      omega

/-- What the units are worth, h i of them to bidder i. -/
def val (R : Nat → List Int) (h : Nat → Nat) (n : Nat) : Int := sumTo (fun i => pre (R i) (h i)) n
def cnt (h : Nat → Nat) (n : Nat) : Int := sumTo (fun i => (h i : Int)) n
/-- How much numbers are above t. -/
def over (t : Int) (r : List Int) : Int := (r.map (fun x => max (x - t) 0)).sum
def ovs (t : Int) (R : Nat → List Int) (n : Nat) : Int := sumTo (fun i => over t (R i)) n

theorem over_nil (t : Int) : over t [] = 0 := rfl
theorem over_cons (t x : Int) (r : List Int) : over t (x :: r) = max (x - t) 0 + over t r := by simp [over]
theorem over_nn (t : Int) : ∀ r : List Int, 0 ≤ over t r
  | [] => by simp [over]
  | x :: r => by have := over_nn t r; rw [over_cons]; omega
theorem over_anti {s t : Int} (h : s ≤ t) : ∀ r : List Int, over t r ≤ over s r
  | [] => by simp [over]
  | x :: r => by have := over_anti h r; rw [over_cons, over_cons]; omega

theorem pre_bound {t : Int} (ht : 0 ≤ t) : ∀ (r : List Int) (c : Nat), pre r c ≤ c * t + over t r
  | [], c => by
    have : 0 ≤ (c : Int) * t := Int.mul_nonneg (by omega) ht
    rw [pre_nil, over_nil]; omega
  | x :: r, 0 => by
    have := over_nn t (x :: r)
    rw [pre_zero]; simp; exact this
  | x :: r, c + 1 => by
    have h1 := pre_bound ht r c
    rw [pre_cons, over_cons]
    have e : ((c + 1 : Nat) : Int) * t = c * t + t := by push_cast; rw [Int.add_mul]; omega
    rw [e]
    omega

theorem convTo_bound {f : Nat → Int} {r : List Int} {t F : Int} (ht : 0 ≤ t) (x : Nat) (hf : ∀ y, y ≤ x → f y ≤ y * t + F) : ∀ m, m ≤ x → convTo f r x m ≤ x * t + (F + over t r)
  | 0, _ => by
    have h1 := hf x (Nat.le_refl _)
    have h2 := over_nn t r
    rw [convTo]; omega
  | m + 1, hm => by
    have h1 := convTo_bound ht x hf m (by omega) (r := r)
    have h2 := hf (x - (m + 1)) (by omega)
    have h3 := pre_bound ht r (m + 1)
    obtain ⟨y, rfl⟩ : ∃ y, x = y + (m + 1) := ⟨x - (m + 1), by omega⟩
    rw [show y + (m + 1) - (m + 1) = y by omega] at h2
    have e : ((y + (m + 1) : Nat) : Int) * t = y * t + ((m + 1 : Nat) : Int) * t := by push_cast; rw [Int.add_mul]
    rw [convTo, show y + (m + 1) - (m + 1) = y by omega]
    omega
theorem convTo_ge {f : Nat → Int} {r : List Int} {x own : Nat} : ∀ m, own ≤ m → f (x - own) + pre r own ≤ convTo f r x m
  | 0, h => by
    obtain rfl : own = 0 := by omega
    rw [convTo, pre_zero]; simp
  | m + 1, h => by
    rw [convTo]
    rcases Nat.lt_or_ge own (m + 1) with h1 | h1
    · have := convTo_ge m (by omega) (f := f) (r := r) (x := x) (own := own); omega
    · obtain rfl : own = m + 1 := by omega
      omega

/-- No number of units is worth more at best than at a price t each, and what is above it. -/
theorem bst_bound {R : Nat → List Int} {t : Int} (ht : 0 ≤ t) : ∀ n k, bst R n k ≤ k * t + ovs t R n
  | 0, k => by
    have : 0 ≤ (k : Int) * t := Int.mul_nonneg (by omega) ht
    simp [bst, ovs, sumTo]; omega
  | n + 1, k => by
    have := convTo_bound (f := bst R n) (r := R n) (F := ovs t R n) ht k (fun y _ => bst_bound ht n y) k (Nat.le_refl _)
    exact this
/-- What is given is worth no more than the best. -/
theorem bst_ge {R : Nat → List Int} {h : Nat → Nat} : ∀ n (k : Nat), cnt h n ≤ k → val R h n ≤ bst R n k
  | 0, k, _ => by simp [bst, val, sumTo]
  | n + 1, k, hk => by
    have e : cnt h (n + 1) = cnt h n + h n := rfl
    have h0 : 0 ≤ cnt h n := sumTo_nn (fun i _ => by omega)
    have h1 := bst_ge n (k - h n) (by omega) (R := R) (h := h)
    have h2 := convTo_ge (f := bst R n) (r := R n) (x := k) (own := h n) k (by omega)
    have e2 : val R h (n + 1) = val R h n + pre (R n) (h n) := rfl
    have e3 : bst R (n + 1) k = convTo (bst R n) (R n) k k := rfl
    rw [e2, e3]; omega

/-- The numbers had are those above t. -/
theorem had_is {t : Int} : ∀ (r : List Int) (c : Nat), c ≤ r.length → (∀ (j : Nat) (x : Int), j < c → r[j]? = some x → t ≤ x) → (∀ (j : Nat) (x : Int), c ≤ j → r[j]? = some x → x ≤ t) → pre r c = c * t + over t r
  | [], c, hc, _, _ => by
    obtain rfl : c = 0 := by simpa using hc
    simp [pre, over]
  | x :: r, 0, _, _, h2 => by
    have h3 := had_is r 0 (Nat.zero_le _) (fun j y hj => absurd hj (by omega)) (fun j y _ hy => h2 (j + 1) y (by omega) (by simpa using hy))
    have h4 := h2 0 x (Nat.le_refl _) rfl
    rw [pre_zero] at h3 ⊢
    rw [over_cons]
    simp at h3 ⊢
    omega
  | x :: r, c + 1, hc, h1, h2 => by
    have h3 := had_is r c (by simpa using hc) (fun j y hj hy => h1 (j + 1) y (by omega) (by simpa using hy)) (fun j y hj hy => h2 (j + 1) y (by omega) (by simpa using hy))
    have h4 := h1 0 x (by omega) rfl
    rw [pre_cons, over_cons, h3]
    have e : ((c + 1 : Nat) : Int) * t = c * t + t := by push_cast; rw [Int.add_mul]; omega
    rw [e]
    omega

theorem bst_nn {R : Nat → List Int} (n k : Nat) : 0 ≤ bst R n k := by
  have h := bst_ge (R := R) (h := fun _ => 0) n k (by
    have : cnt (fun _ => 0) n = 0 := by
      have := sumTo_const 0 n
      simpa [cnt] using this
    omega)
  have e : val R (fun _ => 0) n = 0 := by
    have : val R (fun _ => 0) n = sumTo (fun _ => 0) n := sumTo_congr (fun i _ => pre_zero _)
    rw [this, sumTo_const]; simp
  omega

end Go.Proofs.Ytnojlapjkdihmaa
