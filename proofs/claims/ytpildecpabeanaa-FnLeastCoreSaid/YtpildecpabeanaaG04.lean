/-
  Chapter 1, bids: the contracts of ValidBids, of the program and of the model, and of what they call.
-/
import Derived.Test.YtpildecpabeanaaG00
import Derived.Test.YtpildecpabeanaaG01
namespace Go.Proofs.Ytpildecpabeanaa
open Go.RowKit

/-- A number in a range. -/
def inR (n lo hi : Int) : Bool := decide (lo ≤ n) && decide (n ≤ hi)
theorem inR_true {n lo hi : Int} : inR n lo hi = true ↔ lo ≤ n ∧ n ≤ hi := by simp [inR]
theorem inR_false {n lo hi : Int} : inR n lo hi = false ↔ ¬ (lo ≤ n ∧ n ≤ hi) := by simp [inR]

/-- Numbers are bids. -/
def vB (xs : List Int) : Bool := inR xs.length 1 6 && xs.all (fun x => inR x 0 30)

theorem inRange_any (n lo hi : Int) (w : World) :
    Calls Try.prog 69 #[.int .i64 n, .int .i64 lo, .int .i64 hi] w fun e w' => e = .returned (.bool (inR n lo hi)) ∧ w = w' := by
  by_cases h1 : lo ≤ n
  · by_cases h2 : n ≤ hi
    · have HE := Lib.hid (inR_true.2 ⟨h1, h2⟩)
      go_enter Try.func69, Try.ntmps69
      go_wp2
      go_ret
      exact ⟨by rw [HE.out]; rfl, rfl⟩
    · have HE := Lib.hid (inR_false.2 (fun h : lo ≤ n ∧ n ≤ hi => h2 h.2))
      go_enter Try.func69, Try.ntmps69
      go_wp2
      go_ret
      exact ⟨by rw [HE.out]; rfl, rfl⟩
  · have HE := Lib.hid (inR_false.2 (fun h : lo ≤ n ∧ n ≤ hi => h1 h.1))
    go_enter Try.func69, Try.ntmps69
    go_wp2
    go_ret
    exact ⟨by rw [HE.out]; rfl, rfl⟩

theorem isBid_any (n : Int) (w : World) :
    Calls Try.prog 66 #[.int .i64 n] w fun e w' => e = .returned (.bool (inR n 0 30)) ∧ w = w' := by
  by_cases h1 : 0 ≤ n
  · by_cases h2 : n ≤ 30
    · have HE := Lib.hid (inR_true.2 ⟨h1, h2⟩)
      go_enter Try.func66, Try.ntmps66
      go_wp2
      go_ret
      exact ⟨by rw [HE.out]; rfl, rfl⟩
    · have HE := Lib.hid (inR_false.2 (fun h : 0 ≤ n ∧ n ≤ 30 => h2 h.2))
      go_enter Try.func66, Try.ntmps66
      go_wp2
      go_ret
      exact ⟨by rw [HE.out]; rfl, rfl⟩
  · have HE := Lib.hid (inR_false.2 (fun h : 0 ≤ n ∧ n ≤ 30 => h1 h.1))
    go_enter Try.func66, Try.ntmps66
    go_wp2
    go_ret
    exact ⟨by rw [HE.out]; rfl, rfl⟩

theorem all_at {xs : List Int} {p : Int → Bool} {k : Nat} {x : Int} (hx : xs[k]? = some x) (h : p x = false) : xs.all p = false := by
  rw [List.all_eq_false]
  exact ⟨x, List.mem_of_getElem? hx, by simp [h]⟩
theorem all_step {xs : List Int} {p : Int → Bool} {k : Nat} {x : Int} (hx : xs[k]? = some x) (h : p x = true) (ht : (xs.take k).all p = true) : (xs.take (k + 1)).all p = true := by
  rw [List.take_add_one, hx]; simp at ht ⊢; exact ⟨ht, h⟩
theorem vB_bad {xs : List Int} (h : xs.all (fun x => inR x 0 30) = false) : vB xs = false := by simp only [vB, h, Bool.and_false]
theorem vB_all {xs : List Int} (h : (xs.take xs.length).all (fun x => inR x 0 30) = true) : vB xs = inR xs.length 1 6 := by
  rw [List.take_length] at h; simp only [vB, h, Bool.and_true]
theorem vB_len {xs : List Int} (h : inR xs.length 1 6 = false) : vB xs = false := by simp only [vB, h, Bool.false_and]

set_option maxHeartbeats 400000 in
theorem validBids_any (A : Option Addr) (c : Nat) (xs : List Int) (w : World) (h : Rd w A c xs) (hl : xs.length ≤ 1099511627776) :
    Calls Try.prog 117 #[.slice A xs.length c] w fun e w' => e = .returned (.bool (vB xs)) ∧ w = w' := by
  go_enter Try.func117, Try.ntmps117
  go_wp2
  go_loop [3] (fun i => ∃ k : Nat, k ≤ xs.length ∧ i = .int .i64 k ∧ Hid ((xs.take k).all (fun x => inR x 0 30) = true)) (fun i => xs.length - (intOf i).toNat)
  case atStart => exact ⟨0, Nat.zero_le _, rfl, Lib.hid rfl⟩
  case round =>
    obtain ⟨k, hk, rfl, HT⟩ := hrel
    by_cases hlt : k < xs.length
    · obtain ⟨b, off, x, rfl, _, hx, hc⟩ := h.at_ hlt
      go_wp2_with fail
      refine (inRange_any _ _ _ _).mono ?_
      rintro e w' ⟨rfl, rfl⟩
      cases hb : inR x 0 30 with
      | true =>
        have HT' := Lib.hid (all_step hx.out hb HT.out)
        clear hb
        go_wp2
        go_round
        case rel => exact ⟨k + 1, by omega, by go_num, HT'⟩
        case measure => simp [intOf]; omega
      | false =>
        have HE := Lib.hid (vB_bad (all_at (p := fun x => inR x 0 30) hx.out hb))
        clear hb
        go_wp2
        go_ret
        exact ⟨by rw [HE.out]; rfl, rfl⟩
    · obtain rfl : k = xs.length := by omega
      have HE := Lib.hid (vB_all HT.out)
      go_wp2_with (refine (inRange_any _ _ _ _).mono ?_; rintro e w' ⟨rfl, rfl⟩)
      go_ret
      exact ⟨by rw [HE.out]; rfl, rfl⟩

set_option maxHeartbeats 400000 in
/-- areAll at bids. -/
theorem areBids_any (A : Option Addr) (c : Nat) (xs : List Int) (w : World) (h : Rd w A c xs) (hl : xs.length ≤ 1099511627776) :
    Calls Try.prog 78 #[.slice A xs.length c, .int .i64 6, .func (.func 66) #[] #[]] w fun e w' => e = .returned (.bool (vB xs)) ∧ w = w' := by
  by_cases h1 : 1 ≤ xs.length
  · by_cases h2 : xs.length ≤ 6
    · have HR := Lib.hid (inR_true (n := (xs.length : Int)) (lo := 1) (hi := 6) |>.2 ⟨by omega, by omega⟩)
      go_enter Try.func78, Try.ntmps78
      go_wp2
      go_loop [20] (fun i => ∃ k : Nat, k ≤ xs.length ∧ i = .int .i64 k ∧ Hid ((xs.take k).all (fun x => inR x 0 30) = true)) (fun i => xs.length - (intOf i).toNat)
      case atStart => exact ⟨0, Nat.zero_le _, rfl, Lib.hid rfl⟩
      case round =>
        obtain ⟨k, hk, rfl, HT⟩ := hrel
        by_cases hlt : k < xs.length
        · obtain ⟨b, off, x, rfl, _, hx, hc⟩ := h.at_ hlt
          go_wp2_with fail
          refine (isBid_any _ _).mono ?_
          rintro e w' ⟨rfl, rfl⟩
          cases hb : inR x 0 30 with
          | true =>
            have HT' := Lib.hid (all_step hx.out hb HT.out)
            clear hb
            go_wp2
            go_round
            case rel => exact ⟨k + 1, by omega, by go_num, HT'⟩
            case measure => simp [intOf]; omega
          | false =>
            have HE := Lib.hid (vB_bad (all_at (p := fun x => inR x 0 30) hx.out hb))
            clear hb
            go_wp2
            go_ret
            exact ⟨by rw [HE.out]; rfl, rfl⟩
        · obtain rfl : k = xs.length := by omega
          have HE := Lib.hid (vB_all HT.out)
          go_wp2
          go_ret
          exact ⟨by rw [HE.out, HR.out]; rfl, rfl⟩
    · have HE := Lib.hid (vB_len (inR_false (n := (xs.length : Int)) (lo := 1) (hi := 6) |>.2 (by omega)))
      go_enter Try.func78, Try.ntmps78
      go_wp2
      go_ret
      exact ⟨by rw [HE.out]; rfl, rfl⟩
  · have HE := Lib.hid (vB_len (inR_false (n := (xs.length : Int)) (lo := 1) (hi := 6) |>.2 (by omega)))
    go_enter Try.func78, Try.ntmps78
    go_wp2
    go_ret
    exact ⟨by rw [HE.out]; rfl, rfl⟩

theorem ValidBids_any (A : Option Addr) (c : Nat) (xs : List Int) (w : World) (h : Rd w A c xs) (hl : xs.length ≤ 1099511627776) :
    Calls Try.prog 65 #[.slice A xs.length c] w fun e w' => e = .returned (.bool (vB xs)) ∧ w = w' := by
  have HC := Lib.hid (areBids_any A c xs w h hl)
  go_enter Try.func65, Try.ntmps65
  go_wp2_with (go_at_call 78; refine HC.out.mono ?_; rintro e w' ⟨rfl, rfl⟩)
  go_ret
  exact ⟨rfl, rfl⟩

end Go.Proofs.Ytpildecpabeanaa

/-
  The exact laws' helpers that mark a slice of ints, and that ask whether the marks are held.
-/
namespace Go.Proofs.Ytpildecpabeanaa
open Go.RowKit

/-- k, one more, and so on. -/
def upF (k : Int) (n : Nat) : List Int := (List.range n).map (fun i => k + (i : Nat))
theorem upF_len (k : Int) (n : Nat) : (upF k n).length = n := by simp [upF]
theorem upF_at (k : Int) (n i : Nat) (h : i < n) : (upF k n)[i]? = some (k + i) := by simp [upF, h]

/-- The first j places marked from k on, the others as they were. -/
def markd (k : Int) (xs : List Int) (j : Nat) : List Int := upF k j ++ xs.drop j
theorem markd_len (k : Int) (xs : List Int) (j : Nat) (hj : j ≤ xs.length) : (markd k xs j).length = xs.length := by simp [markd, upF_len]; omega
theorem markd_zero (k : Int) (xs : List Int) : markd k xs 0 = xs := by simp [markd, upF]
theorem markd_all (k : Int) (xs : List Int) : markd k xs xs.length = upF k xs.length := by simp [markd]
theorem markd_set (k : Int) (xs : List Int) (j : Nat) (hj : j < xs.length) : (markd k xs j).set j (k + j) = markd k xs (j + 1) := by
  unfold markd
  rw [List.set_append, if_neg (by rw [upF_len]; omega), upF_len, Nat.sub_self]
  rw [List.drop_eq_getElem_cons hj, List.set_cons_zero]
  simp [upF, List.range_succ]

theorem own_block (A : Option Addr) (n c : Nat) : (Value.slice A n c).ownBlock = ofA A := by cases A <;> rfl

theorem Own.kept_ {w w' : World} {B : Nat} {A A2 : Option Addr} {c : Nat} {xs : List Int} (h : Own w B A c xs) (hg : w.grownBy w' (ofA A2)) (hne : ofA A = none ∨ ofA A ≠ ofA A2) : Own w' B A c xs :=
  World.ownsRow.kept h hg (by rw [own_block]; exact hne)

theorem Own.apart {wa wb : World} {B1 B2 : Nat} {A1 A2 : Option Addr} {c1 c2 : Nat} {xs ys : List Int} (h1 : Own wa B1 A1 c1 xs) (h2 : Own wb B2 A2 c2 ys) (hlt : wa.heap.size ≤ B2) : (ofA A1 = none ∨ ofA A1 ≠ ofA A2) ∧ (ofA A2 = none ∨ ofA A2 ≠ ofA A1) := by
  have e : ∀ k, ofA A1 = some k → ofA A2 = some k → False := by
    intro k hk1 hk2
    have l1 := (World.ownsRow.lt h1 k (by rw [own_block]; exact hk1)).2
    have l2 := (World.ownsRow.lt h2 k (by rw [own_block]; exact hk2)).1
    omega
  constructor
  · rcases hA : ofA A1 with _ | k
    · exact .inl rfl
    · exact .inr (fun h => e k hA h.symm)
  · rcases hA : ofA A2 with _ | k
    · exact .inl rfl
    · exact .inr (fun h => e k h.symm hA)

theorem Own.grownBelow {w w' wa : World} {B B2 : Nat} {A2 : Option Addr} {c2 : Nat} {ys : List Int} (hb : Below B wa w) (h2 : Own w B2 A2 c2 ys) (hB : B ≤ B2) (hs : B ≤ w.heap.size) (hg : w.grownBy w' (ofA A2)) : Below B wa w' :=
  hb.grown hg hs (fun k hk => Nat.le_trans hB (World.ownsRow.lt h2 k (by rw [own_block]; exact hk)).1)

end Go.Proofs.Ytpildecpabeanaa

/-
  An append of ints onto a row of the call's own, or onto nil.
-/
namespace Go.Proofs.Ytpildecpabeanaa
open Go.RowKit

/-- 'append(xs, zs...)' at slices of ints of whatever named type. -/
theorem run_append_intsT (T ty : TypeId) (hT : Try.prog.underlying T = some (.slice 3)) (w : World) (base : Nat) (A0 : Option Addr) (c0 : Nat) (xs : List Int) (hown : Own w base A0 c0 xs) (A : Option Addr) (c : Nat) (zs : List Int) (hr : Rd w A c zs)
    (hn : xs.length + zs.length ≤ 1099511627776) (hbase : base ≤ w.heap.size) :
    ∃ A' c' w', (Builtin.append_ #[T, T] ty #[.slice A0 xs.length c0, .slice A zs.length c]).run Try.prog w = .ok (.slice A' (xs.length + zs.length) c') w' ∧
      Own w' base A' c' (xs ++ zs) ∧ w.grownBy w' (ofA A0) := by
  obtain ⟨i0, hi, hz0, hz1, hz2⟩ := info_parts int_info
  have hblk : (Value.slice A0 xs.length c0).ownBlock = ofA A0 := by cases A0 <;> rfl
  cases A with
  | none =>
    obtain ⟨rfl, rfl⟩ : zs = [] ∧ c = 0 := by
      rcases hr with h | ⟨b, off, h, _⟩
      · exact ⟨h.1, h.2 rfl⟩
      · cases h
    exact ⟨A0, c0, w, run_append_owned_none (P := Try.prog) (w := w) base T ty 3 i0 1 hT hi _ _ _ hown, by simpa using hown, World.grownBy.refl _ _⟩
  | some ad =>
    obtain ⟨v', w', hrun, h2, h3, _⟩ := run_append_own_at (P := Try.prog) w base T ty 3 i0 (.int .i64 0) 1 8 hT hi hz0 hz1 hz2 rfl (by decide) (.slice A0 xs.length c0) xs.length (xs.map (Value.int .i64)) hown ad zs.length c (zs.map (Value.int .i64)) (by simp) hr.news (ints_oneCell _ _)
      (by unfold maxLen; omega) (by omega) hbase
    rw [← List.map_append] at h2
    obtain ⟨_, ⟨hv, hz⟩ | ⟨g, c', hv⟩⟩ := own_shape h2
    · have hx : xs = [] ∧ zs = [] := by simpa using hz
      obtain ⟨rfl, rfl⟩ := hx
      subst hv
      exact ⟨none, 0, w', hrun, h2, hblk ▸ h3⟩
    · subst hv
      rw [List.length_append] at hrun h2
      exact ⟨_, c', w', hrun, by unfold Own; rw [List.length_append]; exact h2, hblk ▸ h3⟩

theorem wpList_append_any {ops : Array Oper} {rest : List Oper} {o : Oper} {a : Act} {w : World} {Q : Exit → Act → World → Prop} (hgd : o.guard = none) (s x : Operand) (T : TypeId) (hT : Try.prog.underlying T = some (.slice 3))
    (ho : o.op = .call { callee := .builtin .append, args := #[s, x], argTypes := #[T, T] })
    (base : Nat) (A0 : Option Addr) (c0 : Nat) (xs : List Int) (n : Nat) (hxn : xs.length = n) (hs : a.eval s = .slice A0 n c0) (hown : Own w base A0 c0 xs)
    (A : Option Addr) (c : Nat) (zs : List Int) (m : Nat) (hzm : zs.length = m) (hx : a.eval x = .slice A m c) (hr : Rd w A c zs)
    (hn : n + m ≤ 1099511627776) (hbase : base ≤ w.heap.size)
    (h : ∀ A' c' w', Own w' base A' c' (xs ++ zs) → w.grownBy w' (ofA A0) → wpList Try.prog ops Q rest (a.put o.dst (.slice A' (n + m) c')) w') :
    wpList Try.prog ops Q (o :: rest) a w :=
  wpList_plain hgd fun _ hK => by
    subst hxn hzm
    obtain ⟨A', c', w', hrun, h1, h2⟩ := run_append_intsT T o.type hT w base A0 c0 xs hown A c zs hr hn hbase
    unfold Oper.wp execOp
    simp only [ho, resolve, invoke, builtin, Sem.run_bind, Sem.run_pure, Result.andThen_ok, List.map_toArray, List.map_cons, List.map_nil, hs, hx, hrun]
    exact hK _ _ (h A' c' w' h1 h2)

theorem Own.grownBelow0 {w w' wa : World} {B : Nat} {A0 : Option Addr} {c0 : Nat} {xs : List Int} (hb : Below B wa w) (ho : Own w B A0 c0 xs) (hs : B ≤ w.heap.size) (hg : w.grownBy w' (ofA A0)) : Below B wa w' :=
  hb.grown hg hs (fun k hk => (World.ownsRow.lt ho k (by rw [own_block]; exact hk)).1)

theorem intsU_info : (Try.prog.info? 23).map (fun i => (i.zero, i.size, i.bytes)) = some (some (.slice none 0 0), 1, 24) := by kernel_rfl

end Go.Proofs.Ytpildecpabeanaa

/-
  Chapter 4: tables of sets of things: what tells them, of the program and of the model.
-/
namespace Go.Proofs.Ytpildecpabeanaa
open Go.RowKit

theorem and_nat {a b : Nat} (ha : a < 8) (hb : b < 8) : bits .and .i64 (a : Int) (b : Int) = ((a &&& b : Nat) : Int) := by
  have : ∀ a, a < 8 → ∀ b, b < 8 → bits .and .i64 ((a : Nat) : Int) ((b : Nat) : Int) = ((a &&& b : Nat) : Int) := by decide
  exact this a ha b hb
theorem or_nat {a b : Nat} (ha : a < 8) (hb : b < 8) : bits .or .i64 (a : Int) (b : Int) = ((a ||| b : Nat) : Int) := by
  have : ∀ a, a < 8 → ∀ b, b < 8 → bits .or .i64 ((a : Nat) : Int) ((b : Nat) : Int) = ((a ||| b : Nat) : Int) := by decide
  exact this a ha b hb
theorem andNot_nat {a b : Nat} (ha : a < 8) (hb : b < 8) : bits .andNot .i64 (a : Int) (b : Int) = ((a - (a &&& b) : Nat) : Int) := by
  have : ∀ a, a < 8 → ∀ b, b < 8 → bits .andNot .i64 ((a : Nat) : Int) ((b : Nat) : Int) = ((a - (a &&& b) : Nat) : Int) := by decide
  exact this a ha b hb

theorem Spower_any (j : Nat) (hj : j ≤ 3) (w : World) :
    Calls Try.prog 113 #[.int .i64 (j : Int)] w fun e w' => e = .returned (.int .i64 ((2 ^ j : Nat) : Int)) ∧ w = w' := by
  go_enter Try.func113, Try.ntmps113
  go_wp2
  go_loop [0, 3] (fun n o => ∃ m : Nat, m ≤ j ∧ n = .int .i64 (m : Int) ∧ o = .int .i64 ((2 ^ (j - m) : Nat) : Int)) (fun n _ => (intOf n).toNat)
  case atStart => exact ⟨j, Nat.le_refl _, rfl, by simp⟩
  case round =>
    obtain ⟨m, hm, rfl, rfl⟩ := hrel
    cases m with
    | zero =>
      go_wp2
      go_ret
      exact ⟨rfl, rfl⟩
    | succ m =>
      have hp : 2 ^ (j - (m + 1)) ≤ 4 := by
        have : j - (m + 1) ≤ 2 := by omega
        calc 2 ^ (j - (m + 1)) ≤ 2 ^ 2 := Nat.pow_le_pow_right (by decide) this
          _ = 4 := rfl
      have he : 2 ^ (j - m) = 2 * 2 ^ (j - (m + 1)) := by rw [show j - m = (j - (m + 1)) + 1 by omega, Nat.pow_succ]; omega
      obtain ⟨q, hq⟩ : ∃ q, q = 2 ^ (j - (m + 1)) := ⟨_, rfl⟩
      rw [← hq] at hp he ⊢
      have HE := Lib.hid he
      have hm' : (0 : Int) < ((m + 1 : Nat) : Int) := by omega
      clear hq he
      go_wp2
      go_round
      case rel => exact ⟨m, by omega, by go_num, by rw [HE.out]; go_num⟩
      case measure => simp [intOf]

theorem Sbit_any (x j : Nat) (hx : x < 8) (hj : j < 3) (w : World) :
    Calls Try.prog 139 #[.int .i64 (x : Int), .int .i64 (j : Int)] w fun e w' => e = .returned (.int .i64 ((x / 2 ^ j % 2 : Nat) : Int)) ∧ w = w' := by
  have HP := Lib.hid (fun w => Spower_any j (by omega) w)
  have hv : (wrap64 ((x : Int) / ((2 ^ j : Nat) : Int))).tmod 2 = ((x / 2 ^ j % 2 : Nat) : Int) := by
    have : ∀ x, x < 8 → ∀ j, j < 3 → (wrap64 (((x : Nat) : Int) / ((2 ^ j : Nat) : Int))).tmod 2 = ((x / 2 ^ j % 2 : Nat) : Int) := by decide +kernel
    exact this x hx j hj
  obtain ⟨p, hp⟩ : ∃ p, p = 2 ^ j := ⟨_, rfl⟩
  have hp0 : (p : Int) ≠ 0 := by
    have : 0 < 2 ^ j := Nat.pow_pos (by decide)
    omega
  rw [← hp] at HP hv ⊢
  have HV := Lib.hid hv
  clear hv hp
  go_enter Try.func139, Try.ntmps139
  go_wp2_with (go_at_call 113; refine (HP.out _).mono ?_; rintro e w1 ⟨rfl, rfl⟩)
  go_ret
  exact ⟨by rw [← HV.out]; rfl, rfl⟩


theorem bit_cases (s j : Nat) : s / 2 ^ j % 2 = 0 ∨ s / 2 ^ j % 2 = 1 := by omega
theorem and_pow {s j : Nat} (hs : s < 8) (hj : j < 3) : bits .and .i64 (s : Int) ((2 ^ j : Nat) : Int) = ((s / 2 ^ j % 2 * 2 ^ j : Nat) : Int) := by
  have : ∀ s, s < 8 → ∀ j, j < 3 → bits .and .i64 ((s : Nat) : Int) ((2 ^ j : Nat) : Int) = ((s / 2 ^ j % 2 * 2 ^ j : Nat) : Int) := by decide
  exact this s hs j hj
theorem thTo_len (s : Nat) : ∀ k, (thTo s k).length ≤ k
  | 0 => by simp [thTo]
  | k + 1 => by have := thTo_len s k; simp only [thTo]; split <;> simp <;> omega
theorem thTo_yes {s k : Nat} (h : s / 2 ^ k % 2 = 1) : thTo s (k + 1) = thTo s k ++ [(k : Int)] := by simp [thTo, h]
theorem thTo_no {s k : Nat} (h : s / 2 ^ k % 2 = 0) : thTo s (k + 1) = thTo s k := by simp [thTo, h]

set_option maxHeartbeats 800000 in
theorem thingsIn_any (s : Nat) (hs : s < 8) (w : World) :
    Calls Try.prog 146 #[.int .i64 (s : Int)] w fun e w' => ∃ A c, e = .returned (.slice A (th s).length c) ∧ Own w' w.heap.size A c (th s) ∧ Below w.heap.size w w' := by
  go_enter Try.func146, Try.ntmps146
  go_wp2
  go_loopw [3, 5] (fun v i wr => ∃ (k n : Nat) (A : Option Addr) (c : Nat), k ≤ 3 ∧ i = .int .i64 (k : Int) ∧ v = .slice A n c ∧ Hid (n = (thTo s k).length) ∧ n ≤ 3 ∧ Hid (Own wr w.heap.size A c (thTo s k)) ∧ Below w.heap.size w wr) (fun _ i _ => 3 - (intOf i).toNat)
  case atStart => exact ⟨0, 0, none, 0, by omega, rfl, rfl, Lib.hid rfl, by omega, Lib.hid (own_none _ _), Below.refl _ _⟩
  case round =>
    obtain ⟨k, n, A, c, hk, rfl, rfl, HN, hn, HO, hb⟩ := hrel
    by_cases hlt : k < 3
    · have hp := Lib.hid (and_pow hs hlt)
      have HK : Hid ((thTo s k).length ≤ k) := Lib.hid (thTo_len s k)
      rcases bit_cases s k with h0 | h1
      · have HT := Lib.hid (thTo_no h0)
        have hz : bits .and .i64 (s : Int) ((2 ^ k : Nat) : Int) = 0 := by rw [hp.out, h0]; simp
        clear h0
        have HS : Hid (Own wr w.heap.size A c (thTo s (k + 1))) := Lib.hid (by rw [HT.out]; exact HO.out)
        have HL : Hid (n = (thTo s (k + 1)).length) := Lib.hid (by rw [HT.out]; exact HN.out)
        clear HT HO HN hp
        have : k = 0 ∨ k = 1 ∨ k = 2 := by omega
        rcases this with rfl | rfl | rfl
        · have hz1 : bits .and .i64 (s : Int) 1 = 0 := hz
          clear hz
          go_wp2
          go_roundw
          case rel => exact ⟨1, n, A, c, by omega, by go_num, rfl, HL, hn, HS, hb⟩
          case measure => simp [intOf]
        · have hz1 : bits .and .i64 (s : Int) 2 = 0 := hz
          clear hz
          go_wp2
          go_roundw
          case rel => exact ⟨2, n, A, c, by omega, by go_num, rfl, HL, hn, HS, hb⟩
          case measure => simp [intOf]
        · have hz1 : bits .and .i64 (s : Int) 4 = 0 := hz
          clear hz
          go_wp2
          go_roundw
          case rel => exact ⟨3, n, A, c, by omega, by go_num, rfl, HL, hn, HS, hb⟩
          case measure => simp [intOf]
      · have HT := Lib.hid (thTo_yes h1)
        have hz : bits .and .i64 (s : Int) ((2 ^ k : Nat) : Int) = ((2 ^ k : Nat) : Int) := by rw [hp.out, h1]; simp
        clear h1
        have HOL : Hid (Own (wr.alloc (.cells #[.int .i64 (k : Int)] 3)) wr.heap.size (some ⟨wr.heap.size, 0, none⟩) 1 [(k : Int)]) := Lib.hid (own_lit wr [(k : Int)] (by simp))
        have HOA : Hid (Own (wr.alloc (.cells #[.int .i64 (k : Int)] 3)) w.heap.size A c (thTo s k)) := Lib.hid (World.ownsRow.alloc HO.out _)
        have hbA := hb.alloc hb.size (.cells #[.int .i64 (k : Int)] 3)
        have hn2 : n ≤ 2 := by have := HN.out; have := HK.out; omega
        clear HO hp
        have : k = 0 ∨ k = 1 ∨ k = 2 := by omega
        rcases this with rfl | rfl | rfl
        · have hz1 : bits .and .i64 (s : Int) 1 = 1 := hz
          clear hz
          go_wp2_with (at_builtin; refine wpList_append_any rfl _ _ 23 Try.underlying23 rfl w.heap.size A c (thTo s 0) n HN.out.symm rfl HOA.out _ _ [0] 1 rfl rfl HOL.out.rd (by omega) hbA.size ?_; intro A4 c4 w4 o4 g4)
          have B4 := Own.grownBelow0 hbA HOA.out hbA.size g4
          have HO4 : Hid (Own w4 w.heap.size A4 c4 (thTo s 1)) := Lib.hid (by rw [HT.out]; exact o4)
          have HN4 : Hid (n + 1 = (thTo s 1).length) := Lib.hid (by rw [HT.out, List.length_append, ← HN.out]; rfl)
          go_wp2
          go_roundw
          case rel => exact ⟨1, n + 1, A4, c4, by omega, by go_num, rfl, HN4, by omega, HO4, B4⟩
          case measure => simp [intOf]
        · have hz1 : bits .and .i64 (s : Int) 2 = 2 := hz
          clear hz
          go_wp2_with (at_builtin; refine wpList_append_any rfl _ _ 23 Try.underlying23 rfl w.heap.size A c (thTo s 1) n HN.out.symm rfl HOA.out _ _ [1] 1 rfl rfl HOL.out.rd (by omega) hbA.size ?_; intro A4 c4 w4 o4 g4)
          have B4 := Own.grownBelow0 hbA HOA.out hbA.size g4
          have HO4 : Hid (Own w4 w.heap.size A4 c4 (thTo s 2)) := Lib.hid (by rw [HT.out]; exact o4)
          have HN4 : Hid (n + 1 = (thTo s 2).length) := Lib.hid (by rw [HT.out, List.length_append, ← HN.out]; rfl)
          go_wp2
          go_roundw
          case rel => exact ⟨2, n + 1, A4, c4, by omega, by go_num, rfl, HN4, by omega, HO4, B4⟩
          case measure => simp [intOf]
        · have hz1 : bits .and .i64 (s : Int) 4 = 4 := hz
          clear hz
          go_wp2_with (at_builtin; refine wpList_append_any rfl _ _ 23 Try.underlying23 rfl w.heap.size A c (thTo s 2) n HN.out.symm rfl HOA.out _ _ [2] 1 rfl rfl HOL.out.rd (by omega) hbA.size ?_; intro A4 c4 w4 o4 g4)
          have B4 := Own.grownBelow0 hbA HOA.out hbA.size g4
          have HO4 : Hid (Own w4 w.heap.size A4 c4 (thTo s 3)) := Lib.hid (by rw [HT.out]; exact o4)
          have HN4 : Hid (n + 1 = (thTo s 3).length) := Lib.hid (by rw [HT.out, List.length_append, ← HN.out]; rfl)
          go_wp2
          go_roundw
          case rel => exact ⟨3, n + 1, A4, c4, by omega, by go_num, rfl, HN4, by omega, HO4, B4⟩
          case measure => simp [intOf]
    · obtain rfl : k = 3 := by omega
      have HN' : Hid (n = (th s).length) := HN
      go_wp2
      go_ret
      exact ⟨A, c, by rw [← HN'.out]; rfl, HO.out, hb⟩

end Go.Proofs.Ytpildecpabeanaa

/-
  Chapter 4: the contracts of bestLess, ValidTable and validTable.
-/
namespace Go.Proofs.Ytpildecpabeanaa
open Go.RowKit

theorem thTo_mem {s : Nat} : ∀ {k : Nat} {x : Int}, x ∈ thTo s k → ∃ j : Nat, x = (j : Int) ∧ j < k ∧ s / 2 ^ j % 2 = 1
  | 0, x, h => by simp [thTo] at h
  | k + 1, x, h => by
    simp only [thTo] at h
    split at h
    · next hb =>
      rcases List.mem_append.1 h with h | h
      · obtain ⟨j, h1, h2, h3⟩ := thTo_mem h
        exact ⟨j, h1, by omega, h3⟩
      · simp at h
        exact ⟨k, h, by omega, hb⟩
    · obtain ⟨j, h1, h2, h3⟩ := thTo_mem h
      exact ⟨j, h1, by omega, h3⟩
theorem th_at {s i : Nat} {x : Int} (h : (th s)[i]? = some x) : ∃ j : Nat, x = (j : Int) ∧ j < 3 ∧ s / 2 ^ j % 2 = 1 := thTo_mem (List.mem_of_getElem? h)
theorem th_le (s : Nat) : (th s).length ≤ 3 := thTo_len s 3
/-- The best of what is one thing less, of the first i things of the set. -/
def bstL (t : List Int) (s i : Nat) : Int := ((th s).take i).foldl (fun m j => max m (T t (s - 2 ^ j.toNat))) 0
theorem bstL_zero (t : List Int) (s : Nat) : bstL t s 0 = 0 := by simp [bstL]
theorem bstL_step (t : List Int) {s i j : Nat} (h : (th s)[i]? = some (j : Int)) : bstL t s (i + 1) = max (bstL t s i) (T t (s - 2 ^ j)) := by
  unfold bstL
  rw [List.take_add_one, h, List.foldl_append]
  simp
theorem bstL_th (t : List Int) (s : Nat) : bstL t s (th s).length = bl t s := by
  have : ∀ k, (thTo s k).foldl (fun m j => max m (T t (s - 2 ^ j.toNat))) 0 = blTo t s k := by
    intro k
    induction k with
    | zero => simp [thTo, blTo]
    | succ k ih =>
      simp only [thTo, blTo]
      split
      · rw [List.foldl_append, ih]; simp
      · exact ih
  unfold bstL bl
  rw [List.take_length]
  exact this 3
theorem andNot_pow {s j : Nat} (hs : s < 8) (hj : j < 3) (hb : s / 2 ^ j % 2 = 1) : bits .andNot .i64 (s : Int) ((2 ^ j : Nat) : Int) = ((s - 2 ^ j : Nat) : Int) := by
  have : ∀ s, s < 8 → ∀ j, j < 3 → s / 2 ^ j % 2 = 1 → bits .andNot .i64 ((s : Nat) : Int) ((2 ^ j : Nat) : Int) = ((s - 2 ^ j : Nat) : Int) := by decide
  exact this s hs j hj hb

set_option maxHeartbeats 800000 in
theorem bestLess_any (A : Option Addr) (c : Nat) (t : List Int) (s : Nat) (w : World) (h : Rd w A c t) (hl : t.length = 8) (hs : s < 8) :
    Calls Try.prog 162 #[.slice A 8 c, .int .i64 (s : Int)] w fun e w' => e = .returned (.int .i64 (bl t s)) ∧ Below w.heap.size w w' := by
  have HT := Lib.hid (thingsIn_any s hs w)
  have HB := Lib.hid (bstL_th t s)
  have hln := th_le s
  have HM := Lib.hid (fun (i : Nat) (x : Int) (h : (th s)[i]? = some x) => th_at h)
  have HS := Lib.hid (fun (i j : Nat) (h : (th s)[i]? = some (j : Int)) => bstL_step t h)
  have H0 := Lib.hid (bstL_zero t s)
  have HN : Hid (∀ j : Nat, j < 3 → s / 2 ^ j % 2 = 1 → bits .andNot .i64 (s : Int) ((2 ^ j : Nat) : Int) = ((s - 2 ^ j : Nat) : Int)) := Lib.hid (fun j hj hb => andNot_pow hs hj hb)
  obtain ⟨L, hL⟩ : ∃ L, L = th s := ⟨_, rfl⟩
  rw [← hL] at HT HB hln HM HS
  clear hL
  go_enter Try.func162, Try.ntmps162
  go_wp2_with (go_at_call 146; refine HT.out.mono ?_; rintro e w1 ⟨A1, c1, rfl, HO, hb⟩)
  have h1 := h.below hb
  go_loopw [5, 11] (fun m i wr => ∃ (k n : Nat) (v : Int), k ≤ L.length ∧ i = .int .i64 (k : Int) ∧ m = .int .i64 v ∧ Hid (v = bstL t s k) ∧ wr = w1.drewN n) (fun _ i _ => L.length - (intOf i).toNat)
  case atStart => exact ⟨0, 0, 0, Nat.zero_le _, rfl, rfl, Lib.hid (H0.out).symm, rfl⟩
  case round =>
    obtain ⟨k, n, v, hk, rfl, rfl, HV, rfl⟩ := hrel
    by_cases hlt : k < L.length
    · obtain ⟨b, off, x, rfl, _, hx, hc⟩ := HO.rd.at_ hlt
      obtain ⟨j, rfl, hj, hbit⟩ := HM.out k x hx.out
      have HS' := Lib.hid (HS.out k j hx.out)
      have hz := HN.out j hj hbit
      obtain ⟨b2, off2, y, rfl, _, hy, hc2⟩ := h1.at_ (k := s - 2 ^ j) (by rw [hl]; exact Nat.lt_of_le_of_lt (Nat.sub_le _ _) hs)
      have hT : Hid (T t (s - 2 ^ j) = y) := Lib.hid (T_of hy.out)
      have HV' : Hid ((if v < y then y else v) = bstL t s (k + 1)) := Lib.hid (by rw [HS'.out, ← HV.out, hT.out]; split <;> omega)
      have hs2 : s - 2 ^ j < 8 := Nat.lt_of_le_of_lt (Nat.sub_le _ _) hs
      clear hx hy HS' HV hT hbit
      have : j = 0 ∨ j = 1 ∨ j = 2 := by omega
      rcases this with rfl | rfl | rfl
      · have hz1 : bits .andNot .i64 (s : Int) 1 = ((s - 2 ^ 0 : Nat) : Int) := hz
        clear hz
        obtain ⟨q, hq⟩ : ∃ q, q = s - 2 ^ 0 := ⟨_, rfl⟩
        rw [← hq] at hz1 hc2 hs2
        clear hq
        go_wp2
        go_roundw
        case rel => exact ⟨k + 1, _, _, by omega, by go_num, rfl, HV', rfl⟩
        case measure => simp [intOf]; omega
      · have hz1 : bits .andNot .i64 (s : Int) 2 = ((s - 2 ^ 1 : Nat) : Int) := hz
        clear hz
        obtain ⟨q, hq⟩ : ∃ q, q = s - 2 ^ 1 := ⟨_, rfl⟩
        rw [← hq] at hz1 hc2 hs2
        clear hq
        go_wp2
        go_roundw
        case rel => exact ⟨k + 1, _, _, by omega, by go_num, rfl, HV', rfl⟩
        case measure => simp [intOf]; omega
      · have hz1 : bits .andNot .i64 (s : Int) 4 = ((s - 2 ^ 2 : Nat) : Int) := hz
        clear hz
        obtain ⟨q, hq⟩ : ∃ q, q = s - 2 ^ 2 := ⟨_, rfl⟩
        rw [← hq] at hz1 hc2 hs2
        clear hq
        go_wp2
        go_roundw
        case rel => exact ⟨k + 1, _, _, by omega, by go_num, rfl, HV', rfl⟩
        case measure => simp [intOf]; omega
    · obtain rfl : k = L.length := by omega
      have HE : Hid (v = bl t s) := Lib.hid (by rw [HV.out]; exact HB.out)
      go_wp2
      go_ret
      exact ⟨by rw [HE.out]; rfl, below_drewN' hb _⟩

end Go.Proofs.Ytpildecpabeanaa
