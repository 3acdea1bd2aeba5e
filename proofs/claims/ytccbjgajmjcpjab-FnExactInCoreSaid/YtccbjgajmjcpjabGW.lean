/-
  Chapter 4: tables of sets of things: what tells them, of the program and of the model.
-/
import Derived.Test.YtccbjgajmjcpjabOne
import Derived.Test.YtccbjgajmjcpjabAp
import Derived.Test.YtccbjgajmjcpjabWa
import Derived.Deep.QuietTactic
import Derived.BigQuiet
import Derived.Test.YtccbjgajmjcpjabMark
import Derived.Test.YtccbjgajmjcpjabWx
import Derived.Handy
namespace Go.Proofs.Ytccbjgajmjcpjab
open Go.RowKit

theorem and_nat {a b : Nat} (ha : a < 8) (hb : b < 8) : bits .and .i64 (a : Int) (b : Int) = ((a &&& b : Nat) : Int) := by
  have : ∀ a, a < 8 → ∀ b, b < 8 → bits .and .i64 ((a : Nat) : Int) ((b : Nat) : Int) = ((a &&& b : Nat) : Int) := by decide
  exact this a ha b hb
theorem or_nat {a b : Nat} (ha : a < 8) (hb : b < 8) : bits .or .i64 (a : Int) (b : Int) = ((a ||| b : Nat) : Int) := by
  have : ∀ a, a < 8 → ∀ b, b < 8 → bits .or .i64 ((a : Nat) : Int) ((b : Nat) : Int) = ((a ||| b : Nat) : Int) := by decide
  exact this a ha b hb
theorem andNot_nat {a b : Nat} (ha : a < 8) (hb : b < 8) : bits .andNot .i64 (a : Int) (b : Int) = ((a - (a &&& b) : Nat) : Int) := by
  have : ∀ a, a < 8 → ∀ b, b < 8 → bits .andNot .i64 ((a : Nat) : Int) ((b : Nat) : Int) = ((a - (a &&& b) : Nat) : Int) := by decide
  exact this a ha b hb

theorem Spower_any (j : Nat) (hj : j ≤ 3) (w : World) :
    Calls Try.prog 124 #[.int .i64 (j : Int)] w fun e w' => e = .returned (.int .i64 ((2 ^ j : Nat) : Int)) ∧ w = w' := by
  go_enter Try.func124, Try.ntmps124
  go_wp2
  go_loop [0, 3] (fun n o => ∃ m : Nat, m ≤ j ∧ n = .int .i64 (m : Int) ∧ o = .int .i64 ((2 ^ (j - m) : Nat) : Int)) (fun n _ => (intOf n).toNat)
  case atStart => exact ⟨j, Nat.le_refl _, rfl, by simp⟩
  case round =>
    obtain ⟨m, hm, rfl, rfl⟩ := hrel
    cases m with
    | zero =>
      go_wp2
      go_ret
      exact ⟨rfl, rfl⟩
    | succ m =>
      have hp : 2 ^ (j - (m + 1)) ≤ 4 := by
        have : j - (m + 1) ≤ 2 := by omega
        calc 2 ^ (j - (m + 1)) ≤ 2 ^ 2 := Nat.pow_le_pow_right (by decide) this
          _ = 4 := rfl
      have he : 2 ^ (j - m) = 2 * 2 ^ (j - (m + 1)) := by rw [show j - m = (j - (m + 1)) + 1 by omega, Nat.pow_succ]; omega
      obtain ⟨q, hq⟩ : ∃ q, q = 2 ^ (j - (m + 1)) := ⟨_, rfl⟩
      rw [← hq] at hp he ⊢
      have HE := Lib.hid he
      have hm' : (0 : Int) < ((m + 1 : Nat) : Int) := by omega
      clear hq he
      go_wp2
      go_round
      case rel => exact ⟨m, by omega, by go_num, by rw [HE.out]; go_num⟩
      case measure => simp [intOf]

theorem Sbit_any (x j : Nat) (hx : x < 8) (hj : j < 3) (w : World) :
    Calls Try.prog 159 #[.int .i64 (x : Int), .int .i64 (j : Int)] w fun e w' => e = .returned (.int .i64 ((x / 2 ^ j % 2 : Nat) : Int)) ∧ w = w' := by
  have HP := Lib.hid (fun w => Spower_any j (by omega) w)
  have hv : (wrap64 ((x : Int) / ((2 ^ j : Nat) : Int))).tmod 2 = ((x / 2 ^ j % 2 : Nat) : Int) := by
    have : ∀ x, x < 8 → ∀ j, j < 3 → (wrap64 (((x : Nat) : Int) / ((2 ^ j : Nat) : Int))).tmod 2 = ((x / 2 ^ j % 2 : Nat) : Int) := by decide +kernel
    exact this x hx j hj
  obtain ⟨p, hp⟩ : ∃ p, p = 2 ^ j := ⟨_, rfl⟩
  have hp0 : (p : Int) ≠ 0 := by
    have : 0 < 2 ^ j := Nat.pow_pos (by decide)
    omega
  rw [← hp] at HP hv ⊢
  have HV := Lib.hid hv
  clear hv hp
  go_enter Try.func159, Try.ntmps159
  go_wp2_with (go_at_call 124; refine (HP.out _).mono ?_; rintro e w1 ⟨rfl, rfl⟩)
  go_ret
  exact ⟨by rw [← HV.out]; rfl, rfl⟩


theorem bit_cases (s j : Nat) : s / 2 ^ j % 2 = 0 ∨ s / 2 ^ j % 2 = 1 := by omega
theorem and_pow {s j : Nat} (hs : s < 8) (hj : j < 3) : bits .and .i64 (s : Int) ((2 ^ j : Nat) : Int) = ((s / 2 ^ j % 2 * 2 ^ j : Nat) : Int) := by
  have : ∀ s, s < 8 → ∀ j, j < 3 → bits .and .i64 ((s : Nat) : Int) ((2 ^ j : Nat) : Int) = ((s / 2 ^ j % 2 * 2 ^ j : Nat) : Int) := by decide
  exact this s hs j hj
theorem thTo_len (s : Nat) : ∀ k, (thTo s k).length ≤ k
  | 0 => by simp [thTo]
  | k + 1 => by have := thTo_len s k; simp only [thTo]; split <;> simp <;> omega
theorem thTo_yes {s k : Nat} (h : s / 2 ^ k % 2 = 1) : thTo s (k + 1) = thTo s k ++ [(k : Int)] := by simp [thTo, h]
theorem thTo_no {s k : Nat} (h : s / 2 ^ k % 2 = 0) : thTo s (k + 1) = thTo s k := by simp [thTo, h]

set_option maxHeartbeats 800000 in
theorem thingsIn_any (s : Nat) (hs : s < 8) (w : World) :
    Calls Try.prog 144 #[.int .i64 (s : Int)] w fun e w' => ∃ A c, e = .returned (.slice A (th s).length c) ∧ Own w' w.heap.size A c (th s) ∧ Below w.heap.size w w' := by
  go_enter Try.func144, Try.ntmps144
  go_wp2
  go_loopw [3, 5] (fun v i wr => ∃ (k n : Nat) (A : Option Addr) (c : Nat), k ≤ 3 ∧ i = .int .i64 (k : Int) ∧ v = .slice A n c ∧ Hid (n = (thTo s k).length) ∧ n ≤ 3 ∧ Hid (Own wr w.heap.size A c (thTo s k)) ∧ Below w.heap.size w wr) (fun _ i _ => 3 - (intOf i).toNat)
  case atStart => exact ⟨0, 0, none, 0, by omega, rfl, rfl, Lib.hid rfl, by omega, Lib.hid (own_none _ _), Below.refl _ _⟩
  case round =>
    obtain ⟨k, n, A, c, hk, rfl, rfl, HN, hn, HO, hb⟩ := hrel
    by_cases hlt : k < 3
    · have hp := Lib.hid (and_pow hs hlt)
      have HK : Hid ((thTo s k).length ≤ k) := Lib.hid (thTo_len s k)
      rcases bit_cases s k with h0 | h1
      · have HT := Lib.hid (thTo_no h0)
        have hz : bits .and .i64 (s : Int) ((2 ^ k : Nat) : Int) = 0 := by rw [hp.out, h0]; simp
        clear h0
        have HS : Hid (Own wr w.heap.size A c (thTo s (k + 1))) := Lib.hid (by rw [HT.out]; exact HO.out)
        have HL : Hid (n = (thTo s (k + 1)).length) := Lib.hid (by rw [HT.out]; exact HN.out)
        clear HT HO HN hp
        have : k = 0 ∨ k = 1 ∨ k = 2 := by omega
        rcases this with rfl | rfl | rfl
        · have hz1 : bits .and .i64 (s : Int) 1 = 0 := hz
          clear hz
          go_wp2
          go_roundw
          case rel => exact ⟨1, n, A, c, by omega, by go_num, rfl, HL, hn, HS, hb⟩
          case measure => simp [intOf]
        · have hz1 : bits .and .i64 (s : Int) 2 = 0 := hz
          clear hz
          go_wp2
          go_roundw
          case rel => exact ⟨2, n, A, c, by omega, by go_num, rfl, HL, hn, HS, hb⟩
          case measure => simp [intOf]
        · have hz1 : bits .and .i64 (s : Int) 4 = 0 := hz
          clear hz
          go_wp2
          go_roundw
          case rel => exact ⟨3, n, A, c, by omega, by go_num, rfl, HL, hn, HS, hb⟩
          case measure => simp [intOf]
      · have HT := Lib.hid (thTo_yes h1)
        have hz : bits .and .i64 (s : Int) ((2 ^ k : Nat) : Int) = ((2 ^ k : Nat) : Int) := by rw [hp.out, h1]; simp
        clear h1
        have HOL : Hid (Own (wr.alloc (.cells #[.int .i64 (k : Int)] 3)) wr.heap.size (some ⟨wr.heap.size, 0, none⟩) 1 [(k : Int)]) := Lib.hid (own_lit wr [(k : Int)] (by simp))
        have HOA : Hid (Own (wr.alloc (.cells #[.int .i64 (k : Int)] 3)) w.heap.size A c (thTo s k)) := Lib.hid (World.ownsRow.alloc HO.out _)
        have hbA := hb.alloc hb.size (.cells #[.int .i64 (k : Int)] 3)
        have hn2 : n ≤ 2 := by have := HN.out; have := HK.out; omega
        clear HO hp
        have : k = 0 ∨ k = 1 ∨ k = 2 := by omega
        rcases this with rfl | rfl | rfl
        · have hz1 : bits .and .i64 (s : Int) 1 = 1 := hz
          clear hz
          go_wp2_with (at_builtin; refine wpList_append_any rfl _ _ 26 Try.underlying26 rfl w.heap.size A c (thTo s 0) n HN.out.symm rfl HOA.out _ _ [0] 1 rfl rfl HOL.out.rd (by omega) hbA.size ?_; intro A4 c4 w4 o4 g4)
          have B4 := Own.grownBelow0 hbA HOA.out hbA.size g4
          have HO4 : Hid (Own w4 w.heap.size A4 c4 (thTo s 1)) := Lib.hid (by rw [HT.out]; exact o4)
          have HN4 : Hid (n + 1 = (thTo s 1).length) := Lib.hid (by rw [HT.out, List.length_append, ← HN.out]; rfl)
          go_wp2
          go_roundw
          case rel => exact ⟨1, n + 1, A4, c4, by omega, by go_num, rfl, HN4, by omega, HO4, B4⟩
          case measure => simp [intOf]
        · have hz1 : bits .and .i64 (s : Int) 2 = 2 := hz
          clear hz
          go_wp2_with (at_builtin; refine wpList_append_any rfl _ _ 26 Try.underlying26 rfl w.heap.size A c (thTo s 1) n HN.out.symm rfl HOA.out _ _ [1] 1 rfl rfl HOL.out.rd (by omega) hbA.size ?_; intro A4 c4 w4 o4 g4)
          have B4 := Own.grownBelow0 hbA HOA.out hbA.size g4
          have HO4 : Hid (Own w4 w.heap.size A4 c4 (thTo s 2)) := Lib.hid (by rw [HT.out]; exact o4)
          have HN4 : Hid (n + 1 = (thTo s 2).length) := Lib.hid (by rw [HT.out, List.length_append, ← HN.out]; rfl)
          go_wp2
          go_roundw
          case rel => exact ⟨2, n + 1, A4, c4, by omega, by go_num, rfl, HN4, by omega, HO4, B4⟩
          case measure => simp [intOf]
        · have hz1 : bits .and .i64 (s : Int) 4 = 4 := hz
          clear hz
          go_wp2_with (at_builtin; refine wpList_append_any rfl _ _ 26 Try.underlying26 rfl w.heap.size A c (thTo s 2) n HN.out.symm rfl HOA.out _ _ [2] 1 rfl rfl HOL.out.rd (by omega) hbA.size ?_; intro A4 c4 w4 o4 g4)
          have B4 := Own.grownBelow0 hbA HOA.out hbA.size g4
          have HO4 : Hid (Own w4 w.heap.size A4 c4 (thTo s 3)) := Lib.hid (by rw [HT.out]; exact o4)
          have HN4 : Hid (n + 1 = (thTo s 3).length) := Lib.hid (by rw [HT.out, List.length_append, ← HN.out]; rfl)
          go_wp2
          go_roundw
          case rel => exact ⟨3, n + 1, A4, c4, by omega, by go_num, rfl, HN4, by omega, HO4, B4⟩
          case measure => simp [intOf]
    · obtain rfl : k = 3 := by omega
      have HN' : Hid (n = (th s).length) := HN
      go_wp2
      go_ret
      exact ⟨A, c, by rw [← HN'.out]; rfl, HO.out, hb⟩

end Go.Proofs.Ytccbjgajmjcpjab

/-
  Chapter 4: the contracts of bestLess, ValidTable and validTable.
-/
namespace Go.Proofs.Ytccbjgajmjcpjab
open Go.RowKit

theorem thTo_mem {s : Nat} : ∀ {k : Nat} {x : Int}, x ∈ thTo s k → ∃ j : Nat, x = (j : Int) ∧ j < k ∧ s / 2 ^ j % 2 = 1
  | 0, x, h => by simp [thTo] at h
  | k + 1, x, h => by
    simp only [thTo] at h
    split at h
    · next hb =>
      rcases List.mem_append.1 h with h | h
      · obtain ⟨j, h1, h2, h3⟩ := thTo_mem h
        exact ⟨j, h1, by omega, h3⟩
      · simp at h
        exact ⟨k, h, by omega, hb⟩
    · obtain ⟨j, h1, h2, h3⟩ := thTo_mem h
      exact ⟨j, h1, by omega, h3⟩
theorem th_at {s i : Nat} {x : Int} (h : (th s)[i]? = some x) : ∃ j : Nat, x = (j : Int) ∧ j < 3 ∧ s / 2 ^ j % 2 = 1 := thTo_mem (List.mem_of_getElem? h)
theorem th_le (s : Nat) : (th s).length ≤ 3 := thTo_len s 3
/-- The best of what is one thing less, of the first i things of the set. -/
def bstL (t : List Int) (s i : Nat) : Int := ((th s).take i).foldl (fun m j => max m (T t (s - 2 ^ j.toNat))) 0
theorem bstL_zero (t : List Int) (s : Nat) : bstL t s 0 = 0 := by simp [bstL]
theorem bstL_step (t : List Int) {s i j : Nat} (h : (th s)[i]? = some (j : Int)) : bstL t s (i + 1) = max (bstL t s i) (T t (s - 2 ^ j)) := by
  unfold bstL
  rw [List.take_add_one, h, List.foldl_append]
  simp
theorem bstL_th (t : List Int) (s : Nat) : bstL t s (th s).length = bl t s := by
  have : ∀ k, (thTo s k).foldl (fun m j => max m (T t (s - 2 ^ j.toNat))) 0 = blTo t s k := by
    intro k
    induction k with
    | zero => simp [thTo, blTo]
    | succ k ih =>
      simp only [thTo, blTo]
      split
      · rw [List.foldl_append, ih]; simp
      · exact ih
  unfold bstL bl
  rw [List.take_length]
  exact this 3
theorem andNot_pow {s j : Nat} (hs : s < 8) (hj : j < 3) (hb : s / 2 ^ j % 2 = 1) : bits .andNot .i64 (s : Int) ((2 ^ j : Nat) : Int) = ((s - 2 ^ j : Nat) : Int) := by
  have : ∀ s, s < 8 → ∀ j, j < 3 → s / 2 ^ j % 2 = 1 → bits .andNot .i64 ((s : Nat) : Int) ((2 ^ j : Nat) : Int) = ((s - 2 ^ j : Nat) : Int) := by decide
  exact this s hs j hj hb

set_option maxHeartbeats 800000 in
theorem bestLess_any (A : Option Addr) (c : Nat) (t : List Int) (s : Nat) (w : World) (h : Rd w A c t) (hl : t.length = 8) (hs : s < 8) :
    Calls Try.prog 160 #[.slice A 8 c, .int .i64 (s : Int)] w fun e w' => e = .returned (.int .i64 (bl t s)) ∧ Below w.heap.size w w' := by
  have HT := Lib.hid (thingsIn_any s hs w)
  have HB := Lib.hid (bstL_th t s)
  have hln := th_le s
  have HM := Lib.hid (fun (i : Nat) (x : Int) (h : (th s)[i]? = some x) => th_at h)
  have HS := Lib.hid (fun (i j : Nat) (h : (th s)[i]? = some (j : Int)) => bstL_step t h)
  have H0 := Lib.hid (bstL_zero t s)
  have HN : Hid (∀ j : Nat, j < 3 → s / 2 ^ j % 2 = 1 → bits .andNot .i64 (s : Int) ((2 ^ j : Nat) : Int) = ((s - 2 ^ j : Nat) : Int)) := Lib.hid (fun j hj hb => andNot_pow hs hj hb)
  obtain ⟨L, hL⟩ : ∃ L, L = th s := ⟨_, rfl⟩
  rw [← hL] at HT HB hln HM HS
  clear hL
  go_enter Try.func160, Try.ntmps160
  go_wp2_with (go_at_call 144; refine HT.out.mono ?_; rintro e w1 ⟨A1, c1, rfl, HO, hb⟩)
  have h1 := h.below hb
  go_loopw [5, 11] (fun m i wr => ∃ (k n : Nat) (v : Int), k ≤ L.length ∧ i = .int .i64 (k : Int) ∧ m = .int .i64 v ∧ Hid (v = bstL t s k) ∧ wr = w1.drewN n) (fun _ i _ => L.length - (intOf i).toNat)
  case atStart => exact ⟨0, 0, 0, Nat.zero_le _, rfl, rfl, Lib.hid (H0.out).symm, rfl⟩
  case round =>
    obtain ⟨k, n, v, hk, rfl, rfl, HV, rfl⟩ := hrel
    by_cases hlt : k < L.length
    · obtain ⟨b, off, x, rfl, _, hx, hc⟩ := HO.rd.at_ hlt
      obtain ⟨j, rfl, hj, hbit⟩ := HM.out k x hx.out
      have HS' := Lib.hid (HS.out k j hx.out)
      have hz := HN.out j hj hbit
      obtain ⟨b2, off2, y, rfl, _, hy, hc2⟩ := h1.at_ (k := s - 2 ^ j) (by rw [hl]; exact Nat.lt_of_le_of_lt (Nat.sub_le _ _) hs)
      have hT : Hid (T t (s - 2 ^ j) = y) := Lib.hid (T_of hy.out)
      have HV' : Hid ((if v < y then y else v) = bstL t s (k + 1)) := Lib.hid (by rw [HS'.out, ← HV.out, hT.out]; split <;> omega)
      have hs2 : s - 2 ^ j < 8 := Nat.lt_of_le_of_lt (Nat.sub_le _ _) hs
      clear hx hy HS' HV hT hbit
      have : j = 0 ∨ j = 1 ∨ j = 2 := by omega
      rcases this with rfl | rfl | rfl
      · have hz1 : bits .andNot .i64 (s : Int) 1 = ((s - 2 ^ 0 : Nat) : Int) := hz
        clear hz
        obtain ⟨q, hq⟩ : ∃ q, q = s - 2 ^ 0 := ⟨_, rfl⟩
        rw [← hq] at hz1 hc2 hs2
        clear hq
        go_wp2
        go_roundw
        case rel => exact ⟨k + 1, _, _, by omega, by go_num, rfl, HV', rfl⟩
        case measure => simp [intOf]; omega
      · have hz1 : bits .andNot .i64 (s : Int) 2 = ((s - 2 ^ 1 : Nat) : Int) := hz
        clear hz
        obtain ⟨q, hq⟩ : ∃ q, q = s - 2 ^ 1 := ⟨_, rfl⟩
        rw [← hq] at hz1 hc2 hs2
        clear hq
        go_wp2
        go_roundw
        case rel => exact ⟨k + 1, _, _, by omega, by go_num, rfl, HV', rfl⟩
        case measure => simp [intOf]; omega
      · have hz1 : bits .andNot .i64 (s : Int) 4 = ((s - 2 ^ 2 : Nat) : Int) := hz
        clear hz
        obtain ⟨q, hq⟩ : ∃ q, q = s - 2 ^ 2 := ⟨_, rfl⟩
        rw [← hq] at hz1 hc2 hs2
        clear hq
        go_wp2
        go_roundw
        case rel => exact ⟨k + 1, _, _, by omega, by go_num, rfl, HV', rfl⟩
        case measure => simp [intOf]; omega
    · obtain rfl : k = L.length := by omega
      have HE : Hid (v = bl t s) := Lib.hid (by rw [HV.out]; exact HB.out)
      go_wp2
      go_ret
      exact ⟨by rw [HE.out]; rfl, below_drewN' hb _⟩

end Go.Proofs.Ytccbjgajmjcpjab

/-
  Chapter 4: the contracts of ValidTable and of the model's.
-/
namespace Go.Proofs.Ytccbjgajmjcpjab
open Go.RowKit

theorem below_then {a w w' : World} (h : Below a.heap.size a w) (h2 : Below w.heap.size w w') : Below a.heap.size a w' := h.trans (h2.mono h.size)

/-- Of the first k sets the program asks no more. -/
def OkTo (t : List Int) (k : Nat) : Prop := ∀ s, s < k → okI t s
theorem OkTo.zero (t : List Int) : OkTo t 0 := fun s h => absurd h (by omega)
theorem OkTo.next {t : List Int} {k : Nat} (h : OkTo t k) (hk : okI t k) : OkTo t (k + 1) := fun s hs => by
  rcases Nat.lt_or_ge s k with h1 | h1
  · exact h s h1
  · rw [show s = k by omega]; exact hk

set_option maxHeartbeats 800000 in
theorem ValidTable_any (A : Option Addr) (c : Nat) (t : List Int) (w : World) (h : Rd w A c t) (_hl : t.length ≤ 1099511627776) :
    Calls Try.prog 103 #[.slice A t.length c] w fun e w' => e = .returned (.bool (vt t)) ∧ Below w.heap.size w w' := by
  by_cases h8 : t.length = 8
  · rw [h8]
    obtain ⟨b, off, x0, rfl, _, hx0, hc0⟩ := h.at_ (k := 0) (by omega)
    rw [Nat.add_zero] at hc0
    have hT0 := T_of hx0.out
    by_cases h0 : x0 = 0
    · subst h0
      have HC := Lib.hid (fun (s : Nat) (hs : s < 8) (wr : World) (hb : Below w.heap.size w wr) => bestLess_any (some ⟨b, off, none⟩) c t s wr (h.below hb) h8 hs)
      have HA := Lib.hid (fun (ho : OkTo t 8) => VT.of_okI h8 hT0 ho)
      clear hT0 hx0
      go_enter Try.func103, Try.ntmps103
      go_wp2
      go_loopw [16] (fun i wr => ∃ k : Nat, k ≤ 8 ∧ i = .int .i64 (k : Int) ∧ Below w.heap.size w wr ∧ Hid (OkTo t k)) (fun i _ => 8 - (intOf i).toNat)
      case atStart => exact ⟨0, by omega, rfl, Below.refl _ _, Lib.hid (OkTo.zero t)⟩
      case round =>
        obtain ⟨k, hk, rfl, hb, HO⟩ := hrel
        by_cases hlt : k < 8
        · obtain ⟨b2, off2, x, hA, _, hx, hc⟩ := (h.below hb).at_ (k := k) (by omega)
          cases hA
          have hT := T_of hx.out
          have HC' := Lib.hid (HC.out k hlt wr hb)
          by_cases hB : 0 ≤ x ∧ x ≤ 30
          · have HB : Hid (∀ w1, Calls Try.prog 94 #[.int .i64 x] w1 fun e w' => e = .returned (.bool true) ∧ w1 = w') := Lib.hid (fun w1 => by have := isBid_any x w1; rwa [inR_true.2 hB] at this)
            by_cases hm : x < bl t k
            · have HE := Lib.hid (vt_false (t := t) (fun hv => by have := (hv.toI hlt).2; omega))
              clear hT hx hB
              obtain ⟨m, hM⟩ : ∃ m, m = bl t k := ⟨_, rfl⟩
              rw [← hM] at HC' hm
              clear hM
              go_wp2_with (first | (go_at_call 94; refine (HB.out _).mono ?_; rintro e w1 ⟨rfl, rfl⟩) | (go_at_call 160; refine HC'.out.mono ?_; rintro e w2 ⟨rfl, hb2⟩))
              go_ret
              exact ⟨by rw [HE.out]; rfl, below_then hb hb2⟩
            · have HO' := Lib.hid (HO.out.next ⟨by rw [hT]; exact hB, by rw [hT]; omega⟩)
              clear hT hx hB
              obtain ⟨m, hM⟩ : ∃ m, m = bl t k := ⟨_, rfl⟩
              rw [← hM] at HC' hm
              clear hM
              go_wp2_with (first | (go_at_call 94; refine (HB.out _).mono ?_; rintro e w1 ⟨rfl, rfl⟩) | (go_at_call 160; refine HC'.out.mono ?_; rintro e w2 ⟨rfl, hb2⟩))
              go_roundw
              case rel => exact ⟨k + 1, by omega, by go_num, below_then hb hb2, HO'⟩
              case measure => simp [intOf]; omega
          · have HB : Hid (∀ w1, Calls Try.prog 94 #[.int .i64 x] w1 fun e w' => e = .returned (.bool false) ∧ w1 = w') := Lib.hid (fun w1 => by have := isBid_any x w1; rwa [inR_false.2 hB] at this)
            have HE := Lib.hid (vt_false (t := t) (fun hv => hB (by have := (hv.toI hlt).1; rwa [hT] at this)))
            clear hT hx hB HC'
            go_wp2_with (go_at_call 94; refine (HB.out _).mono ?_; rintro e w1 ⟨rfl, rfl⟩)
            go_ret
            exact ⟨by rw [HE.out]; rfl, hb⟩
        · obtain rfl : k = 8 := by omega
          have HE := Lib.hid (vt_true (HA.out HO.out))
          go_wp2
          go_ret
          exact ⟨by rw [HE.out]; rfl, hb⟩
    · have HE := Lib.hid (vt_false (t := t) (fun hv => h0 (hT0.symm.trans hv.2.1)))
      clear hT0 hx0
      go_enter Try.func103, Try.ntmps103
      go_wp2
      go_ret
      exact ⟨by rw [HE.out]; rfl, Below.refl _ _⟩
  · have HE := Lib.hid (vt_false (t := t) (fun hv => h8 hv.1))
    have h8' : ¬ (t.length : Int) = 8 := by omega
    go_enter Try.func103, Try.ntmps103
    go_wp2
    go_ret
    exact ⟨by rw [HE.out]; rfl, Below.refl _ _⟩

theorem calls_q {P : Program} {f : FuncId} {args : Array Value} {w : World} {m n : Nat} {v : Value} (h : Calls P f args (w.drewN (m + n)) fun e w' => e = .returned v ∧ w.drewN (m + n) = w') :
    Calls P f args (w.drewN (m + n)) fun e w'' => e = .returned v ∧ ∃ k, w'' = w.drewN (m + k) := h.mono fun _ _ ⟨he, hw⟩ => ⟨he, n, hw.symm⟩
/-- Of the first k sets the model asks no more. -/
def OkST (t : List Int) (k : Nat) : Prop := ∀ s, s < k → okS t s
theorem OkST.zero (t : List Int) : OkST t 0 := fun s h => absurd h (by omega)
/-- Of the set s, of the first j things. -/
def OkSU (t : List Int) (s j : Nat) : Prop := ∀ i, i < j → s / 2 ^ i % 2 = 0 → T t s ≤ T t (s + 2 ^ i)
theorem OkSU.zero (t : List Int) (s : Nat) : OkSU t s 0 := fun i h => absurd h (by omega)
theorem OkSU.next {t : List Int} {s j : Nat} (h : OkSU t s j) (hj : s / 2 ^ j % 2 = 0 → T t s ≤ T t (s + 2 ^ j)) : OkSU t s (j + 1) := fun i hi => by
  rcases Nat.lt_or_ge i j with h1 | h1
  · exact h i h1
  · rw [show i = j by omega]; exact hj
theorem OkST.next {t : List Int} {s : Nat} (h : OkST t s) (hr : 0 ≤ T t s ∧ T t s ≤ 30) (hu : OkSU t s 3) : OkST t (s + 1) := fun i hi => by
  rcases Nat.lt_or_ge i s with h1 | h1
  · exact h i h1
  · rw [show i = s by omega]; exact ⟨hr, hu⟩
theorem or_pow {s j : Nat} (hs : s < 8) (hj : j < 3) (hb : s / 2 ^ j % 2 = 0) : bits .or .i64 (s : Int) ((2 ^ j : Nat) : Int) = ((s + 2 ^ j : Nat) : Int) ∧ s + 2 ^ j < 8 := by
  have : ∀ s, s < 8 → ∀ j, j < 3 → s / 2 ^ j % 2 = 0 → bits .or .i64 ((s : Nat) : Int) ((2 ^ j : Nat) : Int) = ((s + 2 ^ j : Nat) : Int) ∧ s + 2 ^ j < 8 := by decide
  exact this s hs j hj hb

set_option maxHeartbeats 8000000 in
theorem SvalidTable_any (A : Option Addr) (c : Nat) (t : List Int) (w : World) (h : Rd w A c t) (_hl : t.length ≤ 1099511627776) :
    Calls Try.prog 101 #[.slice A t.length c] w fun e w' => e = .returned (.bool (vt t)) ∧ ∃ n, w' = w.drewN n := by
  have HP3 : Hid (∀ w1, Calls Try.prog 124 #[.int .i64 3] w1 fun e w' => e = .returned (.int .i64 8) ∧ w1 = w') := Lib.hid (fun w1 => Spower_any 3 (by omega) w1)
  by_cases h8 : t.length = 8
  · rw [h8]
    obtain ⟨b, off, x0, rfl, _, hx0, hc0⟩ := h.at_ (k := 0) (by omega)
    rw [Nat.add_zero] at hc0
    have hT0 := T_of hx0.out
    by_cases h0 : x0 = 0
    · subst h0
      have HA := Lib.hid (fun (ho : OkST t 8) => VT.of_okS h8 hT0 ho)
      clear hT0 hx0
      go_enter Try.func101, Try.ntmps101
      go_wp2_with (go_at_call 124; refine (HP3.out _).mono ?_; rintro e w1 ⟨rfl, rfl⟩)
      go_loopw [3] (fun i wr => ∃ k n : Nat, k ≤ 8 ∧ i = .int .i64 (k : Int) ∧ wr = w.drewN n ∧ Hid (OkST t k)) (fun i _ => 8 - (intOf i).toNat)
      case atStart => exact ⟨0, 0, by omega, rfl, rfl, Lib.hid (OkST.zero t)⟩
      case round =>
        obtain ⟨k, n, hk, rfl, rfl, HO⟩ := hrel
        by_cases hlt : k < 8
        · obtain ⟨b2, off2, x, hA, _, hx, hc⟩ := h.at_ (k := k) (by omega)
          cases hA
          have hT := T_of hx.out
          by_cases hB : 0 ≤ x ∧ x ≤ 30
          · have HB : Hid (∀ w1, Calls Try.prog 115 #[.int .i64 x, .int .i64 0, .int .i64 30] w1 fun e w' => e = .returned (.bool true) ∧ w1 = w') := Lib.hid (fun w1 => by have := inRange_any x 0 30 w1; rwa [inR_true.2 hB] at this)
            have HR : Hid (0 ≤ T t k ∧ T t k ≤ 30) := Lib.hid (by rw [hT]; exact hB)
            have HTk := Lib.hid hT
            clear hT hx hB
            go_wp2_with (go_at_call 115; refine (HB.out _).mono ?_; rintro e w1 ⟨rfl, rfl⟩)
            go_loopw [4] (fun i wr => ∃ j m : Nat, j ≤ 3 ∧ i = .int .i64 (j : Int) ∧ wr = w.drewN m ∧ Hid (OkSU t k j)) (fun i _ => 3 - (intOf i).toNat)
            case atStart => exact ⟨0, n, by omega, rfl, rfl, Lib.hid (OkSU.zero t k)⟩
            case round =>
              obtain ⟨j, m, hj, rfl, rfl, HU⟩ := hrel
              by_cases hjl : j < 3
              · have HBit := Lib.hid (fun (n : Nat) => calls_q (w := w) (m := m) (Sbit_any k j hlt hjl (w.drewN (m + n))))
                rcases bit_cases k j with hb0 | hb1
                · obtain ⟨ho, ho8⟩ := or_pow hlt hjl hb0
                  obtain ⟨b3, off3, y, hA, _, hy, hc3⟩ := h.at_ (k := k + 2 ^ j) (by omega)
                  cases hA
                  have hTy := T_of hy.out
                  rw [hb0] at HBit
                  have HP := Lib.hid (fun (n : Nat) => calls_q (w := w) (m := m) (Spower_any j (by omega) (w.drewN (m + n))))
                  have HNV : y < x → Hid (vt t = false) := fun hyx => Lib.hid (vt_false (fun hv => by have := (hv.toS hlt).2 j hjl hb0; rw [HTk.out, hTy] at this; omega))
                  have HUp : ¬ y < x → Hid (OkSU t k (j + 1)) := fun hyx => Lib.hid (HU.out.next (fun _ => by rw [HTk.out, hTy]; omega))
                  obtain ⟨p, hp⟩ : ∃ p, p = 2 ^ j := ⟨_, rfl⟩
                  rw [← hp] at ho HP hc3 ho8
                  clear hp hb0 hy hTy
                  obtain ⟨q, hq⟩ : ∃ q, q = k + p := ⟨_, rfl⟩
                  rw [← hq] at ho hc3 ho8
                  have hq0 : (0 : Int) ≤ (q : Int) := by omega
                  have hq8 : (q : Int) < 8 := by omega
                  have hk0 : (0 : Int) ≤ (k : Int) := by omega
                  have hk8 : (k : Int) < 8 := by omega
                  clear hq
                  by_cases hyx : y < x
                  · have HE := HNV hyx
                    clear HNV HUp
                    go_wp2_with fail
                    go_quiet (first | (go_at_call 159; exact HBit.out _) | (go_at_call 124; exact HP.out _))
                    go_wp2
                    go_ret
                    exact ⟨by rw [HE.out]; rfl, m + nq, by simp⟩
                  · have HU' := HUp hyx
                    clear HNV HUp
                    go_wp2_with fail
                    go_quiet (first | (go_at_call 159; exact HBit.out _) | (go_at_call 124; exact HP.out _))
                    go_wp2
                    go_roundw
                    case rel => exact ⟨j + 1, _, by omega, by go_num, rfl, HU'⟩
                    case measure => simp [intOf]; omega
                · rw [hb1] at HBit
                  have HU' := Lib.hid (HU.out.next (fun h0 => absurd (hb1.symm.trans h0) (by omega)))
                  clear hb1
                  go_wp2_with fail
                  go_quiet (first | (go_at_call 159; exact HBit.out _))
                  go_wp2
                  go_roundw
                  case rel => exact ⟨j + 1, _, by omega, by go_num, rfl, HU'⟩
                  case measure => simp [intOf]; omega
              · obtain rfl : j = 3 := by omega
                have HO' := Lib.hid (HO.out.next HR.out HU.out)
                go_wp2
                go_roundw
                case rel => exact ⟨k + 1, _, by omega, by go_num, rfl, HO'⟩
                case measure => simp [intOf]; omega
          · have HB : Hid (∀ w1, Calls Try.prog 115 #[.int .i64 x, .int .i64 0, .int .i64 30] w1 fun e w' => e = .returned (.bool false) ∧ w1 = w') := Lib.hid (fun w1 => by have := inRange_any x 0 30 w1; rwa [inR_false.2 hB] at this)
            have HE := Lib.hid (vt_false (t := t) (fun hv => hB (by have := (hv.toS hlt).1; rwa [hT] at this)))
            clear hT hx hB
            go_wp2_with (go_at_call 115; refine (HB.out _).mono ?_; rintro e w1 ⟨rfl, rfl⟩)
            go_ret
            exact ⟨by rw [HE.out]; rfl, _, rfl⟩
        · obtain rfl : k = 8 := by omega
          have HE := Lib.hid (vt_true (HA.out HO.out))
          go_wp2
          go_ret
          exact ⟨by rw [HE.out]; rfl, _, rfl⟩
    · have HE := Lib.hid (vt_false (t := t) (fun hv => h0 (hT0.symm.trans hv.2.1)))
      clear hT0 hx0
      go_enter Try.func101, Try.ntmps101
      go_wp2_with (go_at_call 124; refine (HP3.out _).mono ?_; rintro e w1 ⟨rfl, rfl⟩)
      go_ret
      exact ⟨by rw [HE.out]; rfl, 0, rfl⟩
  · have HE := Lib.hid (vt_false (t := t) (fun hv => h8 hv.1))
    have h8' : ¬ (t.length : Int) = 8 := by omega
    go_enter Try.func101, Try.ntmps101
    go_wp2_with (go_at_call 124; refine (HP3.out _).mono ?_; rintro e w1 ⟨rfl, rfl⟩)
    go_ret
    exact ⟨by rw [HE.out]; rfl, 0, rfl⟩

end Go.Proofs.Ytccbjgajmjcpjab

/-
  Chapters 4 and 9, the program: what adds less to more, set by set.
-/
namespace Go.Proofs.Ytccbjgajmjcpjab
open Go.RowKit

/-- More adds less to more, of P sets. -/
def Ne2 (f : Nat → Int) (P : Nat) : Prop := ∀ a, a < P → ∀ b, b < P → f (a ||| b) + f (a &&& b) ≤ f a + f b
noncomputable def neB (f : Nat → Int) (P : Nat) : Bool := @decide (Ne2 f P) (Classical.propDecidable _)
theorem neB_true {f : Nat → Int} {P : Nat} (h : Ne2 f P) : neB f P = true := by unfold neB; simp [h]
theorem neB_false {f : Nat → Int} {P : Nat} (h : ¬ Ne2 f P) : neB f P = false := by unfold neB; simp [h]
theorem neB_iff {f : Nat → Int} {P : Nat} : neB f P = true ↔ Ne2 f P := by unfold neB; simp
def NeTo (f : Nat → Int) (P k : Nat) : Prop := ∀ s, s < k → ∀ x, x < P → f (s ||| x) + f (s &&& x) ≤ f s + f x
def NeU (f : Nat → Int) (s j : Nat) : Prop := ∀ x, x < j → f (s ||| x) + f (s &&& x) ≤ f s + f x
theorem NeTo.zero (f : Nat → Int) (P : Nat) : NeTo f P 0 := fun s h => absurd h (by omega)
theorem NeU.zero (f : Nat → Int) (s : Nat) : NeU f s 0 := fun s h => absurd h (by omega)
theorem NeU.next {f : Nat → Int} {s j : Nat} (h : NeU f s j) (hj : f (s ||| j) + f (s &&& j) ≤ f s + f j) : NeU f s (j + 1) := fun x hx => by
  rcases Nat.lt_or_ge x j with h1 | h1
  · exact h x h1
  · rw [show x = j by omega]; exact hj
theorem NeTo.next {f : Nat → Int} {P s : Nat} (h : NeTo f P s) (hu : NeU f s P) : NeTo f P (s + 1) := fun x hx => by
  rcases Nat.lt_or_ge x s with h1 | h1
  · exact h x h1
  · rw [show x = s by omega]; exact hu
theorem and16 {a b : Nat} (ha : a < 16) (hb : b < 16) : bits .and .i64 (a : Int) (b : Int) = ((a &&& b : Nat) : Int) := by
  have : ∀ a, a < 16 → ∀ b, b < 16 → bits .and .i64 ((a : Nat) : Int) ((b : Nat) : Int) = ((a &&& b : Nat) : Int) := by decide +kernel
  exact this a ha b hb
theorem or16 {a b : Nat} (ha : a < 16) (hb : b < 16) : bits .or .i64 (a : Int) (b : Int) = ((a ||| b : Nat) : Int) := by
  have : ∀ a, a < 16 → ∀ b, b < 16 → bits .or .i64 ((a : Nat) : Int) ((b : Nat) : Int) = ((a ||| b : Nat) : Int) := by decide +kernel
  exact this a ha b hb

set_option maxHeartbeats 1600000 in
theorem addsLess_any (A : Option Addr) (c m P : Nat) (l : List Int) (w : World) (h : Rd w A c l) (hP : P = 2 ^ m) (hm : m ≤ 4) (hl : l.length = P) (hb : ∀ s, s < P → 0 ≤ T l s ∧ T l s ≤ 120) :
    Calls Try.prog 104 #[.slice A P c] w fun e w' => e = .returned (.bool (neB (T l) P)) ∧ ∃ n, w' = w.drewN n := by
  have h16 : P ≤ 16 := by rw [hP]; exact Nat.pow_le_pow_right (n := 2) (by omega) hm
  have HO1 : Hid (∀ a b, a < P → b < P → a ||| b < P) := Lib.hid (fun a b ha hb => by rw [hP] at *; exact Nat.or_lt_two_pow ha hb)
  have HA1 : Hid (∀ a b, a < P → b < P → a &&& b < P) := Lib.hid (fun a b ha hb => Nat.lt_of_le_of_lt Nat.and_le_left ha)
  have HN := Lib.hid (fun (hm : ¬ Ne2 (T l) P) => neB_false hm)
  have HY := Lib.hid (fun (hm : NeTo (T l) P P) => neB_true (f := T l) (P := P) hm)
  have HBD := Lib.hid hb
  clear hP hb
  go_enter Try.func104, Try.ntmps104
  go_wp2
  go_loopw [9] (fun i wr => ∃ k n : Nat, k ≤ P ∧ i = .int .i64 (k : Int) ∧ wr = w.drewN n ∧ Hid (NeTo (T l) P k)) (fun i _ => P - (intOf i).toNat)
  case atStart => exact ⟨0, 0, by omega, rfl, rfl, Lib.hid (NeTo.zero _ _)⟩
  case round =>
    obtain ⟨k, n, hk, rfl, rfl, HO⟩ := hrel
    by_cases hlt : k < P
    · obtain ⟨b, off, x, rfl, _, hx, hc⟩ := h.at_ (k := k) (by omega)
      have hTx := T_of hx.out
      have hxb := HBD.out k hlt
      rw [hTx] at hxb
      have HTX := Lib.hid hTx
      obtain ⟨hx0, hx30⟩ := hxb
      clear hx hTx
      have hk0 : (0 : Int) ≤ (k : Int) := by omega
      have hk8 : (k : Int) < (P : Int) := by omega
      go_wp2
      go_loopw [16] (fun i wr => ∃ j m : Nat, j ≤ P ∧ i = .int .i64 (j : Int) ∧ wr = w.drewN m ∧ Hid (NeU (T l) k j)) (fun i _ => P - (intOf i).toNat)
      case atStart => exact ⟨0, n, by omega, rfl, rfl, Lib.hid (NeU.zero _ k)⟩
      case round =>
        obtain ⟨j, m, hj, rfl, rfl, HU⟩ := hrel
        by_cases hjl : j < P
        · obtain ⟨b2, off2, y, hA, _, hy, hc2⟩ := h.at_ (k := j) (by omega)
          cases hA
          obtain ⟨b3, off3, u, hA, _, hu, hc3⟩ := h.at_ (k := k ||| j) (by rw [hl]; exact HO1.out _ _ hlt hjl)
          cases hA
          obtain ⟨b4, off4, v, hA, _, hv, hc4⟩ := h.at_ (k := k &&& j) (by rw [hl]; exact HA1.out _ _ hlt hjl)
          cases hA
          have hTy := T_of hy.out
          have hTu := T_of hu.out
          have hTv := T_of hv.out
          have hyb := HBD.out j hjl
          have hub := HBD.out (k ||| j) (HO1.out _ _ hlt hjl)
          have hvb := HBD.out (k &&& j) (HA1.out _ _ hlt hjl)
          rw [hTy] at hyb
          rw [hTu] at hub
          rw [hTv] at hvb
          have HNO : x + y < u + v → Hid (neB (T l) P = false) := fun hh => Lib.hid (HN.out (fun hm => by have := hm k hlt j hjl; rw [hTu, hTv, HTX.out, hTy] at this; omega))
          have HYE : ¬ x + y < u + v → Hid (NeU (T l) k (j + 1)) := fun hh => Lib.hid (HU.out.next (by rw [hTu, hTv, HTX.out, hTy]; omega))
          obtain ⟨hy0, hy30⟩ := hyb
          obtain ⟨hu0, hu30⟩ := hub
          obtain ⟨hv0, hv30⟩ := hvb
          have ho := or16 (a := k) (b := j) (by omega) (by omega)
          have ha := and16 (a := k) (b := j) (by omega) (by omega)
          have ho8 := HO1.out k j hlt hjl
          have ha8 := HA1.out k j hlt hjl
          obtain ⟨p, hp⟩ : ∃ p, p = k ||| j := ⟨_, rfl⟩
          obtain ⟨q, hq⟩ : ∃ q, q = k &&& j := ⟨_, rfl⟩
          rw [← hp] at ho hc3 ho8
          rw [← hq] at ha hc4 ha8
          have hp0 : (0 : Int) ≤ (p : Int) := by omega
          have hp8 : (p : Int) < (P : Int) := by omega
          have hq0 : (0 : Int) ≤ (q : Int) := by omega
          have hq8 : (q : Int) < (P : Int) := by omega
          clear hp hq hy hu hv hTy hTu hTv
          have e1 : IntKind.i64.wrap (x + y) = x + y := IntWalk.i64_in _ (by omega)
          have e2 : IntKind.i64.wrap (u + v) = u + v := IntWalk.i64_in _ (by omega)
          by_cases hh : x + y < u + v
          · have HE := HNO hh
            clear HNO HYE
            go_wp2_with fail
            go_quiet (fail)
            go_wp2
            go_ret
            exact ⟨by rw [HE.out]; rfl, _, World.drewN_drewN w m nq⟩
          · have HU' := HYE hh
            clear HNO HYE
            go_wp2_with fail
            go_quiet (fail)
            go_wp2
            go_roundw
            case rel => exact ⟨j + 1, _, by omega, by go_num, rfl, HU'⟩
            case measure => simp [intOf]; omega
        · obtain rfl : j = P := by omega
          have HO' := Lib.hid (HO.out.next HU.out)
          go_wp2
          go_roundw
          case rel => exact ⟨k + 1, _, by omega, by go_num, rfl, HO'⟩
          case measure => simp [intOf]; omega
    · obtain rfl : k = P := by omega
      have HE := Lib.hid (HY.out HO.out)
      go_wp2
      go_ret
      exact ⟨by rw [HE.out]; rfl, _, rfl⟩

end Go.Proofs.Ytccbjgajmjcpjab

/-
  Chapter 4: the contracts of IsModest and of the model's; both sides of ValidTable and of IsModest.
-/
namespace Go.Proofs.Ytccbjgajmjcpjab
open Go.RowKit

noncomputable def mdB (t : List Int) : Bool := @decide (VT t ∧ Mod t) (Classical.propDecidable _)
theorem mdB_true {t : List Int} (h : VT t) (hm : Mod t) : mdB t = true := by unfold mdB; simp [h, hm]
theorem mdB_false {t : List Int} (h : ¬ (VT t ∧ Mod t)) : mdB t = false := by unfold mdB; simp only [decide_eq_false_iff_not]; exact h
/-- Of the first k sets, and of all. -/
def MdTo (t : List Int) (k : Nat) : Prop := ∀ s, s < k → ∀ x, x < 8 → T t (s ||| x) + T t (s &&& x) ≤ T t s + T t x
def MdU (t : List Int) (s j : Nat) : Prop := ∀ x, x < j → T t (s ||| x) + T t (s &&& x) ≤ T t s + T t x
theorem MdTo.zero (t : List Int) : MdTo t 0 := fun s h => absurd h (by omega)
theorem MdU.zero (t : List Int) (s : Nat) : MdU t s 0 := fun s h => absurd h (by omega)
theorem MdU.next {t : List Int} {s j : Nat} (h : MdU t s j) (hj : T t (s ||| j) + T t (s &&& j) ≤ T t s + T t j) : MdU t s (j + 1) := fun x hx => by
  rcases Nat.lt_or_ge x j with h1 | h1
  · exact h x h1
  · rw [show x = j by omega]; exact hj
theorem MdTo.next {t : List Int} {s : Nat} (h : MdTo t s) (hu : MdU t s 8) : MdTo t (s + 1) := fun x hx => by
  rcases Nat.lt_or_ge x s with h1 | h1
  · exact h x h1
  · rw [show x = s by omega]; exact hu
theorem and8 {p r : Nat} (hp : p < 8) : p &&& r < 8 := Nat.lt_of_le_of_lt Nat.and_le_left hp

theorem mdB_ne {t : List Int} (h : VT t) : mdB t = neB (T t) 8 := by
  by_cases hm : Mod t
  · rw [mdB_true h hm, neB_true (fun a ha b hb => hm a ha b hb)]
  · rw [mdB_false (fun h => hm h.2), neB_false (fun hn => hm (fun a ha b hb => hn a ha b hb))]
theorem IsModest_any (A : Option Addr) (c : Nat) (t : List Int) (w : World) (h : Rd w A c t) (hl : t.length ≤ 1099511627776) :
    Calls Try.prog 40 #[.slice A t.length c] w fun e w' => e = .returned (.bool (mdB t)) ∧ Below w.heap.size w w' := by
  have HV := Lib.hid (ValidTable_any A c t w h hl)
  by_cases hv : VT t
  · rw [vt_true hv] at HV
    have HE := Lib.hid (mdB_ne hv)
    have HAL := Lib.hid (fun (w1 : World) (hb : Below w.heap.size w w1) => addsLess_any A c 3 8 t w1 (h.below hb) rfl (by omega) hv.1 (fun s hs => ⟨(hv.bd hs).1, by have := (hv.bd hs).2; omega⟩))
    rw [hv.1] at HV ⊢
    clear hv
    go_enter Try.func40, Try.ntmps40
    go_wp2_with (first
      | (go_at_call 103; refine HV.out.mono ?_; rintro e w1 ⟨rfl, hb1⟩; have HB1 := Lib.hid hb1; clear hb1)
      | (go_at_call 104; refine (HAL.out _ HB1.out).mono ?_; rintro e w2 ⟨rfl, n, rfl⟩))
    go_ret
    exact ⟨by rw [HE.out]; rfl, below_drewN' HB1.out n⟩
  · rw [vt_false hv] at HV
    have HE := Lib.hid (mdB_false (t := t) (fun h => hv h.1))
    clear hv
    go_enter Try.func40, Try.ntmps40
    go_wp2_with (go_at_call 103; refine HV.out.mono ?_; rintro e w1 ⟨rfl, hb⟩)
    go_ret
    exact ⟨by rw [HE.out]; rfl, hb⟩

set_option maxHeartbeats 1600000 in
theorem Smodest_any (A : Option Addr) (c : Nat) (t : List Int) (w : World) (h : Rd w A c t) (hv : VT t) :
    Calls Try.prog 102 #[.slice A t.length c] w fun e w' => e = .returned (.bool (mdB t)) ∧ Below w.heap.size w w' := by
  have HN := Lib.hid (fun (hm : ¬ Mod t) => mdB_false (t := t) (fun h => hm h.2))
  have HY := Lib.hid (fun (hm : MdTo t 8) => mdB_true hv hm)
  have HBD := Lib.hid (fun (s : Nat) (hs : s < 8) => hv.bd hs)
  have h8 := hv.1
  rw [h8]
  clear hv
  go_enter Try.func102, Try.ntmps102
  go_wp2
  go_loopw [3] (fun i wr => ∃ k n : Nat, k ≤ 8 ∧ i = .int .i64 (k : Int) ∧ wr = w.drewN n ∧ Hid (MdTo t k)) (fun i _ => 8 - (intOf i).toNat)
  case atStart => exact ⟨0, 0, by omega, rfl, rfl, Lib.hid (MdTo.zero t)⟩
  case round =>
    obtain ⟨k, n, hk, rfl, rfl, HO⟩ := hrel
    by_cases hlt : k < 8
    · obtain ⟨b, off, x, rfl, _, hx, hc0⟩ := h.at_ (k := k) (by omega)
      have hTx := T_of hx.out
      have hxb := HBD.out k hlt
      rw [hTx] at hxb
      have HTX := Lib.hid hTx
      obtain ⟨hx0, hx30⟩ := hxb
      clear hx hTx hc0
      have hk0 : (0 : Int) ≤ (k : Int) := by omega
      have hk8 : (k : Int) < 8 := by omega
      go_wp2
      go_loopw [4] (fun i wr => ∃ j m : Nat, j ≤ 8 ∧ i = .int .i64 (j : Int) ∧ wr = w.drewN m ∧ Hid (MdU t k j)) (fun i _ => 8 - (intOf i).toNat)
      case atStart => exact ⟨0, n, by omega, rfl, rfl, Lib.hid (MdU.zero t k)⟩
      case round =>
        obtain ⟨j, m, hj, rfl, rfl, HU⟩ := hrel
        by_cases hjl : j < 8
        · obtain ⟨b1, off1, x', hA, _, hx', hc⟩ := h.at_ (k := k) (by omega)
          cases hA
          obtain rfl : x = x' := HTX.out.symm.trans (T_of hx'.out)
          obtain ⟨b2, off2, y, hA, _, hy, hc2⟩ := h.at_ (k := j) (by omega)
          cases hA
          obtain ⟨b3, off3, u, hA, _, hu, hc3⟩ := h.at_ (k := k ||| j) (by rw [h8]; exact or8 hlt hjl)
          cases hA
          obtain ⟨b4, off4, v, hA, _, hv, hc4⟩ := h.at_ (k := k &&& j) (by rw [h8]; exact and8 hlt)
          cases hA
          have hTy := T_of hy.out
          have hTu := T_of hu.out
          have hTv := T_of hv.out
          have hyb := HBD.out j hjl
          have hub := HBD.out (k ||| j) (or8 hlt hjl)
          have hvb := HBD.out (k &&& j) (and8 hlt)
          rw [hTy] at hyb
          rw [hTu] at hub
          rw [hTv] at hvb
          have HNO : x + y < u + v → Hid (mdB t = false) := fun hh => Lib.hid (HN.out (fun hm => by have := hm k hlt j hjl; rw [hTu, hTv, HTX.out, hTy] at this; omega))
          have HYE : ¬ x + y < u + v → Hid (MdU t k (j + 1)) := fun hh => Lib.hid (HU.out.next (by rw [hTu, hTv, HTX.out, hTy]; omega))
          obtain ⟨hy0, hy30⟩ := hyb
          obtain ⟨hu0, hu30⟩ := hub
          obtain ⟨hv0, hv30⟩ := hvb
          have ho := or_nat hlt hjl
          have ha := and_nat hlt hjl
          have ho8 := or8 hlt hjl
          have ha8 : k &&& j < 8 := and8 hlt
          obtain ⟨p, hp⟩ : ∃ p, p = k ||| j := ⟨_, rfl⟩
          obtain ⟨q, hq⟩ : ∃ q, q = k &&& j := ⟨_, rfl⟩
          rw [← hp] at ho hc3 ho8
          rw [← hq] at ha hc4 ha8
          have hj0 : (0 : Int) ≤ (j : Int) := by omega
          have hj8 : (j : Int) < 8 := by omega
          have hp0 : (0 : Int) ≤ (p : Int) := by omega
          have hp8 : (p : Int) < 8 := by omega
          have hq0 : (0 : Int) ≤ (q : Int) := by omega
          have hq8 : (q : Int) < 8 := by omega
          clear hp hq hy hu hv hTy hTu hTv hx'
          have e1 : IntKind.i64.wrap (x + y) = x + y := IntWalk.i64_in _ (by omega)
          have e2 : IntKind.i64.wrap (u + v) = u + v := IntWalk.i64_in _ (by omega)
          by_cases hh : x + y < u + v
          · have HE := HNO hh
            clear HNO HYE
            go_wp2_with fail
            go_quiet (fail)
            go_wp2
            go_ret
            exact ⟨by rw [HE.out]; rfl, below_drewN' (below_drewN' (Below.refl _ _) m) nq⟩
          · have HU' := HYE hh
            clear HNO HYE
            go_wp2_with fail
            go_quiet (fail)
            go_wp2
            go_roundw
            case rel => exact ⟨j + 1, _, by omega, by go_num, rfl, HU'⟩
            case measure => simp [intOf]; omega
        · obtain rfl : j = 8 := by omega
          have HO' := Lib.hid (HO.out.next HU.out)
          go_wp2
          go_roundw
          case rel => exact ⟨k + 1, _, by omega, by go_num, rfl, HO'⟩
          case measure => simp [intOf]; omega
    · obtain rfl : k = 8 := by omega
      have HE := Lib.hid (HY.out HO.out)
      go_wp2
      go_ret
      exact ⟨by rw [HE.out]; rfl, below_drewN' (Below.refl _ _) n⟩

theorem SIsModest_any (A : Option Addr) (c : Nat) (t : List Int) (w : World) (h : Rd w A c t) (hl : t.length ≤ 1099511627776) :
    Calls Try.prog 38 #[.slice A t.length c] w fun e w' => e = .returned (.bool (mdB t)) ∧ Below w.heap.size w w' := by
  have HV := Lib.hid (SvalidTable_any A c t w h hl)
  by_cases hv : VT t
  · rw [vt_true hv] at HV
    have HM := Lib.hid (fun w' (hr : Rd w' A c t) => Smodest_any A c t w' hr hv)
    clear hv
    go_enter Try.func38, Try.ntmps38
    go_wp2_with (first | (go_at_call 101; refine HV.out.mono ?_; rintro e w1 ⟨rfl, n, rfl⟩) | (go_at_call 102; refine (HM.out _ (h.drewN n)).mono ?_; rintro e w1 ⟨rfl, hb⟩))
    go_ret
    exact ⟨rfl, below_then (below_drewN' (Below.refl _ _) n) hb⟩
  · rw [vt_false hv] at HV
    have HE := Lib.hid (mdB_false (t := t) (fun h => hv h.1))
    clear hv
    go_enter Try.func38, Try.ntmps38
    go_wp2_with (go_at_call 101; refine HV.out.mono ?_; rintro e w1 ⟨rfl, n, rfl⟩)
    go_ret
    exact ⟨by rw [HE.out]; rfl, below_drewN' (Below.refl _ _) n⟩

theorem IsModest_both (xs : List Int) (hl : xs.length ≤ 1048576) : ∃ v,
    (∀ A c w, Rd w A c xs → Calls Try.prog 38 #[.slice A xs.length c] w fun e w' => e = .returned (.bool v) ∧ Below w.heap.size w w') ∧
    (∀ A c w, Rd w A c xs → xs.length ≤ c → Calls Try.prog 40 #[.slice A xs.length c] w fun e w' => e = .returned (.bool v) ∧ Below w.heap.size w w') :=
  ⟨mdB xs, fun A c w h => SIsModest_any A c xs w h (by omega), fun A c w h _ => IsModest_any A c xs w h (by omega)⟩

end Go.Proofs.Ytccbjgajmjcpjab

/-
  Chapter 4, the program: tables as arrays; the contract of together.
-/
namespace Go.Proofs.Ytccbjgajmjcpjab
open Go.RowKit

/-- A table as a value. -/
def ag8 (f : Nat → Int) : Value := .agg #[.int .i64 (f 0), .int .i64 (f 1), .int .i64 (f 2), .int .i64 (f 3), .int .i64 (f 4), .int .i64 (f 5), .int .i64 (f 6), .int .i64 (f 7)]
def lit8 (f : Nat → Int) : List Int := [f 0, f 1, f 2, f 3, f 4, f 5, f 6, f 7]
theorem lit8_T {l : List Int} (h : l.length = 8) : lit8 (T l) = l := by
  match l, h with
  | [a, b, c, d, e, f, g, i], _ => rfl
theorem idx8 (f : Nat → Int) {k : Nat} (hk : k < 8) (w : World) :
    (Instr.index 63 (.agg #[.int .i64 (f 0), .int .i64 (f 1), .int .i64 (f 2), .int .i64 (f 3), .int .i64 (f 4), .int .i64 (f 5), .int .i64 (f 6), .int .i64 (f 7)]) (.int .i64 (k : Int))).run Try.prog w = .ok (.int .i64 (f k)) w := by
  rcases nat8 hk with rfl | rfl | rfl | rfl | rfl | rfl | rfl | rfl <;> kernel_rfl

/-- Block m is a table. -/
def Arr (w : World) (m : Nat) (l : List Int) : Prop := l.length = 8 ∧ w.heap[m]? = some (.cells (l.map (Value.int .i64)).toArray 63)
theorem Arr.cell {w : World} {m : Nat} {l : List Int} (h : Arr w m l) {k : Nat} (hk : k < 8) : w.cell? ⟨m, k, none⟩ = some (.int .i64 (T l k)) := by
  have hk' : k < l.length := by rw [h.1]; exact hk
  unfold World.cell?
  rw [h.2]
  simp [T, hk']
theorem Arr.free {w : World} {m : Nat} {l : List Int} (h : Arr w m l) (k : Nat) : w.frozen? ⟨m, k, none⟩ = false := by
  unfold World.frozen?
  rw [h.2]
  simp
theorem Arr.new (w : World) (l : List Int) (hl : l.length = 8) : Arr (w.alloc (.cells (l.map (Value.int .i64)).toArray 63)) w.heap.size l := ⟨hl, by show (w.heap.push _)[_]? = _; simp⟩
theorem Arr.keep {w w' : World} {m : Nat} {l : List Int} (h : Arr w m l) (he : w'.heap[m]? = w.heap[m]?) : Arr w' m l := ⟨h.1, he.trans h.2⟩
theorem Arr.lt {w : World} {m : Nat} {l : List Int} (h : Arr w m l) : m < w.heap.size := by
  rcases Nat.lt_or_ge m w.heap.size with h1 | h1
  · exact h1
  · have := h.2; rw [Array.getElem?_eq_none h1] at this; cases this
theorem Arr.alloc {w : World} {m : Nat} {l : List Int} (h : Arr w m l) (o : Obj) : Arr (w.alloc o) m l := h.keep (Below.heap_alloc w o m h.lt)
theorem Arr.other {w : World} {m m' k : Nat} {v : Value} {l : List Int} (h : Arr w m l) (hne : m ≠ m') : Arr (w.setCell ⟨m', k, none⟩ v) m l := h.keep (Below.heap_setCell w _ v m hne)
theorem Arr.set_ {w : World} {m k : Nat} {l : List Int} (h : Arr w m l) (x : Int) : Arr (w.setCell ⟨m, k, none⟩ (.int .i64 x)) m (l.set k x) := by
  refine ⟨by rw [List.length_set]; exact h.1, ?_⟩
  simp only [World.setCell, Array.getElem?_modify, if_true, h.2]
  simp [List.map_set]

theorem Arr.got {w : World} {m k : Nat} {l : List Int} (h : Arr w m l) (hk : k < 8) (x : Int) : (w.setCell ⟨m, k, none⟩ (.int .i64 x)).cell? ⟨m, k, none⟩ = some (.int .i64 x) := by
  rw [(h.set_ x).cell hk, T_set (by rw [h.1]; exact hk), if_pos rfl]
theorem Arr.all {w : World} {m : Nat} {l : List Int} (h : Arr w m l) : w.cell? ⟨m, 0, none⟩ = some (.int .i64 (T l 0)) ∧ w.cell? ⟨m, 1, none⟩ = some (.int .i64 (T l 1)) ∧ w.cell? ⟨m, 2, none⟩ = some (.int .i64 (T l 2)) ∧ w.cell? ⟨m, 3, none⟩ = some (.int .i64 (T l 3)) ∧
    w.cell? ⟨m, 4, none⟩ = some (.int .i64 (T l 4)) ∧ w.cell? ⟨m, 5, none⟩ = some (.int .i64 (T l 5)) ∧ w.cell? ⟨m, 6, none⟩ = some (.int .i64 (T l 6)) ∧ w.cell? ⟨m, 7, none⟩ = some (.int .i64 (T l 7)) :=
  ⟨h.cell (by omega), h.cell (by omega), h.cell (by omega), h.cell (by omega), h.cell (by omega), h.cell (by omega), h.cell (by omega), h.cell (by omega)⟩

theorem below_al2 {w wr : World} {k : Nat} {v : Value} (h : Below w.heap.size w wr) : Below w.heap.size w (wr.setCell ⟨w.heap.size + 1 + 1, k, none⟩ v) := h.setCell (by show w.heap.size ≤ w.heap.size + 1 + 1; omega) _
/-- Where together stands. -/
def TgAt (w wr : World) (f g : Nat → Int) (p r : Nat) : Prop := Below w.heap.size w wr ∧ Arr wr (w.heap.size + 1) (lit8 g) ∧ Arr wr (w.heap.size + 1 + 1) (List.replicate 8 0) ∧ Arr wr (w.heap.size + 1 + 1 + 1) (tgTo f g p r)
theorem TgAt.skip {w wr : World} {f g : Nat → Int} {p r : Nat} (h : TgAt w wr f g p r) (hz : ¬ p &&& r = 0) : TgAt w wr f g p (r + 1) :=
  ⟨h.1, h.2.1, h.2.2.1, by rw [tgTo_next, tgStep_no _ hz]; exact h.2.2.2⟩
theorem TgAt.put {w wr : World} {f g : Nat → Int} {p r : Nat} {v : Int} (h : TgAt w wr f g p r) (hz : p &&& r = 0) (hv : v = max (T (tgTo f g p r) (p ||| r)) (f p + g r)) : TgAt w (wr.setCell ⟨w.heap.size + 1 + 1 + 1, p ||| r, none⟩ (.int .i64 v)) f g p (r + 1) :=
  ⟨h.1.setCell (by show w.heap.size ≤ w.heap.size + 1 + 1 + 1; omega) _, h.2.1.other (by omega), h.2.2.1.other (by omega), by rw [tgTo_next, tgStep_yes _ hz, ← hv]; exact h.2.2.2.set_ v⟩
theorem TgAt.row {w wr : World} {f g : Nat → Int} {p : Nat} (h : TgAt w wr f g p 8) : TgAt w wr f g (p + 1) 0 := by rw [TgAt, ← tgTo_row]; exact h

set_option maxHeartbeats 1600000 in
theorem together_any (f g : Nat → Int) (F G : Int) (hf : ∀ s, s < 8 → 0 ≤ f s ∧ f s ≤ F) (hg : ∀ s, s < 8 → 0 ≤ g s ∧ g s ≤ G) (hF : F + G ≤ 1048576) (w : World) :
    Calls Try.prog 147 #[ag8 f, ag8 g] w fun e w' => e = .returned (ag8 (T (tg f g))) ∧ Below w.heap.size w w' := by
  have HI := Lib.hid (fun (k : Nat) (hk : k < 8) => idx8 f hk)
  have HJ := Lib.hid (fun (k : Nat) (hk : k < 8) => idx8 g hk)
  have HF := Lib.hid hf
  have HG := Lib.hid hg
  have HBD := Lib.hid (fun (p r : Nat) (hp : p < 8) (hr : r ≤ 8) => tgTo_bd (M := 1048576) hf hg hF (p := p) (r := r) (by omega) hr (.inr hp))
  have HFG := Lib.hid hF
  have HS : Hid (TgAt w ((((w.alloc (.cells #[.int .i64 (f 0), .int .i64 (f 1), .int .i64 (f 2), .int .i64 (f 3), .int .i64 (f 4), .int .i64 (f 5), .int .i64 (f 6), .int .i64 (f 7)] 63)).alloc (.cells #[.int .i64 (g 0), .int .i64 (g 1), .int .i64 (g 2), .int .i64 (g 3), .int .i64 (g 4), .int .i64 (g 5), .int .i64 (g 6), .int .i64 (g 7)] 63)).alloc
      (.cells #[.int .i64 0, .int .i64 0, .int .i64 0, .int .i64 0, .int .i64 0, .int .i64 0, .int .i64 0, .int .i64 0] 63)).alloc (.cells #[.int .i64 0, .int .i64 0, .int .i64 0, .int .i64 0, .int .i64 0, .int .i64 0, .int .i64 0, .int .i64 0] 63)) f g 0 0) := by
    refine Lib.hid ⟨?_, ?_, ?_, ?_⟩
    · exact ((((Below.refl _ w).alloc (Nat.le_refl _) _).alloc (by simp) _).alloc (by simp; omega) _).alloc (by simp; omega) _
    · have h1 := Arr.new (w.alloc (.cells #[.int .i64 (f 0), .int .i64 (f 1), .int .i64 (f 2), .int .i64 (f 3), .int .i64 (f 4), .int .i64 (f 5), .int .i64 (f 6), .int .i64 (f 7)] 63)) (lit8 g) rfl
      rw [show (w.alloc (.cells #[.int .i64 (f 0), .int .i64 (f 1), .int .i64 (f 2), .int .i64 (f 3), .int .i64 (f 4), .int .i64 (f 5), .int .i64 (f 6), .int .i64 (f 7)] 63)).heap.size = w.heap.size + 1 by simp] at h1
      exact (h1.alloc _).alloc _
    · have h1 := Arr.new ((w.alloc (.cells #[.int .i64 (f 0), .int .i64 (f 1), .int .i64 (f 2), .int .i64 (f 3), .int .i64 (f 4), .int .i64 (f 5), .int .i64 (f 6), .int .i64 (f 7)] 63)).alloc (.cells #[.int .i64 (g 0), .int .i64 (g 1), .int .i64 (g 2), .int .i64 (g 3), .int .i64 (g 4), .int .i64 (g 5), .int .i64 (g 6), .int .i64 (g 7)] 63)) (List.replicate 8 0) rfl
      simp only [show ∀ (w : World) (o : Obj), (w.alloc o).heap.size = w.heap.size + 1 from fun w o => by simp] at h1
      exact h1.alloc _
    · have h1 := Arr.new (((w.alloc (.cells #[.int .i64 (f 0), .int .i64 (f 1), .int .i64 (f 2), .int .i64 (f 3), .int .i64 (f 4), .int .i64 (f 5), .int .i64 (f 6), .int .i64 (f 7)] 63)).alloc (.cells #[.int .i64 (g 0), .int .i64 (g 1), .int .i64 (g 2), .int .i64 (g 3), .int .i64 (g 4), .int .i64 (g 5), .int .i64 (g 6), .int .i64 (g 7)] 63)).alloc
        (.cells #[.int .i64 0, .int .i64 0, .int .i64 0, .int .i64 0, .int .i64 0, .int .i64 0, .int .i64 0, .int .i64 0] 63)) (List.replicate 8 0) rfl
      simp only [show ∀ (w : World) (o : Obj), (w.alloc o).heap.size = w.heap.size + 1 from fun w o => by simp] at h1
      rw [tgTo_start]
      exact h1
  clear hf hg hF
  obtain ⟨l, hl⟩ : ∃ l, l = tg f g := ⟨_, rfl⟩
  have HL := Lib.hid hl
  rw [← hl]
  clear hl
  unfold ag8
  go_enter Try.func147, Try.ntmps147
  go_wp2
  go_loopw [11] (fun i wr => ∃ k : Nat, k ≤ 8 ∧ i = .int .i64 (k : Int) ∧ Hid (TgAt w wr f g k 0)) (fun i _ => 8 - (intOf i).toNat)
  case atStart => exact ⟨0, by omega, rfl, HS⟩
  case round =>
    obtain ⟨k, hk, rfl, HA⟩ := hrel
    clear HS
    by_cases hlt : k < 8
    · have hk0 : (0 : Int) ≤ (k : Int) := by omega
      have hk8 : (k : Int) < 8 := by omega
      have hi := HI.out k hlt
      have HFk := Lib.hid (HF.out k hlt)
      obtain ⟨c0, c1, c2, c3, c4, c5, c6, c7⟩ := HA.out.2.1.all
      simp only [show T (lit8 g) 0 = g 0 from rfl, show T (lit8 g) 1 = g 1 from rfl, show T (lit8 g) 2 = g 2 from rfl, show T (lit8 g) 3 = g 3 from rfl, show T (lit8 g) 4 = g 4 from rfl, show T (lit8 g) 5 = g 5 from rfl, show T (lit8 g) 6 = g 6 from rfl, show T (lit8 g) 7 = g 7 from rfl] at c0 c1 c2 c3 c4 c5 c6 c7
      go_wp2
      clear hi c0 c1 c2 c3 c4 c5 c6 c7
      go_loopw [16] (fun i wr => ∃ j : Nat, j ≤ 8 ∧ i = .int .i64 (j : Int) ∧ Hid (TgAt w wr f g k j)) (fun i _ => 8 - (intOf i).toNat)
      case atStart => exact ⟨0, by omega, rfl, HA⟩
      case round =>
        clear HA
        obtain ⟨j, hj, rfl, HA⟩ := hrel
        by_cases hjl : j < 8
        · have hj0 : (0 : Int) ≤ (j : Int) := by omega
          have hj8 : (j : Int) < 8 := by omega
          have hi := HJ.out j hjl
          have ha := and_nat hlt hjl
          by_cases hz : k &&& j = 0
          · rw [hz] at ha
            have ho := or_nat hlt hjl
            have ho8 := or8 hlt hjl
            have hu := HA.out.2.2.2.cell ho8
            have hfr := HA.out.2.2.2.free (k ||| j)
            have hub := (HBD.out k j hlt hj).2 (k ||| j) ho8
            have hfb := HFk.out
            have hgb := HG.out j hjl
            have HP := Lib.hid (fun (v : Int) (hv : v = max (T (tgTo f g k j) (k ||| j)) (f k + g j)) => HA.out.put hz hv)
            have hFG := HFG.out
            have e1 : IntKind.i64.wrap (f k + g j) = f k + g j := IntWalk.i64_in _ (by omega)
            obtain ⟨u, hU⟩ : ∃ u, u = T (tgTo f g k j) (k ||| j) := ⟨_, rfl⟩
            obtain ⟨q, hq⟩ : ∃ q, q = k ||| j := ⟨_, rfl⟩
            rw [← hU] at hu HP
            rw [← hq] at hu ho hfr HP ho8
            have HQ := Lib.hid (HP.out (if u < f k + g j then f k + g j else u) (by split <;> omega))
            have hq0 : (0 : Int) ≤ (q : Int) := by omega
            have hq8 : (q : Int) < 8 := by omega
            clear hU hq hub hfb hgb hz HP hFG
            go_wp2
            go_roundw
            case rel => exact ⟨j + 1, by omega, by go_num, HQ⟩
            case measure => simp [intOf]; omega
          · have hnz : ¬ ((k &&& j : Nat) : Int) = 0 := by omega
            have HQ := Lib.hid (HA.out.skip hz)
            clear hz
            go_wp2
            go_roundw
            case rel => exact ⟨j + 1, by omega, by go_num, HQ⟩
            case measure => simp [intOf]; omega
        · obtain rfl : j = 8 := by omega
          have HQ := Lib.hid HA.out.row
          go_wp2
          go_roundw
          case rel => exact ⟨k + 1, by omega, by go_num, HQ⟩
          case measure => simp [intOf]; omega
    · obtain rfl : k = 8 := by omega
      obtain ⟨hb, _, hr, hbo⟩ := HA.out
      rw [tgTo_all, ← HL.out] at hbo
      obtain ⟨c0, c1, c2, c3, c4, c5, c6, c7⟩ := hbo.all
      have f0 := hr.free 0
      have f1 := hr.free 1
      have f2 := hr.free 2
      have f3 := hr.free 3
      have f4 := hr.free 4
      have f5 := hr.free 5
      have f6 := hr.free 6
      have f7 := hr.free 7
      obtain ⟨r0, r1, r2, r3, r4, r5, r6, r7⟩ := hr.all
      have a0 := hr.set_ (k := 0) (T l 0)
      have s0 : (wr.setCell ⟨w.heap.size + 1 + 1, 0, none⟩ (.int .i64 (T l 0))).cell? ⟨w.heap.size + 1 + 1, 0, none⟩ = some (.int .i64 (T l 0)) := hr.got (by omega) _
      have a1 := a0.set_ (k := 1) (T l 1)
      have s1 : ((wr.setCell ⟨w.heap.size + 1 + 1, 0, none⟩ (.int .i64 (T l 0))).setCell ⟨w.heap.size + 1 + 1, 1, none⟩ (.int .i64 (T l 1))).cell? ⟨w.heap.size + 1 + 1, 1, none⟩ = some (.int .i64 (T l 1)) := a0.got (by omega) _
      have a2 := a1.set_ (k := 2) (T l 2)
      have s2 : (((wr.setCell ⟨w.heap.size + 1 + 1, 0, none⟩ (.int .i64 (T l 0))).setCell ⟨w.heap.size + 1 + 1, 1, none⟩ (.int .i64 (T l 1))).setCell ⟨w.heap.size + 1 + 1, 2, none⟩ (.int .i64 (T l 2))).cell? ⟨w.heap.size + 1 + 1, 2, none⟩ = some (.int .i64 (T l 2)) := a1.got (by omega) _
      have a3 := a2.set_ (k := 3) (T l 3)
      have s3 : ((((wr.setCell ⟨w.heap.size + 1 + 1, 0, none⟩ (.int .i64 (T l 0))).setCell ⟨w.heap.size + 1 + 1, 1, none⟩ (.int .i64 (T l 1))).setCell ⟨w.heap.size + 1 + 1, 2, none⟩ (.int .i64 (T l 2))).setCell ⟨w.heap.size + 1 + 1, 3, none⟩ (.int .i64 (T l 3))).cell? ⟨w.heap.size + 1 + 1, 3, none⟩ = some (.int .i64 (T l 3)) := a2.got (by omega) _
      have a4 := a3.set_ (k := 4) (T l 4)
      have s4 : (((((wr.setCell ⟨w.heap.size + 1 + 1, 0, none⟩ (.int .i64 (T l 0))).setCell ⟨w.heap.size + 1 + 1, 1, none⟩ (.int .i64 (T l 1))).setCell ⟨w.heap.size + 1 + 1, 2, none⟩ (.int .i64 (T l 2))).setCell ⟨w.heap.size + 1 + 1, 3, none⟩ (.int .i64 (T l 3))).setCell ⟨w.heap.size + 1 + 1, 4, none⟩ (.int .i64 (T l 4))).cell? ⟨w.heap.size + 1 + 1, 4, none⟩ = some (.int .i64 (T l 4)) := a3.got (by omega) _
      have a5 := a4.set_ (k := 5) (T l 5)
      have s5 : ((((((wr.setCell ⟨w.heap.size + 1 + 1, 0, none⟩ (.int .i64 (T l 0))).setCell ⟨w.heap.size + 1 + 1, 1, none⟩ (.int .i64 (T l 1))).setCell ⟨w.heap.size + 1 + 1, 2, none⟩ (.int .i64 (T l 2))).setCell ⟨w.heap.size + 1 + 1, 3, none⟩ (.int .i64 (T l 3))).setCell ⟨w.heap.size + 1 + 1, 4, none⟩ (.int .i64 (T l 4))).setCell ⟨w.heap.size + 1 + 1, 5, none⟩ (.int .i64 (T l 5))).cell? ⟨w.heap.size + 1 + 1, 5, none⟩ = some (.int .i64 (T l 5)) := a4.got (by omega) _
      have a6 := a5.set_ (k := 6) (T l 6)
      have s6 : (((((((wr.setCell ⟨w.heap.size + 1 + 1, 0, none⟩ (.int .i64 (T l 0))).setCell ⟨w.heap.size + 1 + 1, 1, none⟩ (.int .i64 (T l 1))).setCell ⟨w.heap.size + 1 + 1, 2, none⟩ (.int .i64 (T l 2))).setCell ⟨w.heap.size + 1 + 1, 3, none⟩ (.int .i64 (T l 3))).setCell ⟨w.heap.size + 1 + 1, 4, none⟩ (.int .i64 (T l 4))).setCell ⟨w.heap.size + 1 + 1, 5, none⟩ (.int .i64 (T l 5))).setCell ⟨w.heap.size + 1 + 1, 6, none⟩ (.int .i64 (T l 6))).cell? ⟨w.heap.size + 1 + 1, 6, none⟩ = some (.int .i64 (T l 6)) := a5.got (by omega) _
      have a7 := a6.set_ (k := 7) (T l 7)
      have s7 : ((((((((wr.setCell ⟨w.heap.size + 1 + 1, 0, none⟩ (.int .i64 (T l 0))).setCell ⟨w.heap.size + 1 + 1, 1, none⟩ (.int .i64 (T l 1))).setCell ⟨w.heap.size + 1 + 1, 2, none⟩ (.int .i64 (T l 2))).setCell ⟨w.heap.size + 1 + 1, 3, none⟩ (.int .i64 (T l 3))).setCell ⟨w.heap.size + 1 + 1, 4, none⟩ (.int .i64 (T l 4))).setCell ⟨w.heap.size + 1 + 1, 5, none⟩ (.int .i64 (T l 5))).setCell ⟨w.heap.size + 1 + 1, 6, none⟩ (.int .i64 (T l 6))).setCell ⟨w.heap.size + 1 + 1, 7, none⟩ (.int .i64 (T l 7))).cell? ⟨w.heap.size + 1 + 1, 7, none⟩ = some (.int .i64 (T l 7)) := a6.got (by omega) _
      have HB : Hid (Below w.heap.size w ((((((((wr.setCell ⟨w.heap.size + 1 + 1, 0, none⟩ (.int .i64 (T l 0))).setCell ⟨w.heap.size + 1 + 1, 1, none⟩ (.int .i64 (T l 1))).setCell ⟨w.heap.size + 1 + 1, 2, none⟩ (.int .i64 (T l 2))).setCell ⟨w.heap.size + 1 + 1, 3, none⟩ (.int .i64 (T l 3))).setCell ⟨w.heap.size + 1 + 1, 4, none⟩ (.int .i64 (T l 4))).setCell ⟨w.heap.size + 1 + 1, 5, none⟩ (.int .i64 (T l 5))).setCell ⟨w.heap.size + 1 + 1, 6, none⟩ (.int .i64 (T l 6))).setCell ⟨w.heap.size + 1 + 1, 7, none⟩ (.int .i64 (T l 7)))) := Lib.hid (below_al2 (below_al2 (below_al2 (below_al2 (below_al2 (below_al2 (below_al2 (below_al2 (hb)))))))))
      clear a0 a1 a2 a3 a4 a5 a6 a7 hr hbo
      go_wp2
      refine bodyPost_ret (by simp [results, Try.results147, go_sem, s0, s1, s2, s3, s4, s5, s6, s7]; try rfl) rfl ?_
      exact ⟨rfl, HB.out⟩

end Go.Proofs.Ytccbjgajmjcpjab
