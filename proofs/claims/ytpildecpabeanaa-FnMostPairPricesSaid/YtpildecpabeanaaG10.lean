/-
  Chapter 4: tables of sets of things: what tells them, of the program and of the model.
-/
import Derived.Test.YtpildecpabeanaaG01
import Derived.Test.YtpildecpabeanaaG04
import Derived.Test.YtpildecpabeanaaG09
namespace Go.Proofs.Ytpildecpabeanaa
open Go.RowKit

theorem and_nat {a b : Nat} (ha : a < 8) (hb : b < 8) : bits .and .i64 (a : Int) (b : Int) = ((a &&& b : Nat) : Int) := by
  have : ∀ a, a < 8 → ∀ b, b < 8 → bits .and .i64 ((a : Nat) : Int) ((b : Nat) : Int) = ((a &&& b : Nat) : Int) := by decide
  exact this a ha b hb
theorem or_nat {a b : Nat} (ha : a < 8) (hb : b < 8) : bits .or .i64 (a : Int) (b : Int) = ((a ||| b : Nat) : Int) := by
  have : ∀ a, a < 8 → ∀ b, b < 8 → bits .or .i64 ((a : Nat) : Int) ((b : Nat) : Int) = ((a ||| b : Nat) : Int) := by decide
  exact this a ha b hb
theorem andNot_nat {a b : Nat} (ha : a < 8) (hb : b < 8) : bits .andNot .i64 (a : Int) (b : Int) = ((a - (a &&& b) : Nat) : Int) := by
  have : ∀ a, a < 8 → ∀ b, b < 8 → bits .andNot .i64 ((a : Nat) : Int) ((b : Nat) : Int) = ((a - (a &&& b) : Nat) : Int) := by decide
  exact this a ha b hb

theorem Spower_any (j : Nat) (hj : j ≤ 3) (w : World) :
    Calls Try.prog 113 #[.int .i64 (j : Int)] w fun e w' => e = .returned (.int .i64 ((2 ^ j : Nat) : Int)) ∧ w = w' := by
  go_enter Try.func113, Try.ntmps113
  go_wp2
  go_loop [0, 3] (fun n o => ∃ m : Nat, m ≤ j ∧ n = .int .i64 (m : Int) ∧ o = .int .i64 ((2 ^ (j - m) : Nat) : Int)) (fun n _ => (intOf n).toNat)
  case atStart => exact ⟨j, Nat.le_refl _, rfl, by simp⟩
  case round =>
    obtain ⟨m, hm, rfl, rfl⟩ := hrel
    cases m with
    | zero =>
      go_wp2
      go_ret
      exact ⟨rfl, rfl⟩
    | succ m =>
      have hp : 2 ^ (j - (m + 1)) ≤ 4 := by
        have : j - (m + 1) ≤ 2 := by omega
        calc 2 ^ (j - (m + 1)) ≤ 2 ^ 2 := Nat.pow_le_pow_right (by decide) this
          _ = 4 := rfl
      have he : 2 ^ (j - m) = 2 * 2 ^ (j - (m + 1)) := by rw [show j - m = (j - (m + 1)) + 1 by omega, Nat.pow_succ]; omega
      obtain ⟨q, hq⟩ : ∃ q, q = 2 ^ (j - (m + 1)) := ⟨_, rfl⟩
      rw [← hq] at hp he ⊢
      have HE := Lib.hid he
      have hm' : (0 : Int) < ((m + 1 : Nat) : Int) := by omega
      clear hq he
      go_wp2
      go_round
      case rel => exact ⟨m, by omega, by go_num, by rw [HE.out]; go_num⟩
      case measure => simp [intOf]

theorem Sbit_any (x j : Nat) (hx : x < 8) (hj : j < 3) (w : World) :
    Calls Try.prog 139 #[.int .i64 (x : Int), .int .i64 (j : Int)] w fun e w' => e = .returned (.int .i64 ((x / 2 ^ j % 2 : Nat) : Int)) ∧ w = w' := by
  have HP := Lib.hid (fun w => Spower_any j (by omega) w)
  have hv : (wrap64 ((x : Int) / ((2 ^ j : Nat) : Int))).tmod 2 = ((x / 2 ^ j % 2 : Nat) : Int) := by
    have : ∀ x, x < 8 → ∀ j, j < 3 → (wrap64 (((x : Nat) : Int) / ((2 ^ j : Nat) : Int))).tmod 2 = ((x / 2 ^ j % 2 : Nat) : Int) := by decide +kernel
    exact this x hx j hj
  obtain ⟨p, hp⟩ : ∃ p, p = 2 ^ j := ⟨_, rfl⟩
  have hp0 : (p : Int) ≠ 0 := by
    have : 0 < 2 ^ j := Nat.pow_pos (by decide)
    omega
  rw [← hp] at HP hv ⊢
  have HV := Lib.hid hv
  clear hv hp
  go_enter Try.func139, Try.ntmps139
  go_wp2_with (go_at_call 113; refine (HP.out _).mono ?_; rintro e w1 ⟨rfl, rfl⟩)
  go_ret
  exact ⟨by rw [← HV.out]; rfl, rfl⟩


theorem bit_cases (s j : Nat) : s / 2 ^ j % 2 = 0 ∨ s / 2 ^ j % 2 = 1 := by omega
theorem and_pow {s j : Nat} (hs : s < 8) (hj : j < 3) : bits .and .i64 (s : Int) ((2 ^ j : Nat) : Int) = ((s / 2 ^ j % 2 * 2 ^ j : Nat) : Int) := by
  have : ∀ s, s < 8 → ∀ j, j < 3 → bits .and .i64 ((s : Nat) : Int) ((2 ^ j : Nat) : Int) = ((s / 2 ^ j % 2 * 2 ^ j : Nat) : Int) := by decide
  exact this s hs j hj
theorem thTo_len (s : Nat) : ∀ k, (thTo s k).length ≤ k
  | 0 => by simp [thTo]
  | k + 1 => by have := thTo_len s k; simp only [thTo]; split <;> simp <;> omega
theorem thTo_yes {s k : Nat} (h : s / 2 ^ k % 2 = 1) : thTo s (k + 1) = thTo s k ++ [(k : Int)] := by simp [thTo, h]
theorem thTo_no {s k : Nat} (h : s / 2 ^ k % 2 = 0) : thTo s (k + 1) = thTo s k := by simp [thTo, h]

set_option maxHeartbeats 800000 in
theorem thingsIn_any (s : Nat) (hs : s < 8) (w : World) :
    Calls Try.prog 146 #[.int .i64 (s : Int)] w fun e w' => ∃ A c, e = .returned (.slice A (th s).length c) ∧ Own w' w.heap.size A c (th s) ∧ Below w.heap.size w w' := by
  go_enter Try.func146, Try.ntmps146
  go_wp2
  go_loopw [3, 5] (fun v i wr => ∃ (k n : Nat) (A : Option Addr) (c : Nat), k ≤ 3 ∧ i = .int .i64 (k : Int) ∧ v = .slice A n c ∧ Hid (n = (thTo s k).length) ∧ n ≤ 3 ∧ Hid (Own wr w.heap.size A c (thTo s k)) ∧ Below w.heap.size w wr) (fun _ i _ => 3 - (intOf i).toNat)
  case atStart => exact ⟨0, 0, none, 0, by omega, rfl, rfl, Lib.hid rfl, by omega, Lib.hid (own_none _ _), Below.refl _ _⟩
  case round =>
    obtain ⟨k, n, A, c, hk, rfl, rfl, HN, hn, HO, hb⟩ := hrel
    by_cases hlt : k < 3
    · have hp := Lib.hid (and_pow hs hlt)
      have HK : Hid ((thTo s k).length ≤ k) := Lib.hid (thTo_len s k)
      rcases bit_cases s k with h0 | h1
      · have HT := Lib.hid (thTo_no h0)
        have hz : bits .and .i64 (s : Int) ((2 ^ k : Nat) : Int) = 0 := by rw [hp.out, h0]; simp
        clear h0
        have HS : Hid (Own wr w.heap.size A c (thTo s (k + 1))) := Lib.hid (by rw [HT.out]; exact HO.out)
        have HL : Hid (n = (thTo s (k + 1)).length) := Lib.hid (by rw [HT.out]; exact HN.out)
        clear HT HO HN hp
        have : k = 0 ∨ k = 1 ∨ k = 2 := by omega
        rcases this with rfl | rfl | rfl
        · have hz1 : bits .and .i64 (s : Int) 1 = 0 := hz
          clear hz
          go_wp2
          go_roundw
          case rel => exact ⟨1, n, A, c, by omega, by go_num, rfl, HL, hn, HS, hb⟩
          case measure => simp [intOf]
        · have hz1 : bits .and .i64 (s : Int) 2 = 0 := hz
          clear hz
          go_wp2
          go_roundw
          case rel => exact ⟨2, n, A, c, by omega, by go_num, rfl, HL, hn, HS, hb⟩
          case measure => simp [intOf]
        · have hz1 : bits .and .i64 (s : Int) 4 = 0 := hz
          clear hz
          go_wp2
          go_roundw
          case rel => exact ⟨3, n, A, c, by omega, by go_num, rfl, HL, hn, HS, hb⟩
          case measure => simp [intOf]
      · have HT := Lib.hid (thTo_yes h1)
        have hz : bits .and .i64 (s : Int) ((2 ^ k : Nat) : Int) = ((2 ^ k : Nat) : Int) := by rw [hp.out, h1]; simp
        clear h1
        have HOL : Hid (Own (wr.alloc (.cells #[.int .i64 (k : Int)] 3)) wr.heap.size (some ⟨wr.heap.size, 0, none⟩) 1 [(k : Int)]) := Lib.hid (own_lit wr [(k : Int)] (by simp))
        have HOA : Hid (Own (wr.alloc (.cells #[.int .i64 (k : Int)] 3)) w.heap.size A c (thTo s k)) := Lib.hid (World.ownsRow.alloc HO.out _)
        have hbA := hb.alloc hb.size (.cells #[.int .i64 (k : Int)] 3)
        have hn2 : n ≤ 2 := by have := HN.out; have := HK.out; omega
        clear HO hp
        have : k = 0 ∨ k = 1 ∨ k = 2 := by omega
        rcases this with rfl | rfl | rfl
        · have hz1 : bits .and .i64 (s : Int) 1 = 1 := hz
          clear hz
          go_wp2_with (at_builtin; refine wpList_append_any rfl _ _ 23 Try.underlying23 rfl w.heap.size A c (thTo s 0) n HN.out.symm rfl HOA.out _ _ [0] 1 rfl rfl HOL.out.rd (by omega) hbA.size ?_; intro A4 c4 w4 o4 g4)
          have B4 := Own.grownBelow0 hbA HOA.out hbA.size g4
          have HO4 : Hid (Own w4 w.heap.size A4 c4 (thTo s 1)) := Lib.hid (by rw [HT.out]; exact o4)
          have HN4 : Hid (n + 1 = (thTo s 1).length) := Lib.hid (by rw [HT.out, List.length_append, ← HN.out]; rfl)
          go_wp2
          go_roundw
          case rel => exact ⟨1, n + 1, A4, c4, by omega, by go_num, rfl, HN4, by omega, HO4, B4⟩
          case measure => simp [intOf]
        · have hz1 : bits .and .i64 (s : Int) 2 = 2 := hz
          clear hz
          go_wp2_with (at_builtin; refine wpList_append_any rfl _ _ 23 Try.underlying23 rfl w.heap.size A c (thTo s 1) n HN.out.symm rfl HOA.out _ _ [1] 1 rfl rfl HOL.out.rd (by omega) hbA.size ?_; intro A4 c4 w4 o4 g4)
          have B4 := Own.grownBelow0 hbA HOA.out hbA.size g4
          have HO4 : Hid (Own w4 w.heap.size A4 c4 (thTo s 2)) := Lib.hid (by rw [HT.out]; exact o4)
          have HN4 : Hid (n + 1 = (thTo s 2).length) := Lib.hid (by rw [HT.out, List.length_append, ← HN.out]; rfl)
          go_wp2
          go_roundw
          case rel => exact ⟨2, n + 1, A4, c4, by omega, by go_num, rfl, HN4, by omega, HO4, B4⟩
          case measure => simp [intOf]
        · have hz1 : bits .and .i64 (s : Int) 4 = 4 := hz
          clear hz
          go_wp2_with (at_builtin; refine wpList_append_any rfl _ _ 23 Try.underlying23 rfl w.heap.size A c (thTo s 2) n HN.out.symm rfl HOA.out _ _ [2] 1 rfl rfl HOL.out.rd (by omega) hbA.size ?_; intro A4 c4 w4 o4 g4)
          have B4 := Own.grownBelow0 hbA HOA.out hbA.size g4
          have HO4 : Hid (Own w4 w.heap.size A4 c4 (thTo s 3)) := Lib.hid (by rw [HT.out]; exact o4)
          have HN4 : Hid (n + 1 = (thTo s 3).length) := Lib.hid (by rw [HT.out, List.length_append, ← HN.out]; rfl)
          go_wp2
          go_roundw
          case rel => exact ⟨3, n + 1, A4, c4, by omega, by go_num, rfl, HN4, by omega, HO4, B4⟩
          case measure => simp [intOf]
    · obtain rfl : k = 3 := by omega
      have HN' : Hid (n = (th s).length) := HN
      go_wp2
      go_ret
      exact ⟨A, c, by rw [← HN'.out]; rfl, HO.out, hb⟩

end Go.Proofs.Ytpildecpabeanaa

/-
  Chapter 4: the contracts of bestLess, ValidTable and validTable.
-/
namespace Go.Proofs.Ytpildecpabeanaa
open Go.RowKit

theorem thTo_mem {s : Nat} : ∀ {k : Nat} {x : Int}, x ∈ thTo s k → ∃ j : Nat, x = (j : Int) ∧ j < k ∧ s / 2 ^ j % 2 = 1
  | 0, x, h => by simp [thTo] at h
  | k + 1, x, h => by
    simp only [thTo] at h
    split at h
    · next hb =>
      rcases List.mem_append.1 h with h | h
      · obtain ⟨j, h1, h2, h3⟩ := thTo_mem h
        exact ⟨j, h1, by omega, h3⟩
      · simp at h
        exact ⟨k, h, by omega, hb⟩
    · obtain ⟨j, h1, h2, h3⟩ := thTo_mem h
      exact ⟨j, h1, by omega, h3⟩
theorem th_at {s i : Nat} {x : Int} (h : (th s)[i]? = some x) : ∃ j : Nat, x = (j : Int) ∧ j < 3 ∧ s / 2 ^ j % 2 = 1 := thTo_mem (List.mem_of_getElem? h)
theorem th_le (s : Nat) : (th s).length ≤ 3 := thTo_len s 3
/-- The best of what is one thing less, of the first i things of the set. -/
def bstL (t : List Int) (s i : Nat) : Int := ((th s).take i).foldl (fun m j => max m (T t (s - 2 ^ j.toNat))) 0
theorem bstL_zero (t : List Int) (s : Nat) : bstL t s 0 = 0 := by simp [bstL]
theorem bstL_step (t : List Int) {s i j : Nat} (h : (th s)[i]? = some (j : Int)) : bstL t s (i + 1) = max (bstL t s i) (T t (s - 2 ^ j)) := by
  unfold bstL
  rw [List.take_add_one, h, List.foldl_append]
  simp
theorem bstL_th (t : List Int) (s : Nat) : bstL t s (th s).length = bl t s := by
  have : ∀ k, (thTo s k).foldl (fun m j => max m (T t (s - 2 ^ j.toNat))) 0 = blTo t s k := by
    intro k
    induction k with
    | zero => simp [thTo, blTo]
    | succ k ih =>
      simp only [thTo, blTo]
      split
      · rw [List.foldl_append, ih]; simp
      · exact ih
  unfold bstL bl
  rw [List.take_length]
  exact this 3
theorem andNot_pow {s j : Nat} (hs : s < 8) (hj : j < 3) (hb : s / 2 ^ j % 2 = 1) : bits .andNot .i64 (s : Int) ((2 ^ j : Nat) : Int) = ((s - 2 ^ j : Nat) : Int) := by
  have : ∀ s, s < 8 → ∀ j, j < 3 → s / 2 ^ j % 2 = 1 → bits .andNot .i64 ((s : Nat) : Int) ((2 ^ j : Nat) : Int) = ((s - 2 ^ j : Nat) : Int) := by decide
  exact this s hs j hj hb

set_option maxHeartbeats 800000 in
theorem bestLess_any (A : Option Addr) (c : Nat) (t : List Int) (s : Nat) (w : World) (h : Rd w A c t) (hl : t.length = 8) (hs : s < 8) :
    Calls Try.prog 162 #[.slice A 8 c, .int .i64 (s : Int)] w fun e w' => e = .returned (.int .i64 (bl t s)) ∧ Below w.heap.size w w' := by
  have HT := Lib.hid (thingsIn_any s hs w)
  have HB := Lib.hid (bstL_th t s)
  have hln := th_le s
  have HM := Lib.hid (fun (i : Nat) (x : Int) (h : (th s)[i]? = some x) => th_at h)
  have HS := Lib.hid (fun (i j : Nat) (h : (th s)[i]? = some (j : Int)) => bstL_step t h)
  have H0 := Lib.hid (bstL_zero t s)
  have HN : Hid (∀ j : Nat, j < 3 → s / 2 ^ j % 2 = 1 → bits .andNot .i64 (s : Int) ((2 ^ j : Nat) : Int) = ((s - 2 ^ j : Nat) : Int)) := Lib.hid (fun j hj hb => andNot_pow hs hj hb)
  obtain ⟨L, hL⟩ : ∃ L, L = th s := ⟨_, rfl⟩
  rw [← hL] at HT HB hln HM HS
  clear hL
  go_enter Try.func162, Try.ntmps162
  go_wp2_with (go_at_call 146; refine HT.out.mono ?_; rintro e w1 ⟨A1, c1, rfl, HO, hb⟩)
  have h1 := h.below hb
  go_loopw [5, 11] (fun m i wr => ∃ (k n : Nat) (v : Int), k ≤ L.length ∧ i = .int .i64 (k : Int) ∧ m = .int .i64 v ∧ Hid (v = bstL t s k) ∧ wr = w1.drewN n) (fun _ i _ => L.length - (intOf i).toNat)
  case atStart => exact ⟨0, 0, 0, Nat.zero_le _, rfl, rfl, Lib.hid (H0.out).symm, rfl⟩
  case round =>
    obtain ⟨k, n, v, hk, rfl, rfl, HV, rfl⟩ := hrel
    by_cases hlt : k < L.length
    · obtain ⟨b, off, x, rfl, _, hx, hc⟩ := HO.rd.at_ hlt
      obtain ⟨j, rfl, hj, hbit⟩ := HM.out k x hx.out
      have HS' := Lib.hid (HS.out k j hx.out)
      have hz := HN.out j hj hbit
      obtain ⟨b2, off2, y, rfl, _, hy, hc2⟩ := h1.at_ (k := s - 2 ^ j) (by rw [hl]; exact Nat.lt_of_le_of_lt (Nat.sub_le _ _) hs)
      have hT : Hid (T t (s - 2 ^ j) = y) := Lib.hid (T_of hy.out)
      have HV' : Hid ((if v < y then y else v) = bstL t s (k + 1)) := Lib.hid (by rw [HS'.out, ← HV.out, hT.out]; split <;> omega)
      have hs2 : s - 2 ^ j < 8 := Nat.lt_of_le_of_lt (Nat.sub_le _ _) hs
      clear hx hy HS' HV hT hbit
      have : j = 0 ∨ j = 1 ∨ j = 2 := by omega
      rcases this with rfl | rfl | rfl
      · have hz1 : bits .andNot .i64 (s : Int) 1 = ((s - 2 ^ 0 : Nat) : Int) := hz
        clear hz
        obtain ⟨q, hq⟩ : ∃ q, q = s - 2 ^ 0 := ⟨_, rfl⟩
        rw [← hq] at hz1 hc2 hs2
        clear hq
        go_wp2
        go_roundw
        case rel => exact ⟨k + 1, _, _, by omega, by go_num, rfl, HV', rfl⟩
        case measure => simp [intOf]; omega
      · have hz1 : bits .andNot .i64 (s : Int) 2 = ((s - 2 ^ 1 : Nat) : Int) := hz
        clear hz
        obtain ⟨q, hq⟩ : ∃ q, q = s - 2 ^ 1 := ⟨_, rfl⟩
        rw [← hq] at hz1 hc2 hs2
        clear hq
        go_wp2
        go_roundw
        case rel => exact ⟨k + 1, _, _, by omega, by go_num, rfl, HV', rfl⟩
        case measure => simp [intOf]; omega
      · have hz1 : bits .andNot .i64 (s : Int) 4 = ((s - 2 ^ 2 : Nat) : Int) := hz
        clear hz
        obtain ⟨q, hq⟩ : ∃ q, q = s - 2 ^ 2 := ⟨_, rfl⟩
        rw [← hq] at hz1 hc2 hs2
        clear hq
        go_wp2
        go_roundw
        case rel => exact ⟨k + 1, _, _, by omega, by go_num, rfl, HV', rfl⟩
        case measure => simp [intOf]; omega
    · obtain rfl : k = L.length := by omega
      have HE : Hid (v = bl t s) := Lib.hid (by rw [HV.out]; exact HB.out)
      go_wp2
      go_ret
      exact ⟨by rw [HE.out]; rfl, below_drewN' hb _⟩

end Go.Proofs.Ytpildecpabeanaa
