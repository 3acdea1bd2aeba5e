/-
  Chapter 4: the contracts of bestLess, ValidTable and validTable.
-/
import Derived.Test.YtccbjgajmjcpjabWe
namespace Go.Proofs.Ytccbjgajmjcpjab
open Go.RowKit

theorem thTo_mem {s : Nat} : ∀ {k : Nat} {x : Int}, x ∈ thTo s k → ∃ j : Nat, x = (j : Int) ∧ j < k ∧ s / 2 ^ j % 2 = 1
  | 0, x, h => by simp [thTo] at h
  | k + 1, x, h => by
    simp only [thTo] at h
    split at h
    · next hb =>
      rcases List.mem_append.1 h with h | h
      · obtain ⟨j, h1, h2, h3⟩ := thTo_mem h
        exact ⟨j, h1, by omega, h3⟩
      · simp at h
        exact ⟨k, h, by omega, hb⟩
    · obtain ⟨j, h1, h2, h3⟩ := thTo_mem h
      exact ⟨j, h1, by omega, h3⟩
theorem th_at {s i : Nat} {x : Int} (h : (th s)[i]? = some x) : ∃ j : Nat, x = (j : Int) ∧ j < 3 ∧ s / 2 ^ j % 2 = 1 := thTo_mem (List.mem_of_getElem? h)
theorem th_le (s : Nat) : (th s).length ≤ 3 := thTo_len s 3
/-- The best of what is one thing less, of the first i things of the set. -/
def bstL (t : List Int) (s i : Nat) : Int := ((th s).take i).foldl (fun m j => max m (T t (s - 2 ^ j.toNat))) 0
theorem bstL_zero (t : List Int) (s : Nat) : bstL t s 0 = 0 := by simp [bstL]
theorem bstL_step (t : List Int) {s i j : Nat} (h : (th s)[i]? = some (j : Int)) : bstL t s (i + 1) = max (bstL t s i) (T t (s - 2 ^ j)) := by
  unfold bstL
  rw [List.take_add_one, h, List.foldl_append]
  simp
theorem bstL_th (t : List Int) (s : Nat) : bstL t s (th s).length = bl t s := by
  have : ∀ k, (thTo s k).foldl (fun m j => max m (T t (s - 2 ^ j.toNat))) 0 = blTo t s k := by
    intro k
    induction k with
    | zero => simp [thTo, blTo]
    | succ k ih =>
      simp only [thTo, blTo]
      split
      · rw [List.foldl_append, ih]; simp
      · exact ih
  unfold bstL bl
  rw [List.take_length]
  exact this 3
theorem andNot_pow {s j : Nat} (hs : s < 8) (hj : j < 3) (hb : s / 2 ^ j % 2 = 1) : bits .andNot .i64 (s : Int) ((2 ^ j : Nat) : Int) = ((s - 2 ^ j : Nat) : Int) := by
  have : ∀ s, s < 8 → ∀ j, j < 3 → s / 2 ^ j % 2 = 1 → bits .andNot .i64 ((s : Nat) : Int) ((2 ^ j : Nat) : Int) = ((s - 2 ^ j : Nat) : Int) := by decide
  exact this s hs j hj hb

set_option maxHeartbeats 800000 in
theorem bestLess_any (A : Option Addr) (c : Nat) (t : List Int) (s : Nat) (w : World) (h : Rd w A c t) (hl : t.length = 8) (hs : s < 8) :
    Calls Try.prog 160 #[.slice A 8 c, .int .i64 (s : Int)] w fun e w' => e = .returned (.int .i64 (bl t s)) ∧ Below w.heap.size w w' := by
  have HT := Lib.hid (thingsIn_any s hs w)
  have HB := Lib.hid (bstL_th t s)
  have hln := th_le s
  have HM := Lib.hid (fun (i : Nat) (x : Int) (h : (th s)[i]? = some x) => th_at h)
  have HS := Lib.hid (fun (i j : Nat) (h : (th s)[i]? = some (j : Int)) => bstL_step t h)
  have H0 := Lib.hid (bstL_zero t s)
  have HN : Hid (∀ j : Nat, j < 3 → s / 2 ^ j % 2 = 1 → bits .andNot .i64 (s : Int) ((2 ^ j : Nat) : Int) = ((s - 2 ^ j : Nat) : Int)) := Lib.hid (fun j hj hb => andNot_pow hs hj hb)
  obtain ⟨L, hL⟩ : ∃ L, L = th s := ⟨_, rfl⟩
  rw [← hL] at HT HB hln HM HS
  clear hL
  go_enter Try.func160, Try.ntmps160
  go_wp2_with (go_at_call 144; refine HT.out.mono ?_; rintro e w1 ⟨A1, c1, rfl, HO, hb⟩)
  have h1 := h.below hb
  go_loopw [5, 11] (fun m i wr => ∃ (k n : Nat) (v : Int), k ≤ L.length ∧ i = .int .i64 (k : Int) ∧ m = .int .i64 v ∧ Hid (v = bstL t s k) ∧ wr = w1.drewN n) (fun _ i _ => L.length - (intOf i).toNat)
  case atStart => exact ⟨0, 0, 0, Nat.zero_le _, rfl, rfl, Lib.hid (H0.out).symm, rfl⟩
  case round =>
    obtain ⟨k, n, v, hk, rfl, rfl, HV, rfl⟩ := hrel
    by_cases hlt : k < L.length
    · obtain ⟨b, off, x, rfl, _, hx, hc⟩ := HO.rd.at_ hlt
      obtain ⟨j, rfl, hj, hbit⟩ := HM.out k x hx.out
      have HS' := Lib.hid (HS.out k j hx.out)
      have hz := HN.out j hj hbit
      obtain ⟨b2, off2, y, rfl, _, hy, hc2⟩ := h1.at_ (k := s - 2 ^ j) (by rw [hl]; exact Nat.lt_of_le_of_lt (Nat.sub_le _ _) hs)
      have hT : Hid (T t (s - 2 ^ j) = y) := Lib.hid (T_of hy.out)
      have HV' : Hid ((if v < y then y else v) = bstL t s (k + 1)) := Lib.hid (by rw [HS'.out, ← HV.out, hT.out]; split <;> omega)
      have hs2 : s - 2 ^ j < 8 := Nat.lt_of_le_of_lt (Nat.sub_le _ _) hs
      clear hx hy HS' HV hT hbit
      have : j = 0 ∨ j = 1 ∨ j = 2 := by omega
      rcases this with rfl | rfl | rfl
      · have hz1 : bits .andNot .i64 (s : Int) 1 = ((s - 2 ^ 0 : Nat) : Int) := hz
        clear hz
        obtain ⟨q, hq⟩ : ∃ q, q = s - 2 ^ 0 := ⟨_, rfl⟩
        rw [← hq] at hz1 hc2 hs2
        clear hq
        go_wp2
        go_roundw
        case rel => exact ⟨k + 1, _, _, by omega, by go_num, rfl, HV', rfl⟩
        case measure => simp [intOf]; omega
      · have hz1 : bits .andNot .i64 (s : Int) 2 = ((s - 2 ^ 1 : Nat) : Int) := hz
        clear hz
        obtain ⟨q, hq⟩ : ∃ q, q = s - 2 ^ 1 := ⟨_, rfl⟩
        rw [← hq] at hz1 hc2 hs2
        clear hq
        go_wp2
        go_roundw
        case rel => exact ⟨k + 1, _, _, by omega, by go_num, rfl, HV', rfl⟩
        case measure => simp [intOf]; omega
      · have hz1 : bits .andNot .i64 (s : Int) 4 = ((s - 2 ^ 2 : Nat) : Int) := hz
        clear hz
        obtain ⟨q, hq⟩ : ∃ q, q = s - 2 ^ 2 := ⟨_, rfl⟩
        rw [← hq] at hz1 hc2 hs2
        clear hq
        go_wp2
        go_roundw
        case rel => exact ⟨k + 1, _, _, by omega, by go_num, rfl, HV', rfl⟩
        case measure => simp [intOf]; omega
    · obtain rfl : k = L.length := by omega
      have HE : Hid (v = bl t s) := Lib.hid (by rw [HV.out]; exact HB.out)
      go_wp2
      go_ret
      exact ⟨by rw [HE.out]; rfl, below_drewN' hb _⟩

end Go.Proofs.Ytccbjgajmjcpjab
