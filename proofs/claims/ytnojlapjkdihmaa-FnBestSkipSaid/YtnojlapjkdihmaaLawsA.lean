/-
  The laws' helper that compares two slices of ints; what holds of a sale.
-/
import Derived.Test.YtnojlapjkdihmaaGain
import Derived.Test.YtnojlapjkdihmaaDrawC
namespace Go.Proofs.Ytnojlapjkdihmaa
open Go.RowKit

set_option maxHeartbeats 400000 in
theorem equalInts_any (A B : Option Addr) (c d : Nat) (xs ys : List Int) (w : World) (h1 : Rd w A c xs) (h2 : Rd w B d ys) (hl : xs.length ≤ 1099511627776) :
    Calls Try.prog 54 #[.slice A xs.length c, .slice B ys.length d] w (BoolIs w (eqB xs ys)) := by
  by_cases hlen : xs.length = ys.length
  · have he : ((xs.length : Int) != (ys.length : Int)) = false := by simp [hlen]
    have HL := Lib.hid hlen
    have hle : ys.length ≤ xs.length := by omega
    have hle' : xs.length ≤ ys.length := by omega
    clear hlen
    go_enter Try.func54, Try.ntmps54
    go_wp2
    go_loopw [5] (fun i wr => ∃ k n : Nat, k ≤ xs.length ∧ i = .int .i64 k ∧ wr = w.drewN n ∧ Hid (xs.take k = ys.take k))
      (fun i _ => xs.length - (intOf i).toNat)
    case atStart => exact ⟨0, 0, Nat.zero_le _, rfl, rfl, Lib.hid rfl⟩
    case round =>
      obtain ⟨k, n, hk, rfl, rfl, HT⟩ := hrel
      by_cases hlt : k < xs.length
      · obtain ⟨b1, o1, x, rfl, _, hx, hc1⟩ := h1.at_ hlt
        have hlt2 : k < ys.length := by omega
        obtain ⟨b2, o2, y, rfl, _, hy, hc2⟩ := h2.at_ hlt2
        by_cases hxy : x = y
        · subst hxy
          have hne : (x != x) = false := by simp
          have HT' := Lib.hid (take_step hx.out hy.out HT.out)
          go_wp2
          go_quiet (fail)
          go_wp2
          go_roundw
          case rel => exact ⟨k + 1, _, by omega, by go_num, rfl, HT'⟩
          case measure => simp [intOf]; omega
        · have hne : (x != y) = true := by simpa using hxy
          have HE := Lib.hid (eqB_at hx.out hy.out hxy)
          go_wp2
          go_quiet (fail)
          go_wp2
          go_ret
          exact ⟨by rw [HE.out]; rfl, n + nq, World.drewN_drewN _ _ _⟩
      · obtain rfl : k = xs.length := by omega
        have HE := Lib.hid (eqB_all HL.out HT.out)
        go_wp2
        go_ret
        exact ⟨by rw [HE.out]; rfl, _, rfl⟩
  · have he : ((xs.length : Int) != (ys.length : Int)) = true := by simp; omega
    have HE := Lib.hid (eqB_len hlen)
    go_enter Try.func54, Try.ntmps54
    go_wp2
    go_ret
    exact ⟨by rw [HE.out]; rfl, 0, rfl⟩

theorem equalInts_n (A B : Option Addr) (c d n : Nat) (xs : List Int) (w : World) (hn : xs.length = n) (h1 : Rd w A c xs) (h2 : Rd w B d xs) (hl : n ≤ 1099511627776) :
    Calls Try.prog 54 #[.slice A n c, .slice B n d] w (BoolIs w true) := by
  subst hn
  have := equalInts_any A B c d xs xs w h1 h2 hl
  rw [eqB_self] at this
  exact this

theorem nth_le : ∀ (m : Nat) (xs : List Int) (M : Int), 0 ≤ M → (∀ x ∈ xs, x ≤ M) → nthG m xs ≤ M
  | 0, xs, M, h0, h => by
    rw [nthG_zero, List.getD_eq_getElem?_getD]
    cases hx : xs[gr xs xs.length]? with
    | none => exact h0
    | some x => exact h x (List.mem_of_getElem? hx)
  | m + 1, xs, M, h0, h => by
    rw [nthG_succ]
    exact nth_le m _ M h0 (fun x hx => h x (List.mem_of_mem_eraseIdx hx))

theorem gr_ge {xs : List Int} {i : Nat} {x y : Int} (hx : xs[i]? = some x) (hy : xs[gr xs xs.length]? = some y) : x ≤ y := by
  have := gr_max xs xs.length i (List.getElem?_eq_some_iff.1 hx).1
  rw [getD_of hx, getD_of hy] at this
  exact this

/-- What a bidder pays, by all kinds but that by which all pay. -/
theorem pay_zero {kd : Nat} {xs : List Int} {r x p : Int} {i : Nat} (hk : kd ≠ 4) (hx : xs[i]? = some x) (hp : (payOf kd xs r)[i]? = some p) (hi : (i : Int) ≠ atOf xs r) : p = 0 := by
  have hl := (List.getElem?_eq_some_iff.1 hx).1
  by_cases hlt : xs.getD (gr xs xs.length) 0 < r
  · rw [payOf_none hk hlt, List.getElem?_replicate, if_pos hl] at hp
    exact (Option.some.inj hp).symm
  · rw [atOf_some hlt] at hi
    rw [payOf_some hk hlt, List.getElem?_set, if_neg (by omega), List.getElem?_replicate, if_pos hl] at hp
    exact (Option.some.inj hp).symm

theorem pay_le {kd : Nat} {xs : List Int} {r x p : Int} {i : Nat} (hv : vB xs = true) (hx : xs[i]? = some x) (hp : (payOf kd xs r)[i]? = some p) : p ≤ x := by
  have hb : ∀ y ∈ xs, 0 ≤ y := by
    simp only [vB, Bool.and_eq_true, List.all_eq_true] at hv
    intro y hy
    exact (inR_true.1 (hv.2 y hy)).1
  by_cases hk : kd = 4
  · subst hk
    rw [payOf_all] at hp
    rw [hx] at hp
    have := Option.some.inj hp
    omega
  · by_cases hi : (i : Int) = atOf xs r
    · have hl := (List.getElem?_eq_some_iff.1 hx).1
      by_cases hlt : xs.getD (gr xs xs.length) 0 < r
      · rw [atOf_none hlt] at hi; omega
      · rw [atOf_some hlt] at hi
        have hig : i = gr xs xs.length := by omega
        rw [payOf_some hk hlt, List.getElem?_set, if_pos hig.symm, if_pos (by simpa using (by omega : gr xs xs.length < xs.length))] at hp
        have hp := Option.some.inj hp
        rw [← hig, getD_of hx] at hlt
        have hn := nth_le (kd - 1) xs x (hb x (List.mem_of_getElem? hx)) (fun y hy => by
          obtain ⟨j, hj, he⟩ := List.getElem_of_mem hy
          have hj' : xs[j]? = some y := by rw [List.getElem?_eq_getElem hj, he]
          exact gr_ge hj' (by rw [← hig]; exact hx))
        omega
    · rw [pay_zero hk hx hp hi]; exact hb x (List.mem_of_getElem? hx)

theorem kind_all {s : ByteArray} {kd : Nat} (hk : KindIs s kd) : (s.toList == [97, 108, 108]) = decide (kd = 4) := by
  rcases hk with ⟨rfl, rfl⟩ | ⟨rfl, rfl⟩ | ⟨rfl, rfl⟩ | ⟨rfl, rfl⟩ <;> rw [Lib.toList_data] <;> decide

end Go.Proofs.Ytnojlapjkdihmaa
