/-
  Chapter 8, the program: what is wanted at prices, and how many want it within a set.
-/
import Derived.Test.YtkhpheebjkbihabOv
import Derived.Test.YtkhpheebjkbihabOx
import Derived.Test.YtkhpheebjkbihabGO
namespace Go.Proofs.Ytkhpheebjkbihab
open Go.RowKit

theorem andNot32 {a s : Nat} (ha : a < 32) (hs : s < 16) : (bits .andNot .i64 (a : Int) (s : Int) == 0) = decide (∀ j : Fin 5, a / 2 ^ j.1 % 2 = 1 → s / 2 ^ j.1 % 2 = 1) := by
  have key : ∀ (a : Fin 32) (s : Fin 16), (bits .andNot .i64 ((a.1 : Nat) : Int) ((s.1 : Nat) : Int) == 0) = decide (∀ j : Fin 5, a.1 / 2 ^ j.1 % 2 = 1 → s.1 / 2 ^ j.1 % 2 = 1) := by decide +kernel
  exact key ⟨a, ha⟩ ⟨s, hs⟩
/-- What a bidder wants, none among it as the number of things. -/
def wbS (m : Nat) (r p : List Int) : Nat := wnTo r (P1 p) (bo m r 0 (P1 p)) (m + 1)
theorem wbS_lt {m : Nat} (hm : m ≤ 4) (r p : List Int) : wbS m r p < 32 := by
  have h := wnTo_lt r (P1 p) (bo m r 0 (P1 p)) (m + 1)
  have h2 := Nat.pow_le_pow_right (n := 2) (by omega) (show m + 1 ≤ 5 by omega)
  unfold wbS; omega
theorem inS_many {m : Nat} (hm : m ≤ 4) {r p : List Int} (hr : r.length = m) (hp : p.length = m) {S : Nat} (hS : S < 2 ^ m) : inS m r (P1 p) S = (bits .andNot .i64 ((wbS m r p : Nat) : Int) (S : Int) == 0) := by
  have h16 := Nat.pow_le_pow_right (n := 2) (by omega) hm
  rw [andNot32 (wbS_lt hm r p) (by omega)]
  have hn := bo_nonneg m r 0 (P1 p)
  have z1 : r.getD m 0 = 0 := by rw [List.getD_eq_getElem?_getD, List.getElem?_eq_none (by omega)]; rfl
  have z2 : P1 p m = 0 := by unfold P1; rw [List.getD_eq_getElem?_getD, List.getElem?_eq_none (by omega)]; rfl
  have hSm : S / 2 ^ m % 2 = 0 := by rw [Nat.div_eq_of_lt hS]
  rw [Bool.eq_iff_iff]
  simp only [inS, decide_eq_true_eq, wbS]
  constructor
  · rintro ⟨h0, h1⟩
    refine decide_eq_true (fun j hj => ?_)
    obtain ⟨a, b⟩ := (wnTo_bit j.2 (m + 1) (by omega)).1 hj
    rcases Nat.lt_or_ge j.1 m with h | h
    · exact h1 j.1 h b
    · have : j.1 = m := by omega
      rw [this, z1, z2] at b; omega
  · intro h
    have h := of_decide_eq_true h
    refine ⟨?_, fun j hj he => h ⟨j, by omega⟩ ((wnTo_bit (j := j) (show j < 5 by omega) (m + 1) (by omega)).2 ⟨show j < m + 1 by omega, he⟩)⟩
    refine Classical.byContradiction (fun hb => ?_)
    have := h ⟨m, by omega⟩ ((wnTo_bit (j := m) (show m < 5 by omega) (m + 1) (by omega)).2 ⟨show m < m + 1 by omega, by rw [z1, z2]; omega⟩)
    simp only at this
    omega

theorem nat_add_in {z q : Nat} (h : z + q ≤ 1000) : IntKind.i64.wrap ((z : Int) + (q : Int)) = ((z + q : Nat) : Int) := by rw [IntWalk.i64_in _ (by omega)]; omega
set_option maxHeartbeats 800000 in
theorem wantedBy_any (A B : Option Addr) (c d m : Nat) (r p : List Int) (w : World) (hR : Rd w A c r) (hP : Rd w B d p) (hm : r.length = m) (hp : p.length = m) (h1 : 1 ≤ m) (h4 : m ≤ 4) (hc : m ≤ c) (hrb : ∀ j, 0 ≤ r.getD j 0 ∧ r.getD j 0 ≤ 12) (hpb : ∀ j, 0 ≤ p.getD j 0 ∧ p.getD j 0 ≤ 100) :
    Calls Try.prog 150 #[.slice A m c, .slice B m d] w fun e w' => e = .returned (.int .i64 ((wbS m r p : Nat) : Int)) ∧ Below w.heap.size w w' := by
  have hll : (lfL r p).length = m + 1 := by rw [lfL, lfK_len, hm]
  have hlf : Calls Try.prog 125 #[.slice A m c, .slice B m d] w fun e w' => ∃ A1 c1, e = .returned (.slice A1 (m + 1) c1) ∧ Own w' w.heap.size A1 c1 (lfL r p) ∧ Below w.heap.size w w' := by
    have := leftBy_any A B c d m r p w hR hP hm hp h1 h4 hc hrb hpb
    unfold NewL at this
    rwa [hll] at this
  have HLF := Lib.hid hlf
  have HMX := Lib.hid (fun (A1 : Option Addr) (c1 : Nat) (w1 : World) (h : Rd w1 A1 c1 (lfL r p)) => MaxOf_any A1 c1 (m + 1) (lfL r p) w1 hll h (by omega) (by omega))
  have HTOP := Lib.hid (fun v (h : v ∈ lfL r p ∧ ∀ y ∈ lfL r p, y ≤ v) => lfL_top hm hp h.1 h.2)
  have HAT := Lib.hid (fun j (hj : j ≤ m) => lfL_at (r := r) (p := p) hm hp hj)
  have HLL := Lib.hid hll
  clear hlf hll hR hP hrb hpb hm hp
  go_enter Try.func150, Try.ntmps150
  go_wp2_with fail
  refine HLF.out.mono ?_
  rintro e w1 ⟨A1, c1, rfl, o1, b1⟩
  go_wp2_with fail
  refine (HMX.out A1 c1 w1 o1.rd).mono ?_
  rintro e w2 ⟨v, rfl, hv, rfl⟩
  have HV := Lib.hid (HTOP.out v hv)
  have HO := Lib.hid o1
  have HB := Lib.hid b1
  have HEND : Hid (wbS m r p = wnTo r (P1 p) v (m + 1)) := Lib.hid (by unfold wbS; rw [HV.out])
  clear hv o1 b1 HLF HMX HTOP
  go_wp2_with fail
  go_loopw [7, 17] (fun o i wr => ∃ (k z : Nat), k ≤ m + 1 ∧ i = .int .i64 (k : Int) ∧ wr = w1 ∧ o = .int .i64 (z : Int) ∧ Hid (z = wnTo r (P1 p) v k)) (fun _ i _ => m + 1 - (intOf i).toNat)
  case atStart => exact ⟨0, 0, Nat.zero_le _, rfl, rfl, rfl, Lib.hid rfl⟩
  case round =>
    obtain ⟨k, z, hk, rfl, rfl, rfl, HZ⟩ := hrel
    by_cases hlt : k < m + 1
    · obtain ⟨b1, o1, x, rfl, _, hx, hcx⟩ := HO.out.rd.at_ (k := k) (by rw [HLL.out]; exact hlt)
      have hxe : r.getD k 0 - P1 p k = x := by have h1 := HAT.out k (by omega); rw [hx.out] at h1; exact (Option.some.inj h1).symm
      have hzl := wnTo_lt r (P1 p) v k
      rw [← HZ.out] at hzl
      have hp16 : 2 ^ k ≤ 2 ^ 4 := Nat.pow_le_pow_right (by omega) (by omega)
      have hsh := sh_pow (k := k) (by omega)
      have hstep : wnTo r (P1 p) v (k + 1) = if x = v then z + 2 ^ k else z := by rw [wnTo, hxe, ← HZ.out]
      obtain ⟨q, hq⟩ : ∃ q, q = 2 ^ k := ⟨_, rfl⟩
      rw [← hq] at hsh hp16 hstep hzl
      have HZQ : Hid (z + q ≤ 1000) := Lib.hid (by clear hsh hstep; omega)
      have hkI : (k : Int) < (m : Int) + 1 := by omega
      by_cases he : x = v
      · rw [if_pos he] at hstep
        have HST := Lib.hid hstep
        have heb : (x == v) = true := by simpa using he
        have hzz := nat_add_in HZQ.out
        clear hstep he hx hxe hq
        go_wp2
        go_roundw
        case rel => exact ⟨k + 1, z + q, hlt, by go_num, trivial, by go_num, Lib.hid HST.out.symm⟩
        case measure => simp [intOf]; omega
      · rw [if_neg he] at hstep
        have HST := Lib.hid hstep
        have heb : (x == v) = false := by simpa using he
        clear hstep he hx hxe hq
        go_wp2
        go_roundw
        case rel => exact ⟨k + 1, z, hlt, by go_num, trivial, rfl, Lib.hid HST.out.symm⟩
        case measure => simp [intOf]; omega
    · obtain rfl : k = m + 1 := by omega
      go_wp2
      go_ret
      exact ⟨by rw [HEND.out, ← HZ.out]; rfl, HB.out⟩

/-- How many of the sets lie in a set. -/
def mwF (ws : List Int) (S : Nat) : Nat := match ws with
  | [] => 0
  | x :: xs => (if (bits .andNot .i64 x (S : Int) == 0) = true then 1 else 0) + mwF xs S
theorem mwF_take {ws : List Int} {S k : Nat} {x : Int} (h : ws[k]? = some x) : mwF (ws.take (k + 1)) S = mwF (ws.take k) S + (if (bits .andNot .i64 x (S : Int) == 0) = true then 1 else 0) := by
  have key : ∀ (a : List Int), mwF (a ++ [x]) S = mwF a S + (if (bits .andNot .i64 x (S : Int) == 0) = true then 1 else 0) := by
    intro a
    induction a with
    | nil => simp [mwF]
    | cons y ys ih => simp only [List.cons_append, mwF, ih]; omega
  rw [List.take_add_one, h, ← key]; rfl
theorem mwF_le (ws : List Int) (S : Nat) : mwF ws S ≤ ws.length := by
  induction ws with
  | nil => simp [mwF]
  | cons x xs ih => simp only [mwF, List.length_cons]; split <;> omega
set_option maxHeartbeats 400000 in
theorem manyWithin_any (A : Option Addr) (c n : Nat) (ws : List Int) (S : Nat) (w : World) (h : Rd w A c ws) (hn : ws.length = n) (h4 : n ≤ 4) :
    Calls Try.prog 152 #[.slice A n c, .int .i64 (S : Int)] w fun e w' => e = .returned (.int .i64 ((mwF ws S : Nat) : Int)) ∧ w = w' := by
  have HN := Lib.hid hn
  clear hn
  go_enter Try.func152, Try.ntmps152
  go_wp2
  go_loop [5, 10] (fun o i => ∃ (k z : Nat), k ≤ n ∧ i = .int .i64 (k : Int) ∧ o = .int .i64 (z : Int) ∧ Hid (z = mwF (ws.take k) S)) (fun _ i => n - (intOf i).toNat)
  case atStart => exact ⟨0, 0, Nat.zero_le _, rfl, rfl, Lib.hid (by simp [mwF])⟩
  case round =>
    obtain ⟨k, z, hk, rfl, rfl, HZ⟩ := hrel
    by_cases hlt : k < n
    · obtain ⟨b1, o1, x, rfl, _, hx, hcx⟩ := h.at_ (k := k) (by rw [HN.out]; exact hlt)
      have hz4 : z ≤ 4 := by have h1 := mwF_le (ws.take k) S; rw [← HZ.out] at h1; have h2 : (ws.take k).length ≤ ws.length := by rw [List.length_take]; omega
                             have h3 := HN.out; omega
      have hst := mwF_take (S := S) hx.out
      rw [← HZ.out] at hst
      obtain ⟨g, hg⟩ : ∃ g, g = (bits .andNot .i64 x (S : Int) == 0) := ⟨_, rfl⟩
      rw [← hg] at hst
      have HST := Lib.hid hst
      have hg' := hg.symm
      clear hst hg hx
      cases g with
      | true =>
        have HS2 : Hid (mwF (ws.take (k + 1)) S = z + 1) := Lib.hid (by rw [HST.out]; simp)
        go_wp2
        go_round
        case rel => exact ⟨k + 1, z + 1, hlt, by go_num, by go_num, Lib.hid HS2.out.symm⟩
        case measure => simp [intOf]; omega
      | false =>
        have HS2 : Hid (mwF (ws.take (k + 1)) S = z) := Lib.hid (by rw [HST.out]; simp)
        go_wp2
        go_round
        case rel => exact ⟨k + 1, z, hlt, by go_num, rfl, Lib.hid HS2.out.symm⟩
        case measure => simp [intOf]; omega
    · obtain rfl : k = n := by omega
      have HE : Hid (z = mwF ws S) := Lib.hid (by have := HZ.out; rwa [List.take_of_length_le (by rw [HN.out]; exact Nat.le_refl _)] at this)
      go_wp2
      go_ret
      exact ⟨by rw [← HE.out]; rfl, rfl⟩
end Go.Proofs.Ytkhpheebjkbihab
