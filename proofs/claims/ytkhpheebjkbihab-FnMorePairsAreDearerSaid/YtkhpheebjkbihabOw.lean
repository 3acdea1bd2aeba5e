/-
  Chapter 8, the model: what is left of the best thing, what is wanted, and how many bits there are.
-/
import Derived.Test.YtkhpheebjkbihabGO
import Derived.Test.YtkhpheebjkbihabGP
namespace Go.Proofs.Ytkhpheebjkbihab
open Go.RowKit

theorem boTo_step {m : Nat} {r : List Int} {p : Nat → Int} {k : Nat} : boTo m r 0 p (k + 1) = max (boTo m r 0 p k) (r.getD k 0 - p k) := by
  rw [boTo, if_neg (by simp [tk_zero])]
theorem boTo_bd {m : Nat} {r : List Int} {p : Nat → Int} (hr : ∀ j, 0 ≤ r.getD j 0 ∧ r.getD j 0 ≤ 12) (hp : ∀ j, 0 ≤ p j) (k : Nat) : 0 ≤ boTo m r 0 p k ∧ boTo m r 0 p k ≤ 12 := by
  induction k with
  | zero => simp [boTo]
  | succ k ih => rw [boTo_step]; have := hr k; have := hp k; omega

set_option maxHeartbeats 400000 in
theorem bestOf_any (A B : Option Addr) (c d m : Nat) (r p : List Int) (w : World) (hR : Rd w A c r) (hP : Rd w B d p) (hm : r.length = m) (hp : p.length = m) (h4 : m ≤ 4) (hrb : ∀ j, 0 ≤ r.getD j 0 ∧ r.getD j 0 ≤ 12) (hpb : ∀ j, 0 ≤ p.getD j 0 ∧ p.getD j 0 ≤ 100) :
    Calls Try.prog 169 #[.slice A m c, .slice B m d] w fun e w' => e = .returned (.int .i64 (bo m r 0 (P1 p))) ∧ ∃ n, w' = w.drewN n := by
  have HRB := Lib.hid hrb
  have HPB := Lib.hid hpb
  have HBD := Lib.hid (fun k => boTo_bd (m := m) (p := P1 p) hrb (fun j => (hpb j).1) k)
  have HR := Lib.hid hR
  have HP := Lib.hid hP
  have HRM := Lib.hid hm
  have HPM := Lib.hid hp
  clear hR hP hrb hpb hm hp
  go_enter Try.func169, Try.ntmps169
  go_wp2
  go_loopw [5, 6] (fun o i wr => ∃ (k n : Nat) (z : Int), k ≤ m ∧ i = .int .i64 k ∧ wr = w.drewN n ∧ o = .int .i64 z ∧ Hid (z = boTo m r 0 (P1 p) k)) (fun _ i _ => m - (intOf i).toNat)
  case atStart => exact ⟨0, 0, 0, Nat.zero_le _, rfl, rfl, rfl, Lib.hid rfl⟩
  case round =>
    obtain ⟨k, n, z, hk, rfl, rfl, rfl, HZ⟩ := hrel
    by_cases hlt : k < m
    · obtain ⟨b1, o1, x, rfl, _, hx, hcx⟩ := HR.out.at_ (k := k) (by rw [HRM.out]; exact hlt)
      obtain ⟨b2, o2, y, rfl, _, hy, hcy⟩ := HP.out.at_ (k := k) (by rw [HPM.out]; exact hlt)
      have hxr : r.getD k 0 = x := by rw [List.getD_eq_getElem?_getD, hx.out]; rfl
      have hyp : p.getD k 0 = y := by rw [List.getD_eq_getElem?_getD, hy.out]; rfl
      have hrb := HRB.out k
      have hpb := HPB.out k
      rw [hxr] at hrb
      rw [hyp] at hpb
      have hz := HBD.out k
      rw [← HZ.out] at hz
      have HZ' : Hid ((if z < x - y then x - y else z) = boTo m r 0 (P1 p) (k + 1)) := Lib.hid (by
        rw [boTo_step, ← HZ.out, hxr, show P1 p k = y from hyp]
        split <;> omega)
      have hw1 : IntKind.i64.wrap (x - y) = x - y := IntWalk.i64_in _ (by omega)
      clear hx hy hxr hyp
      go_wp2_with fail
      go_quiet (fail)
      go_wp2
      go_roundw
      case rel => exact ⟨k + 1, _, _, hlt, by go_num, rfl, rfl, HZ'⟩
      case measure => simp [intOf]; omega
    · obtain rfl : k = m := by omega
      have HE : Hid (z = bo k r 0 (P1 p)) := HZ
      go_wp2
      go_ret
      exact ⟨by rw [← HE.out]; rfl, n, rfl⟩

/-- The set of the first k things at which the most is left. -/
def wnTo (r : List Int) (p : Nat → Int) (b : Int) : Nat → Nat
  | 0 => 0
  | k + 1 => if r.getD k 0 - p k = b then wnTo r p b k + 2 ^ k else wnTo r p b k
theorem wnTo_lt (r : List Int) (p : Nat → Int) (b : Int) (k : Nat) : wnTo r p b k < 2 ^ k := by
  induction k with
  | zero => simp [wnTo]
  | succ k ih => unfold wnTo; rw [Nat.pow_succ]; split <;> omega
theorem bit_more {a k j : Nat} (hk : k < 5) (hj : j < 5) (ha : a < 2 ^ k) : ((a + 2 ^ k) / 2 ^ j % 2 = 1 ↔ (j = k ∨ a / 2 ^ j % 2 = 1)) := by
  have key : ∀ (k j : Fin 5) (a : Fin 16), a.1 < 2 ^ k.1 → ((a.1 + 2 ^ k.1) / 2 ^ j.1 % 2 = 1 ↔ (j.1 = k.1 ∨ a.1 / 2 ^ j.1 % 2 = 1)) := by decide
  have h := Nat.pow_le_pow_right (n := 2) (by omega) (show k ≤ 4 by omega)
  exact key ⟨k, hk⟩ ⟨j, hj⟩ ⟨a, by omega⟩ ha
theorem wnTo_bit {r : List Int} {p : Nat → Int} {b : Int} {j : Nat} (hj : j < 5) (k : Nat) (hk : k ≤ 5) : wnTo r p b k / 2 ^ j % 2 = 1 ↔ (j < k ∧ r.getD j 0 - p j = b) := by
  induction k with
  | zero => simp [wnTo]
  | succ k ih =>
    have i1 := ih (by omega)
    unfold wnTo
    split
    · rename_i h
      rw [bit_more (by omega) hj (wnTo_lt r p b k), i1]
      constructor
      · rintro (rfl | ⟨h1, h2⟩)
        · exact ⟨by omega, h⟩
        · exact ⟨by omega, h2⟩
      · rintro ⟨h1, h2⟩
        rcases Nat.lt_or_ge j k with h3 | h3
        · exact .inr ⟨h3, h2⟩
        · exact .inl (by omega)
    · rename_i h
      rw [i1]
      constructor
      · rintro ⟨h1, h2⟩; exact ⟨by omega, h2⟩
      · rintro ⟨h1, h2⟩
        rcases Nat.lt_or_ge j k with h3 | h3
        · exact ⟨h3, h2⟩
        · have : j = k := by omega
          subst this; exact absurd h2 h

set_option maxHeartbeats 800000 in
theorem wants_any (A B : Option Addr) (c d m : Nat) (r p : List Int) (w : World) (hR : Rd w A c r) (hP : Rd w B d p) (hm : r.length = m) (hp : p.length = m) (h4 : m ≤ 4) (hrb : ∀ j, 0 ≤ r.getD j 0 ∧ r.getD j 0 ≤ 12) (hpb : ∀ j, 0 ≤ p.getD j 0 ∧ p.getD j 0 ≤ 100) :
    Calls Try.prog 177 #[.slice A m c, .slice B m d] w fun e w' => e = .returned (.tuple #[.int .i64 ((wnTo r (P1 p) (bo m r 0 (P1 p)) m : Nat) : Int), .bool (bo m r 0 (P1 p) == 0)]) ∧ ∃ n, w' = w.drewN n := by
  have HBO := Lib.hid (bestOf_any A B c d m r p w hR hP hm hp h4 hrb hpb)
  have HBB := boTo_bd (m := m) (p := P1 p) hrb (fun j => (hpb j).1) m
  have HRB := Lib.hid hrb
  have HPB := Lib.hid hpb
  have HR := Lib.hid hR
  have HP := Lib.hid hP
  have HRM := Lib.hid hm
  have HPM := Lib.hid hp
  obtain ⟨b, hb⟩ : ∃ b, b = bo m r 0 (P1 p) := ⟨_, rfl⟩
  rw [← hb] at HBO ⊢
  have HBV := Lib.hid HBB
  clear hR hP hrb hpb hm hp HBB hb
  go_enter Try.func177, Try.ntmps177
  go_wp2_with fail
  refine HBO.out.mono ?_
  rintro e w1 ⟨rfl, n1, rfl⟩
  clear HBO
  go_wp2_with fail
  go_loopw [7, 8] (fun o i wr => ∃ (k n z : Nat), k ≤ m ∧ i = .int .i64 k ∧ wr = w.drewN n ∧ o = .int .i64 (z : Int) ∧ Hid (z = wnTo r (P1 p) b k)) (fun _ i _ => m - (intOf i).toNat)
  case atStart => exact ⟨0, n1, 0, Nat.zero_le _, rfl, rfl, rfl, Lib.hid rfl⟩
  case round =>
    obtain ⟨k, n, z, hk, rfl, rfl, rfl, HZ⟩ := hrel
    by_cases hlt : k < m
    · obtain ⟨b1, o1, x, rfl, _, hx, hcx⟩ := HR.out.at_ (k := k) (by rw [HRM.out]; exact hlt)
      obtain ⟨b2, o2, y, rfl, _, hy, hcy⟩ := HP.out.at_ (k := k) (by rw [HPM.out]; exact hlt)
      have hxr : r.getD k 0 = x := by rw [List.getD_eq_getElem?_getD, hx.out]; rfl
      have hyp : p.getD k 0 = y := by rw [List.getD_eq_getElem?_getD, hy.out]; rfl
      have hrb := HRB.out k
      have hpb := HPB.out k
      rw [hxr] at hrb
      rw [hyp] at hpb
      have hzl := wnTo_lt r (P1 p) b k
      rw [← HZ.out] at hzl
      have hw1 : IntKind.i64.wrap (x - y) = x - y := IntWalk.i64_in _ (by omega)
      have HPW := Lib.hid (fun w1 => Spow4_any k (by omega) w1)
      have hp16 : 2 ^ k ≤ 2 ^ 4 := Nat.pow_le_pow_right (by omega) (by omega)
      have hstep : wnTo r (P1 p) b (k + 1) = if x - y = b then z + 2 ^ k else z := by
        rw [wnTo, hxr, show P1 p k = y from hyp, ← HZ.out]
      obtain ⟨q, hq⟩ : ∃ q, q = 2 ^ k := ⟨_, rfl⟩
      rw [← hq] at HPW hp16 hstep hzl
      by_cases he : x - y = b
      · rw [if_pos he] at hstep
        have HST := Lib.hid hstep
        have heb : (x - y == b) = true := by simpa using he
        have hzz : IntKind.i64.wrap ((z : Int) + (q : Int)) = ((z + q : Nat) : Int) := by rw [IntWalk.i64_in _ (by omega)]; omega
        clear hstep he hx hy hxr hyp hq
        go_wp2_with fail
        go_quiet (fail)
        go_wp2_with fail
        refine (HPW.out _).mono ?_
        rintro e w4 ⟨rfl, rfl⟩
        go_wp2
        go_roundw
        case rel => exact ⟨k + 1, _, z + q, hlt, by go_num, rfl, by go_num, Lib.hid HST.out.symm⟩
        case measure => simp [intOf]; omega
      · rw [if_neg he] at hstep
        have HST := Lib.hid hstep
        have heb : (x - y == b) = false := by simpa using he
        clear hstep he hx hy hxr hyp hq
        go_wp2_with fail
        go_quiet (fail)
        go_wp2
        go_roundw
        case rel => exact ⟨k + 1, _, z, hlt, by go_num, rfl, rfl, Lib.hid HST.out.symm⟩
        case measure => simp [intOf]; omega
    · obtain rfl : k = m := by omega
      go_wp2
      go_ret2
      exact ⟨by rw [← HZ.out]; rfl, n, rfl⟩
end Go.Proofs.Ytkhpheebjkbihab
