/-
  Chapter 8: whether numbers are prices of a market, of the model.
-/
import Derived.Test.YtpildecpabeanabG31
import Derived.Test.YtpildecpabeanabOg
import Derived.Test.YtpildecpabeanabOc
namespace Go.Proofs.Ytpildecpabeanab
open Go.RowKit

/-- Whether numbers are prices of a market. -/
noncomputable def vgB (rows : List (List Int)) (p : List Int) : Bool := p.all (fun x => inR x 0 40) && (vrB rows && decide (p.length = (RW rows 0).length))
theorem vg_bad {rows : List (List Int)} {p : List Int} (h : p.all (fun x => inR x 0 40) = false) : vgB rows p = false := by simp only [vgB, h, Bool.false_and]
theorem vg_all {rows : List (List Int)} {p : List Int} (h : (p.take p.length).all (fun x => inR x 0 40) = true) : vgB rows p = (vrB rows && decide (p.length = (RW rows 0).length)) := by
  rw [List.take_length] at h; simp only [vgB, h, Bool.true_and]

set_option maxHeartbeats 800000 in
theorem validGoods_any (A B : Option Addr) (c d : Nat) (rows : List (List Int)) (p : List Int) (w : World) (h : RdR w A c rows) (hP : Rd w B d p) (hl : rows.length ≤ 1099511627776) (hl2 : ∀ r ∈ rows, r.length ≤ 1099511627776) (hpl : p.length ≤ 1099511627776) :
    Calls Try.prog 51 #[.slice A rows.length c, .slice B p.length d] w fun e w' => e = .returned (.bool (vgB rows p)) ∧ ∃ n, w' = w.drewN n := by
  have HV : Hid (∀ n, Calls Try.prog 84 #[.slice A rows.length c] (w.drewN n) fun e w' => e = .returned (.bool (vrB rows)) ∧ ∃ m, w' = (w.drewN n).drewN m) := Lib.hid (fun n => validRows_any A c rows _ (h.below (below_drewN' (Below.refl w.heap.size w) n)) hl hl2)
  have HR := Lib.hid h
  have HP := Lib.hid hP
  clear h hP
  go_enter Try.func51, Try.ntmps51
  go_wp2
  go_loopw [5] (fun i wr => ∃ j m : Nat, j ≤ p.length ∧ i = .int .i64 j ∧ wr = w.drewN m ∧ Hid ((p.take j).all (fun x => inR x 0 40) = true)) (fun i _ => p.length - (intOf i).toNat)
  case atStart => exact ⟨0, 0, Nat.zero_le _, rfl, rfl, Lib.hid rfl⟩
  case round =>
    obtain ⟨j, m, hj, rfl, rfl, HJ⟩ := hrel
    by_cases hjl : j < p.length
    · obtain ⟨b2, o2, x, rfl, _, hx, hcx⟩ := HP.out.at_ hjl
      cases hb : inR x 0 40 with
      | true =>
        have HB : Hid (∀ w1, Calls Try.prog 35 #[.int .i64 x, .int .i64 0, .int .i64 40] w1 fun e w' => e = .returned (.bool true) ∧ w1 = w') := Lib.hid (fun w1 => by have := inRange_any x 0 40 w1; rwa [hb] at this)
        have HT' := Lib.hid (all_step hx.out hb HJ.out)
        clear hb
        go_wp2_with (go_at_call 35; refine (HB.out _).mono ?_; rintro e w1 ⟨rfl, rfl⟩)
        go_roundw
        case rel => exact ⟨j + 1, _, by omega, by go_num, rfl, HT'⟩
        case measure => simp [intOf]; omega
      | false =>
        have HB : Hid (∀ w1, Calls Try.prog 35 #[.int .i64 x, .int .i64 0, .int .i64 40] w1 fun e w' => e = .returned (.bool false) ∧ w1 = w') := Lib.hid (fun w1 => by have := inRange_any x 0 40 w1; rwa [hb] at this)
        have HE := Lib.hid (vg_bad (rows := rows) (all_at (p := fun x => inR x 0 40) hx.out hb))
        clear hb
        go_wp2_with (go_at_call 35; refine (HB.out _).mono ?_; rintro e w1 ⟨rfl, rfl⟩)
        go_ret
        exact ⟨by rw [HE.out]; rfl, _, rfl⟩
    · obtain rfl : j = p.length := by omega
      have HE := Lib.hid (vg_all (rows := rows) HJ.out)
      have HVm := HV.out m
      clear HV
      by_cases hv : VR rows
      · obtain ⟨b, off, A', c', rfl, hc⟩ := row_head HR.out hv
        rw [vr_true hv] at HVm HE
        have h1 := hv.1.1
        have HVH := Lib.hid HVm
        clear hv HVm
        by_cases he : p.length = (RW rows 0).length
        · have HE2 : Hid (vgB rows p = true) := Lib.hid (by rw [HE.out]; simp [he])
          have he' : (p.length : Int) = ((RW rows 0).length : Int) := by omega
          clear HE he
          go_wp2_with (go_at_call 84; refine HVH.out.mono ?_; rintro e w1 ⟨rfl, n, rfl⟩)
          go_ret
          exact ⟨by rw [HE2.out]; first | rfl | (simp [he']; done) | (fail "HERE"), _, rfl⟩
        · have HE2 : Hid (vgB rows p = false) := Lib.hid (by rw [HE.out]; simp [he])
          have he' : ¬ (p.length : Int) = ((RW rows 0).length : Int) := by omega
          clear HE he
          go_wp2_with (go_at_call 84; refine HVH.out.mono ?_; rintro e w1 ⟨rfl, n, rfl⟩)
          go_ret
          exact ⟨by rw [HE2.out]; first | rfl | (simp [he']; done) | (fail "HERE"), _, rfl⟩
      · rw [vr_false hv] at HVm HE
        have HE2 : Hid (vgB rows p = false) := Lib.hid (by rw [HE.out]; rfl)
        have HVH := Lib.hid HVm
        clear hv HVm HE
        go_wp2_with (go_at_call 84; refine HVH.out.mono ?_; rintro e w1 ⟨rfl, n, rfl⟩)
        go_ret
        exact ⟨by rw [HE2.out]; rfl, _, rfl⟩

end Go.Proofs.Ytpildecpabeanab

/-
  Chapter 8, the model: what is left of the best thing, what is wanted, and how many bits there are.
-/
namespace Go.Proofs.Ytpildecpabeanab
open Go.RowKit

theorem boTo_step {m : Nat} {r : List Int} {p : Nat → Int} {k : Nat} : boTo m r 0 p (k + 1) = max (boTo m r 0 p k) (r.getD k 0 - p k) := by
  rw [boTo, if_neg (by simp [tk_zero])]
theorem boTo_bd {m : Nat} {r : List Int} {p : Nat → Int} (hr : ∀ j, 0 ≤ r.getD j 0 ∧ r.getD j 0 ≤ 12) (hp : ∀ j, 0 ≤ p j) (k : Nat) : 0 ≤ boTo m r 0 p k ∧ boTo m r 0 p k ≤ 12 := by
  induction k with
  | zero => simp [boTo]
  | succ k ih => rw [boTo_step]; have := hr k; have := hp k; omega

set_option maxHeartbeats 400000 in
theorem bestOf_any (A B : Option Addr) (c d m : Nat) (r p : List Int) (w : World) (hR : Rd w A c r) (hP : Rd w B d p) (hm : r.length = m) (hp : p.length = m) (h4 : m ≤ 4) (hrb : ∀ j, 0 ≤ r.getD j 0 ∧ r.getD j 0 ≤ 12) (hpb : ∀ j, 0 ≤ p.getD j 0 ∧ p.getD j 0 ≤ 100) :
    Calls Try.prog 86 #[.slice A m c, .slice B m d] w fun e w' => e = .returned (.int .i64 (bo m r 0 (P1 p))) ∧ ∃ n, w' = w.drewN n := by
  have HRB := Lib.hid hrb
  have HPB := Lib.hid hpb
  have HBD := Lib.hid (fun k => boTo_bd (m := m) (p := P1 p) hrb (fun j => (hpb j).1) k)
  have HR := Lib.hid hR
  have HP := Lib.hid hP
  have HRM := Lib.hid hm
  have HPM := Lib.hid hp
  clear hR hP hrb hpb hm hp
  go_enter Try.func86, Try.ntmps86
  go_wp2
  go_loopw [5, 6] (fun o i wr => ∃ (k n : Nat) (z : Int), k ≤ m ∧ i = .int .i64 k ∧ wr = w.drewN n ∧ o = .int .i64 z ∧ Hid (z = boTo m r 0 (P1 p) k)) (fun _ i _ => m - (intOf i).toNat)
  case atStart => exact ⟨0, 0, 0, Nat.zero_le _, rfl, rfl, rfl, Lib.hid rfl⟩
  case round =>
    obtain ⟨k, n, z, hk, rfl, rfl, rfl, HZ⟩ := hrel
    by_cases hlt : k < m
    · obtain ⟨b1, o1, x, rfl, _, hx, hcx⟩ := HR.out.at_ (k := k) (by rw [HRM.out]; exact hlt)
      obtain ⟨b2, o2, y, rfl, _, hy, hcy⟩ := HP.out.at_ (k := k) (by rw [HPM.out]; exact hlt)
      have hxr : r.getD k 0 = x := by rw [List.getD_eq_getElem?_getD, hx.out]; rfl
      have hyp : p.getD k 0 = y := by rw [List.getD_eq_getElem?_getD, hy.out]; rfl
      have hrb := HRB.out k
      have hpb := HPB.out k
      rw [hxr] at hrb
      rw [hyp] at hpb
      have hz := HBD.out k
      rw [← HZ.out] at hz
      have HZ' : Hid ((if z < x - y then x - y else z) = boTo m r 0 (P1 p) (k + 1)) := Lib.hid (by
        rw [boTo_step, ← HZ.out, hxr, show P1 p k = y from hyp]
        split <;> omega)
      have hw1 : IntKind.i64.wrap (x - y) = x - y := IntWalk.i64_in _ (by omega)
      clear hx hy hxr hyp
      go_wp2_with fail
      go_quiet (fail)
      go_wp2
      go_roundw
      case rel => exact ⟨k + 1, _, _, hlt, by go_num, rfl, rfl, HZ'⟩
      case measure => simp [intOf]; omega
    · obtain rfl : k = m := by omega
      have HE : Hid (z = bo k r 0 (P1 p)) := HZ
      go_wp2
      go_ret
      exact ⟨by rw [← HE.out]; rfl, n, rfl⟩

/-- The set of the first k things at which the most is left. -/
def wnTo (r : List Int) (p : Nat → Int) (b : Int) : Nat → Nat
  | 0 => 0
  | k + 1 => if r.getD k 0 - p k = b then wnTo r p b k + 2 ^ k else wnTo r p b k
theorem wnTo_lt (r : List Int) (p : Nat → Int) (b : Int) (k : Nat) : wnTo r p b k < 2 ^ k := by
  induction k with
  | zero => simp [wnTo]
  | succ k ih => unfold wnTo; rw [Nat.pow_succ]; split <;> omega
theorem bit_more {a k j : Nat} (hk : k < 5) (hj : j < 5) (ha : a < 2 ^ k) : ((a + 2 ^ k) / 2 ^ j % 2 = 1 ↔ (j = k ∨ a / 2 ^ j % 2 = 1)) := by
  have key : ∀ (k j : Fin 5) (a : Fin 16), a.1 < 2 ^ k.1 → ((a.1 + 2 ^ k.1) / 2 ^ j.1 % 2 = 1 ↔ (j.1 = k.1 ∨ a.1 / 2 ^ j.1 % 2 = 1)) := by decide
  have h := Nat.pow_le_pow_right (n := 2) (by omega) (show k ≤ 4 by omega)
  exact key ⟨k, hk⟩ ⟨j, hj⟩ ⟨a, by omega⟩ ha
theorem wnTo_bit {r : List Int} {p : Nat → Int} {b : Int} {j : Nat} (hj : j < 5) (k : Nat) (hk : k ≤ 5) : wnTo r p b k / 2 ^ j % 2 = 1 ↔ (j < k ∧ r.getD j 0 - p j = b) := by
  induction k with
  | zero => simp [wnTo]
  | succ k ih =>
    have i1 := ih (by omega)
    unfold wnTo
    split
    · rename_i h
      rw [bit_more (by omega) hj (wnTo_lt r p b k), i1]
      constructor
      · rintro (rfl | ⟨h1, h2⟩)
        · exact ⟨by omega, h⟩
        · exact ⟨by omega, h2⟩
      · rintro ⟨h1, h2⟩
        rcases Nat.lt_or_ge j k with h3 | h3
        · exact .inr ⟨h3, h2⟩
        · exact .inl (by omega)
    · rename_i h
      rw [i1]
      constructor
      · rintro ⟨h1, h2⟩; exact ⟨by omega, h2⟩
      · rintro ⟨h1, h2⟩
        rcases Nat.lt_or_ge j k with h3 | h3
        · exact ⟨h3, h2⟩
        · have : j = k := by omega
          subst this; exact absurd h2 h

end Go.Proofs.Ytpildecpabeanab
