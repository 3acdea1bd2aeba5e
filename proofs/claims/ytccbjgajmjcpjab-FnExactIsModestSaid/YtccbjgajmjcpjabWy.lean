/-
  Chapters 4 and 9, the program: what adds less to more, set by set.
-/
import Derived.Test.YtccbjgajmjcpjabWe
import Derived.Test.YtccbjgajmjcpjabWa
import Derived.Test.YtccbjgajmjcpjabMark
namespace Go.Proofs.Ytccbjgajmjcpjab
open Go.RowKit

/-- More adds less to more, of P sets. -/
def Ne2 (f : Nat → Int) (P : Nat) : Prop := ∀ a, a < P → ∀ b, b < P → f (a ||| b) + f (a &&& b) ≤ f a + f b
noncomputable def neB (f : Nat → Int) (P : Nat) : Bool := @decide (Ne2 f P) (Classical.propDecidable _)
theorem neB_true {f : Nat → Int} {P : Nat} (h : Ne2 f P) : neB f P = true := by unfold neB; simp [h]
theorem neB_false {f : Nat → Int} {P : Nat} (h : ¬ Ne2 f P) : neB f P = false := by unfold neB; simp [h]
theorem neB_iff {f : Nat → Int} {P : Nat} : neB f P = true ↔ Ne2 f P := by unfold neB; simp
def NeTo (f : Nat → Int) (P k : Nat) : Prop := ∀ s, s < k → ∀ x, x < P → f (s ||| x) + f (s &&& x) ≤ f s + f x
def NeU (f : Nat → Int) (s j : Nat) : Prop := ∀ x, x < j → f (s ||| x) + f (s &&& x) ≤ f s + f x
theorem NeTo.zero (f : Nat → Int) (P : Nat) : NeTo f P 0 := fun s h => absurd h (by omega)
theorem NeU.zero (f : Nat → Int) (s : Nat) : NeU f s 0 := fun s h => absurd h (by omega)
theorem NeU.next {f : Nat → Int} {s j : Nat} (h : NeU f s j) (hj : f (s ||| j) + f (s &&& j) ≤ f s + f j) : NeU f s (j + 1) := fun x hx => by
  rcases Nat.lt_or_ge x j with h1 | h1
  · exact h x h1
  · rw [show x = j by omega]; exact hj
theorem NeTo.next {f : Nat → Int} {P s : Nat} (h : NeTo f P s) (hu : NeU f s P) : NeTo f P (s + 1) := fun x hx => by
  rcases Nat.lt_or_ge x s with h1 | h1
  · exact h x h1
  · rw [show x = s by omega]; exact hu
theorem and16 {a b : Nat} (ha : a < 16) (hb : b < 16) : bits .and .i64 (a : Int) (b : Int) = ((a &&& b : Nat) : Int) := by
  have : ∀ a, a < 16 → ∀ b, b < 16 → bits .and .i64 ((a : Nat) : Int) ((b : Nat) : Int) = ((a &&& b : Nat) : Int) := by decide +kernel
  exact this a ha b hb
theorem or16 {a b : Nat} (ha : a < 16) (hb : b < 16) : bits .or .i64 (a : Int) (b : Int) = ((a ||| b : Nat) : Int) := by
  have : ∀ a, a < 16 → ∀ b, b < 16 → bits .or .i64 ((a : Nat) : Int) ((b : Nat) : Int) = ((a ||| b : Nat) : Int) := by decide +kernel
  exact this a ha b hb

set_option maxHeartbeats 1600000 in
theorem addsLess_any (A : Option Addr) (c m P : Nat) (l : List Int) (w : World) (h : Rd w A c l) (hP : P = 2 ^ m) (hm : m ≤ 4) (hl : l.length = P) (hb : ∀ s, s < P → 0 ≤ T l s ∧ T l s ≤ 120) :
    Calls Try.prog 104 #[.slice A P c] w fun e w' => e = .returned (.bool (neB (T l) P)) ∧ ∃ n, w' = w.drewN n := by
  have h16 : P ≤ 16 := by rw [hP]; exact Nat.pow_le_pow_right (n := 2) (by omega) hm
  have HO1 : Hid (∀ a b, a < P → b < P → a ||| b < P) := Lib.hid (fun a b ha hb => by rw [hP] at *; exact Nat.or_lt_two_pow ha hb)
  have HA1 : Hid (∀ a b, a < P → b < P → a &&& b < P) := Lib.hid (fun a b ha hb => Nat.lt_of_le_of_lt Nat.and_le_left ha)
  have HN := Lib.hid (fun (hm : ¬ Ne2 (T l) P) => neB_false hm)
  have HY := Lib.hid (fun (hm : NeTo (T l) P P) => neB_true (f := T l) (P := P) hm)
  have HBD := Lib.hid hb
  clear hP hb
  go_enter Try.func104, Try.ntmps104
  go_wp2
  go_loopw [9] (fun i wr => ∃ k n : Nat, k ≤ P ∧ i = .int .i64 (k : Int) ∧ wr = w.drewN n ∧ Hid (NeTo (T l) P k)) (fun i _ => P - (intOf i).toNat)
  case atStart => exact ⟨0, 0, by omega, rfl, rfl, Lib.hid (NeTo.zero _ _)⟩
  case round =>
    obtain ⟨k, n, hk, rfl, rfl, HO⟩ := hrel
    by_cases hlt : k < P
    · obtain ⟨b, off, x, rfl, _, hx, hc⟩ := h.at_ (k := k) (by omega)
      have hTx := T_of hx.out
      have hxb := HBD.out k hlt
      rw [hTx] at hxb
      have HTX := Lib.hid hTx
      obtain ⟨hx0, hx30⟩ := hxb
      clear hx hTx
      have hk0 : (0 : Int) ≤ (k : Int) := by omega
      have hk8 : (k : Int) < (P : Int) := by omega
      go_wp2
      go_loopw [16] (fun i wr => ∃ j m : Nat, j ≤ P ∧ i = .int .i64 (j : Int) ∧ wr = w.drewN m ∧ Hid (NeU (T l) k j)) (fun i _ => P - (intOf i).toNat)
      case atStart => exact ⟨0, n, by omega, rfl, rfl, Lib.hid (NeU.zero _ k)⟩
      case round =>
        obtain ⟨j, m, hj, rfl, rfl, HU⟩ := hrel
        by_cases hjl : j < P
        · obtain ⟨b2, off2, y, hA, _, hy, hc2⟩ := h.at_ (k := j) (by omega)
          cases hA
          obtain ⟨b3, off3, u, hA, _, hu, hc3⟩ := h.at_ (k := k ||| j) (by rw [hl]; exact HO1.out _ _ hlt hjl)
          cases hA
          obtain ⟨b4, off4, v, hA, _, hv, hc4⟩ := h.at_ (k := k &&& j) (by rw [hl]; exact HA1.out _ _ hlt hjl)
          cases hA
          have hTy := T_of hy.out
          have hTu := T_of hu.out
          have hTv := T_of hv.out
          have hyb := HBD.out j hjl
          have hub := HBD.out (k ||| j) (HO1.out _ _ hlt hjl)
          have hvb := HBD.out (k &&& j) (HA1.out _ _ hlt hjl)
          rw [hTy] at hyb
          rw [hTu] at hub
          rw [hTv] at hvb
          have HNO : x + y < u + v → Hid (neB (T l) P = false) := fun hh => Lib.hid (HN.out (fun hm => by have := hm k hlt j hjl; rw [hTu, hTv, HTX.out, hTy] at this; omega))
          have HYE : ¬ x + y < u + v → Hid (NeU (T l) k (j + 1)) := fun hh => Lib.hid (HU.out.next (by rw [hTu, hTv, HTX.out, hTy]; omega))
          obtain ⟨hy0, hy30⟩ := hyb
          obtain ⟨hu0, hu30⟩ := hub
          obtain ⟨hv0, hv30⟩ := hvb
          have ho := or16 (a := k) (b := j) (by omega) (by omega)
          have ha := and16 (a := k) (b := j) (by omega) (by omega)
          have ho8 := HO1.out k j hlt hjl
          have ha8 := HA1.out k j hlt hjl
          obtain ⟨p, hp⟩ : ∃ p, p = k ||| j := ⟨_, rfl⟩
          obtain ⟨q, hq⟩ : ∃ q, q = k &&& j := ⟨_, rfl⟩
          rw [← hp] at ho hc3 ho8
          rw [← hq] at ha hc4 ha8
          have hp0 : (0 : Int) ≤ (p : Int) := by omega
          have hp8 : (p : Int) < (P : Int) := by omega
          have hq0 : (0 : Int) ≤ (q : Int) := by omega
          have hq8 : (q : Int) < (P : Int) := by omega
          clear hp hq hy hu hv hTy hTu hTv
          have e1 : IntKind.i64.wrap (x + y) = x + y := IntWalk.i64_in _ (by omega)
          have e2 : IntKind.i64.wrap (u + v) = u + v := IntWalk.i64_in _ (by omega)
          by_cases hh : x + y < u + v
          · have HE := HNO hh
            clear HNO HYE
            go_wp2_with fail
            go_quiet (fail)
            go_wp2
            go_ret
            exact ⟨by rw [HE.out]; rfl, _, World.drewN_drewN w m nq⟩
          · have HU' := HYE hh
            clear HNO HYE
            go_wp2_with fail
            go_quiet (fail)
            go_wp2
            go_roundw
            case rel => exact ⟨j + 1, _, by omega, by go_num, rfl, HU'⟩
            case measure => simp [intOf]; omega
        · obtain rfl : j = P := by omega
          have HO' := Lib.hid (HO.out.next HU.out)
          go_wp2
          go_roundw
          case rel => exact ⟨k + 1, _, by omega, by go_num, rfl, HO'⟩
          case measure => simp [intOf]; omega
    · obtain rfl : k = P := by omega
      have HE := Lib.hid (HY.out HO.out)
      go_wp2
      go_ret
      exact ⟨by rw [HE.out]; rfl, _, rfl⟩

end Go.Proofs.Ytccbjgajmjcpjab
