/-
  Chapter 4: the contracts of ValidTable and of the model's.
-/
import Derived.Test.YtpildecpabeanaaG10
import Derived.Deep.QuietTactic
import Derived.BigQuiet
import Derived.Test.YtpildecpabeanaaG09
import Derived.Test.YtpildecpabeanaaG01
namespace Go.Proofs.Ytpildecpabeanaa
open Go.RowKit

theorem below_then {a w w' : World} (h : Below a.heap.size a w) (h2 : Below w.heap.size w w') : Below a.heap.size a w' := h.trans (h2.mono h.size)

/-- Of the first k sets the program asks no more. -/
def OkTo (t : List Int) (k : Nat) : Prop := ∀ s, s < k → okI t s
theorem OkTo.zero (t : List Int) : OkTo t 0 := fun s h => absurd h (by omega)
theorem OkTo.next {t : List Int} {k : Nat} (h : OkTo t k) (hk : okI t k) : OkTo t (k + 1) := fun s hs => by
  rcases Nat.lt_or_ge s k with h1 | h1
  · exact h s h1
  · rw [show s = k by omega]; exact hk

set_option maxHeartbeats 800000 in
theorem ValidTable_any (A : Option Addr) (c : Nat) (t : List Int) (w : World) (h : Rd w A c t) (_hl : t.length ≤ 1099511627776) :
    Calls Try.prog 133 #[.slice A t.length c] w fun e w' => e = .returned (.bool (vt t)) ∧ Below w.heap.size w w' := by
  by_cases h8 : t.length = 8
  · rw [h8]
    obtain ⟨b, off, x0, rfl, _, hx0, hc0⟩ := h.at_ (k := 0) (by omega)
    rw [Nat.add_zero] at hc0
    have hT0 := T_of hx0.out
    by_cases h0 : x0 = 0
    · subst h0
      have HC := Lib.hid (fun (s : Nat) (hs : s < 8) (wr : World) (hb : Below w.heap.size w wr) => bestLess_any (some ⟨b, off, none⟩) c t s wr (h.below hb) h8 hs)
      have HA := Lib.hid (fun (ho : OkTo t 8) => VT.of_okI h8 hT0 ho)
      clear hT0 hx0
      go_enter Try.func133, Try.ntmps133
      go_wp2
      go_loopw [16] (fun i wr => ∃ k : Nat, k ≤ 8 ∧ i = .int .i64 (k : Int) ∧ Below w.heap.size w wr ∧ Hid (OkTo t k)) (fun i _ => 8 - (intOf i).toNat)
      case atStart => exact ⟨0, by omega, rfl, Below.refl _ _, Lib.hid (OkTo.zero t)⟩
      case round =>
        obtain ⟨k, hk, rfl, hb, HO⟩ := hrel
        by_cases hlt : k < 8
        · obtain ⟨b2, off2, x, hA, _, hx, hc⟩ := (h.below hb).at_ (k := k) (by omega)
          cases hA
          have hT := T_of hx.out
          have HC' := Lib.hid (HC.out k hlt wr hb)
          by_cases hB : 0 ≤ x ∧ x ≤ 30
          · have HB : Hid (∀ w1, Calls Try.prog 66 #[.int .i64 x] w1 fun e w' => e = .returned (.bool true) ∧ w1 = w') := Lib.hid (fun w1 => by have := isBid_any x w1; rwa [inR_true.2 hB] at this)
            by_cases hm : x < bl t k
            · have HE := Lib.hid (vt_false (t := t) (fun hv => by have := (hv.toI hlt).2; omega))
              clear hT hx hB
              obtain ⟨m, hM⟩ : ∃ m, m = bl t k := ⟨_, rfl⟩
              rw [← hM] at HC' hm
              clear hM
              go_wp2_with (first | (go_at_call 66; refine (HB.out _).mono ?_; rintro e w1 ⟨rfl, rfl⟩) | (go_at_call 162; refine HC'.out.mono ?_; rintro e w2 ⟨rfl, hb2⟩))
              go_ret
              exact ⟨by rw [HE.out]; rfl, below_then hb hb2⟩
            · have HO' := Lib.hid (HO.out.next ⟨by rw [hT]; exact hB, by rw [hT]; omega⟩)
              clear hT hx hB
              obtain ⟨m, hM⟩ : ∃ m, m = bl t k := ⟨_, rfl⟩
              rw [← hM] at HC' hm
              clear hM
              go_wp2_with (first | (go_at_call 66; refine (HB.out _).mono ?_; rintro e w1 ⟨rfl, rfl⟩) | (go_at_call 162; refine HC'.out.mono ?_; rintro e w2 ⟨rfl, hb2⟩))
              go_roundw
              case rel => exact ⟨k + 1, by omega, by go_num, below_then hb hb2, HO'⟩
              case measure => simp [intOf]; omega
          · have HB : Hid (∀ w1, Calls Try.prog 66 #[.int .i64 x] w1 fun e w' => e = .returned (.bool false) ∧ w1 = w') := Lib.hid (fun w1 => by have := isBid_any x w1; rwa [inR_false.2 hB] at this)
            have HE := Lib.hid (vt_false (t := t) (fun hv => hB (by have := (hv.toI hlt).1; rwa [hT] at this)))
            clear hT hx hB HC'
            go_wp2_with (go_at_call 66; refine (HB.out _).mono ?_; rintro e w1 ⟨rfl, rfl⟩)
            go_ret
            exact ⟨by rw [HE.out]; rfl, hb⟩
        · obtain rfl : k = 8 := by omega
          have HE := Lib.hid (vt_true (HA.out HO.out))
          go_wp2
          go_ret
          exact ⟨by rw [HE.out]; rfl, hb⟩
    · have HE := Lib.hid (vt_false (t := t) (fun hv => h0 (hT0.symm.trans hv.2.1)))
      clear hT0 hx0
      go_enter Try.func133, Try.ntmps133
      go_wp2
      go_ret
      exact ⟨by rw [HE.out]; rfl, Below.refl _ _⟩
  · have HE := Lib.hid (vt_false (t := t) (fun hv => h8 hv.1))
    have h8' : ¬ (t.length : Int) = 8 := by omega
    go_enter Try.func133, Try.ntmps133
    go_wp2
    go_ret
    exact ⟨by rw [HE.out]; rfl, Below.refl _ _⟩

theorem calls_q {P : Program} {f : FuncId} {args : Array Value} {w : World} {m n : Nat} {v : Value} (h : Calls P f args (w.drewN (m + n)) fun e w' => e = .returned v ∧ w.drewN (m + n) = w') :
    Calls P f args (w.drewN (m + n)) fun e w'' => e = .returned v ∧ ∃ k, w'' = w.drewN (m + k) := h.mono fun _ _ ⟨he, hw⟩ => ⟨he, n, hw.symm⟩
/-- Of the first k sets the model asks no more. -/
def OkST (t : List Int) (k : Nat) : Prop := ∀ s, s < k → okS t s
theorem OkST.zero (t : List Int) : OkST t 0 := fun s h => absurd h (by omega)
/-- Of the set s, of the first j things. -/
def OkSU (t : List Int) (s j : Nat) : Prop := ∀ i, i < j → s / 2 ^ i % 2 = 0 → T t s ≤ T t (s + 2 ^ i)
theorem OkSU.zero (t : List Int) (s : Nat) : OkSU t s 0 := fun i h => absurd h (by omega)
theorem OkSU.next {t : List Int} {s j : Nat} (h : OkSU t s j) (hj : s / 2 ^ j % 2 = 0 → T t s ≤ T t (s + 2 ^ j)) : OkSU t s (j + 1) := fun i hi => by
  rcases Nat.lt_or_ge i j with h1 | h1
  · exact h i h1
  · rw [show i = j by omega]; exact hj
theorem OkST.next {t : List Int} {s : Nat} (h : OkST t s) (hr : 0 ≤ T t s ∧ T t s ≤ 30) (hu : OkSU t s 3) : OkST t (s + 1) := fun i hi => by
  rcases Nat.lt_or_ge i s with h1 | h1
  · exact h i h1
  · rw [show i = s by omega]; exact ⟨hr, hu⟩
theorem or_pow {s j : Nat} (hs : s < 8) (hj : j < 3) (hb : s / 2 ^ j % 2 = 0) : bits .or .i64 (s : Int) ((2 ^ j : Nat) : Int) = ((s + 2 ^ j : Nat) : Int) ∧ s + 2 ^ j < 8 := by
  have : ∀ s, s < 8 → ∀ j, j < 3 → s / 2 ^ j % 2 = 0 → bits .or .i64 ((s : Nat) : Int) ((2 ^ j : Nat) : Int) = ((s + 2 ^ j : Nat) : Int) ∧ s + 2 ^ j < 8 := by decide
  exact this s hs j hj hb

set_option maxHeartbeats 8000000 in
theorem SvalidTable_any (A : Option Addr) (c : Nat) (t : List Int) (w : World) (h : Rd w A c t) (_hl : t.length ≤ 1099511627776) :
    Calls Try.prog 124 #[.slice A t.length c] w fun e w' => e = .returned (.bool (vt t)) ∧ ∃ n, w' = w.drewN n := by
  have HP3 : Hid (∀ w1, Calls Try.prog 113 #[.int .i64 3] w1 fun e w' => e = .returned (.int .i64 8) ∧ w1 = w') := Lib.hid (fun w1 => Spower_any 3 (by omega) w1)
  by_cases h8 : t.length = 8
  · rw [h8]
    obtain ⟨b, off, x0, rfl, _, hx0, hc0⟩ := h.at_ (k := 0) (by omega)
    rw [Nat.add_zero] at hc0
    have hT0 := T_of hx0.out
    by_cases h0 : x0 = 0
    · subst h0
      have HA := Lib.hid (fun (ho : OkST t 8) => VT.of_okS h8 hT0 ho)
      clear hT0 hx0
      go_enter Try.func124, Try.ntmps124
      go_wp2_with (go_at_call 113; refine (HP3.out _).mono ?_; rintro e w1 ⟨rfl, rfl⟩)
      go_loopw [3] (fun i wr => ∃ k n : Nat, k ≤ 8 ∧ i = .int .i64 (k : Int) ∧ wr = w.drewN n ∧ Hid (OkST t k)) (fun i _ => 8 - (intOf i).toNat)
      case atStart => exact ⟨0, 0, by omega, rfl, rfl, Lib.hid (OkST.zero t)⟩
      case round =>
        obtain ⟨k, n, hk, rfl, rfl, HO⟩ := hrel
        by_cases hlt : k < 8
        · obtain ⟨b2, off2, x, hA, _, hx, hc⟩ := h.at_ (k := k) (by omega)
          cases hA
          have hT := T_of hx.out
          by_cases hB : 0 ≤ x ∧ x ≤ 30
          · have HB : Hid (∀ w1, Calls Try.prog 69 #[.int .i64 x, .int .i64 0, .int .i64 30] w1 fun e w' => e = .returned (.bool true) ∧ w1 = w') := Lib.hid (fun w1 => by have := inRange_any x 0 30 w1; rwa [inR_true.2 hB] at this)
            have HR : Hid (0 ≤ T t k ∧ T t k ≤ 30) := Lib.hid (by rw [hT]; exact hB)
            have HTk := Lib.hid hT
            clear hT hx hB
            go_wp2_with (go_at_call 69; refine (HB.out _).mono ?_; rintro e w1 ⟨rfl, rfl⟩)
            go_loopw [4] (fun i wr => ∃ j m : Nat, j ≤ 3 ∧ i = .int .i64 (j : Int) ∧ wr = w.drewN m ∧ Hid (OkSU t k j)) (fun i _ => 3 - (intOf i).toNat)
            case atStart => exact ⟨0, n, by omega, rfl, rfl, Lib.hid (OkSU.zero t k)⟩
            case round =>
              obtain ⟨j, m, hj, rfl, rfl, HU⟩ := hrel
              by_cases hjl : j < 3
              · have HBit := Lib.hid (fun (n : Nat) => calls_q (w := w) (m := m) (Sbit_any k j hlt hjl (w.drewN (m + n))))
                rcases bit_cases k j with hb0 | hb1
                · obtain ⟨ho, ho8⟩ := or_pow hlt hjl hb0
                  obtain ⟨b3, off3, y, hA, _, hy, hc3⟩ := h.at_ (k := k + 2 ^ j) (by omega)
                  cases hA
                  have hTy := T_of hy.out
                  rw [hb0] at HBit
                  have HP := Lib.hid (fun (n : Nat) => calls_q (w := w) (m := m) (Spower_any j (by omega) (w.drewN (m + n))))
                  have HNV : y < x → Hid (vt t = false) := fun hyx => Lib.hid (vt_false (fun hv => by have := (hv.toS hlt).2 j hjl hb0; rw [HTk.out, hTy] at this; omega))
                  have HUp : ¬ y < x → Hid (OkSU t k (j + 1)) := fun hyx => Lib.hid (HU.out.next (fun _ => by rw [HTk.out, hTy]; omega))
                  obtain ⟨p, hp⟩ : ∃ p, p = 2 ^ j := ⟨_, rfl⟩
                  rw [← hp] at ho HP hc3 ho8
                  clear hp hb0 hy hTy
                  obtain ⟨q, hq⟩ : ∃ q, q = k + p := ⟨_, rfl⟩
                  rw [← hq] at ho hc3 ho8
                  have hq0 : (0 : Int) ≤ (q : Int) := by omega
                  have hq8 : (q : Int) < 8 := by omega
                  have hk0 : (0 : Int) ≤ (k : Int) := by omega
                  have hk8 : (k : Int) < 8 := by omega
                  clear hq
                  by_cases hyx : y < x
                  · have HE := HNV hyx
                    clear HNV HUp
                    go_wp2_with fail
                    go_quiet (first | (go_at_call 139; exact HBit.out _) | (go_at_call 113; exact HP.out _))
                    go_wp2
                    go_ret
                    exact ⟨by rw [HE.out]; rfl, m + nq, by simp⟩
                  · have HU' := HUp hyx
                    clear HNV HUp
                    go_wp2_with fail
                    go_quiet (first | (go_at_call 139; exact HBit.out _) | (go_at_call 113; exact HP.out _))
                    go_wp2
                    go_roundw
                    case rel => exact ⟨j + 1, _, by omega, by go_num, rfl, HU'⟩
                    case measure => simp [intOf]; omega
                · rw [hb1] at HBit
                  have HU' := Lib.hid (HU.out.next (fun h0 => absurd (hb1.symm.trans h0) (by omega)))
                  clear hb1
                  go_wp2_with fail
                  go_quiet (first | (go_at_call 139; exact HBit.out _))
                  go_wp2
                  go_roundw
                  case rel => exact ⟨j + 1, _, by omega, by go_num, rfl, HU'⟩
                  case measure => simp [intOf]; omega
              · obtain rfl : j = 3 := by omega
                have HO' := Lib.hid (HO.out.next HR.out HU.out)
                go_wp2
                go_roundw
                case rel => exact ⟨k + 1, _, by omega, by go_num, rfl, HO'⟩
                case measure => simp [intOf]; omega
          · have HB : Hid (∀ w1, Calls Try.prog 69 #[.int .i64 x, .int .i64 0, .int .i64 30] w1 fun e w' => e = .returned (.bool false) ∧ w1 = w') := Lib.hid (fun w1 => by have := inRange_any x 0 30 w1; rwa [inR_false.2 hB] at this)
            have HE := Lib.hid (vt_false (t := t) (fun hv => hB (by have := (hv.toS hlt).1; rwa [hT] at this)))
            clear hT hx hB
            go_wp2_with (go_at_call 69; refine (HB.out _).mono ?_; rintro e w1 ⟨rfl, rfl⟩)
            go_ret
            exact ⟨by rw [HE.out]; rfl, _, rfl⟩
        · obtain rfl : k = 8 := by omega
          have HE := Lib.hid (vt_true (HA.out HO.out))
          go_wp2
          go_ret
          exact ⟨by rw [HE.out]; rfl, _, rfl⟩
    · have HE := Lib.hid (vt_false (t := t) (fun hv => h0 (hT0.symm.trans hv.2.1)))
      clear hT0 hx0
      go_enter Try.func124, Try.ntmps124
      go_wp2_with (go_at_call 113; refine (HP3.out _).mono ?_; rintro e w1 ⟨rfl, rfl⟩)
      go_ret
      exact ⟨by rw [HE.out]; rfl, 0, rfl⟩
  · have HE := Lib.hid (vt_false (t := t) (fun hv => h8 hv.1))
    have h8' : ¬ (t.length : Int) = 8 := by omega
    go_enter Try.func124, Try.ntmps124
    go_wp2_with (go_at_call 113; refine (HP3.out _).mono ?_; rintro e w1 ⟨rfl, rfl⟩)
    go_ret
    exact ⟨by rw [HE.out]; rfl, 0, rfl⟩

end Go.Proofs.Ytpildecpabeanaa

/-
  Chapters 4 and 9, the program: what adds less to more, set by set.
-/
namespace Go.Proofs.Ytpildecpabeanaa
open Go.RowKit

/-- More adds less to more, of P sets. -/
def Ne2 (f : Nat → Int) (P : Nat) : Prop := ∀ a, a < P → ∀ b, b < P → f (a ||| b) + f (a &&& b) ≤ f a + f b
noncomputable def neB (f : Nat → Int) (P : Nat) : Bool := @decide (Ne2 f P) (Classical.propDecidable _)
theorem neB_true {f : Nat → Int} {P : Nat} (h : Ne2 f P) : neB f P = true := by unfold neB; simp [h]
theorem neB_false {f : Nat → Int} {P : Nat} (h : ¬ Ne2 f P) : neB f P = false := by unfold neB; simp [h]
theorem neB_iff {f : Nat → Int} {P : Nat} : neB f P = true ↔ Ne2 f P := by unfold neB; simp
def NeTo (f : Nat → Int) (P k : Nat) : Prop := ∀ s, s < k → ∀ x, x < P → f (s ||| x) + f (s &&& x) ≤ f s + f x
def NeU (f : Nat → Int) (s j : Nat) : Prop := ∀ x, x < j → f (s ||| x) + f (s &&& x) ≤ f s + f x
theorem NeTo.zero (f : Nat → Int) (P : Nat) : NeTo f P 0 := fun s h => absurd h (by omega)
theorem NeU.zero (f : Nat → Int) (s : Nat) : NeU f s 0 := fun s h => absurd h (by omega)
theorem NeU.next {f : Nat → Int} {s j : Nat} (h : NeU f s j) (hj : f (s ||| j) + f (s &&& j) ≤ f s + f j) : NeU f s (j + 1) := fun x hx => by
  rcases Nat.lt_or_ge x j with h1 | h1
  · exact h x h1
  · rw [show x = j by omega]; exact hj
theorem NeTo.next {f : Nat → Int} {P s : Nat} (h : NeTo f P s) (hu : NeU f s P) : NeTo f P (s + 1) := fun x hx => by
  rcases Nat.lt_or_ge x s with h1 | h1
  · exact h x h1
  · rw [show x = s by omega]; exact hu
theorem and16 {a b : Nat} (ha : a < 16) (hb : b < 16) : bits .and .i64 (a : Int) (b : Int) = ((a &&& b : Nat) : Int) := by
  have : ∀ a, a < 16 → ∀ b, b < 16 → bits .and .i64 ((a : Nat) : Int) ((b : Nat) : Int) = ((a &&& b : Nat) : Int) := by decide +kernel
  exact this a ha b hb
theorem or16 {a b : Nat} (ha : a < 16) (hb : b < 16) : bits .or .i64 (a : Int) (b : Int) = ((a ||| b : Nat) : Int) := by
  have : ∀ a, a < 16 → ∀ b, b < 16 → bits .or .i64 ((a : Nat) : Int) ((b : Nat) : Int) = ((a ||| b : Nat) : Int) := by decide +kernel
  exact this a ha b hb

set_option maxHeartbeats 1600000 in
theorem addsLess_any (A : Option Addr) (c m P : Nat) (l : List Int) (w : World) (h : Rd w A c l) (hP : P = 2 ^ m) (hm : m ≤ 4) (hl : l.length = P) (hb : ∀ s, s < P → 0 ≤ T l s ∧ T l s ≤ 120) :
    Calls Try.prog 93 #[.slice A P c] w fun e w' => e = .returned (.bool (neB (T l) P)) ∧ ∃ n, w' = w.drewN n := by
  have h16 : P ≤ 16 := by rw [hP]; exact Nat.pow_le_pow_right (n := 2) (by omega) hm
  have HO1 : Hid (∀ a b, a < P → b < P → a ||| b < P) := Lib.hid (fun a b ha hb => by rw [hP] at *; exact Nat.or_lt_two_pow ha hb)
  have HA1 : Hid (∀ a b, a < P → b < P → a &&& b < P) := Lib.hid (fun a b ha hb => Nat.lt_of_le_of_lt Nat.and_le_left ha)
  have HN := Lib.hid (fun (hm : ¬ Ne2 (T l) P) => neB_false hm)
  have HY := Lib.hid (fun (hm : NeTo (T l) P P) => neB_true (f := T l) (P := P) hm)
  have HBD := Lib.hid hb
  clear hP hb
  go_enter Try.func93, Try.ntmps93
  go_wp2
  go_loopw [9] (fun i wr => ∃ k n : Nat, k ≤ P ∧ i = .int .i64 (k : Int) ∧ wr = w.drewN n ∧ Hid (NeTo (T l) P k)) (fun i _ => P - (intOf i).toNat)
  case atStart => exact ⟨0, 0, by omega, rfl, rfl, Lib.hid (NeTo.zero _ _)⟩
  case round =>
    obtain ⟨k, n, hk, rfl, rfl, HO⟩ := hrel
    by_cases hlt : k < P
    · obtain ⟨b, off, x, rfl, _, hx, hc⟩ := h.at_ (k := k) (by omega)
      have hTx := T_of hx.out
      have hxb := HBD.out k hlt
      rw [hTx] at hxb
      have HTX := Lib.hid hTx
      obtain ⟨hx0, hx30⟩ := hxb
      clear hx hTx
      have hk0 : (0 : Int) ≤ (k : Int) := by omega
      have hk8 : (k : Int) < (P : Int) := by omega
      go_wp2
      go_loopw [16] (fun i wr => ∃ j m : Nat, j ≤ P ∧ i = .int .i64 (j : Int) ∧ wr = w.drewN m ∧ Hid (NeU (T l) k j)) (fun i _ => P - (intOf i).toNat)
      case atStart => exact ⟨0, n, by omega, rfl, rfl, Lib.hid (NeU.zero _ k)⟩
      case round =>
        obtain ⟨j, m, hj, rfl, rfl, HU⟩ := hrel
        by_cases hjl : j < P
        · obtain ⟨b2, off2, y, hA, _, hy, hc2⟩ := h.at_ (k := j) (by omega)
          cases hA
          obtain ⟨b3, off3, u, hA, _, hu, hc3⟩ := h.at_ (k := k ||| j) (by rw [hl]; exact HO1.out _ _ hlt hjl)
          cases hA
          obtain ⟨b4, off4, v, hA, _, hv, hc4⟩ := h.at_ (k := k &&& j) (by rw [hl]; exact HA1.out _ _ hlt hjl)
          cases hA
          have hTy := T_of hy.out
          have hTu := T_of hu.out
          have hTv := T_of hv.out
          have hyb := HBD.out j hjl
          have hub := HBD.out (k ||| j) (HO1.out _ _ hlt hjl)
          have hvb := HBD.out (k &&& j) (HA1.out _ _ hlt hjl)
          rw [hTy] at hyb
          rw [hTu] at hub
          rw [hTv] at hvb
          have HNO : x + y < u + v → Hid (neB (T l) P = false) := fun hh => Lib.hid (HN.out (fun hm => by have := hm k hlt j hjl; rw [hTu, hTv, HTX.out, hTy] at this; omega))
          have HYE : ¬ x + y < u + v → Hid (NeU (T l) k (j + 1)) := fun hh => Lib.hid (HU.out.next (by rw [hTu, hTv, HTX.out, hTy]; omega))
          obtain ⟨hy0, hy30⟩ := hyb
          obtain ⟨hu0, hu30⟩ := hub
          obtain ⟨hv0, hv30⟩ := hvb
          have ho := or16 (a := k) (b := j) (by omega) (by omega)
          have ha := and16 (a := k) (b := j) (by omega) (by omega)
          have ho8 := HO1.out k j hlt hjl
          have ha8 := HA1.out k j hlt hjl
          obtain ⟨p, hp⟩ : ∃ p, p = k ||| j := ⟨_, rfl⟩
          obtain ⟨q, hq⟩ : ∃ q, q = k &&& j := ⟨_, rfl⟩
          rw [← hp] at ho hc3 ho8
          rw [← hq] at ha hc4 ha8
          have hp0 : (0 : Int) ≤ (p : Int) := by omega
          have hp8 : (p : Int) < (P : Int) := by omega
          have hq0 : (0 : Int) ≤ (q : Int) := by omega
          have hq8 : (q : Int) < (P : Int) := by omega
          clear hp hq hy hu hv hTy hTu hTv
          have e1 : IntKind.i64.wrap (x + y) = x + y := IntWalk.i64_in _ (by omega)
          have e2 : IntKind.i64.wrap (u + v) = u + v := IntWalk.i64_in _ (by omega)
          by_cases hh : x + y < u + v
          · have HE := HNO hh
            clear HNO HYE
            go_wp2_with fail
            go_quiet (fail)
            go_wp2
            go_ret
            exact ⟨by rw [HE.out]; rfl, _, World.drewN_drewN w m nq⟩
          · have HU' := HYE hh
            clear HNO HYE
            go_wp2_with fail
            go_quiet (fail)
            go_wp2
            go_roundw
            case rel => exact ⟨j + 1, _, by omega, by go_num, rfl, HU'⟩
            case measure => simp [intOf]; omega
        · obtain rfl : j = P := by omega
          have HO' := Lib.hid (HO.out.next HU.out)
          go_wp2
          go_roundw
          case rel => exact ⟨k + 1, _, by omega, by go_num, rfl, HO'⟩
          case measure => simp [intOf]; omega
    · obtain rfl : k = P := by omega
      have HE := Lib.hid (HY.out HO.out)
      go_wp2
      go_ret
      exact ⟨by rw [HE.out]; rfl, _, rfl⟩

end Go.Proofs.Ytpildecpabeanaa
