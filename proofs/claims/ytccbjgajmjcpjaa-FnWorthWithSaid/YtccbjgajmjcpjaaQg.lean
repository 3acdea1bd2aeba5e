/-
  The laws of chapter 4: what they reckon with, and the law of IsModest.
-/
import Derived.Test.YtccbjgajmjcpjaaGQ
import Derived.Test.YtccbjgajmjcpjaaGW
namespace Go.Proofs.Ytccbjgajmjcpjaa
open Go.RowKit Go.Lib

theorem Lpower_any (j : Nat) (hj : j ≤ 3) (w : World) :
    Calls Try.prog 54 #[.int .i64 (j : Int)] w fun e w' => e = .returned (.int .i64 ((2 ^ j : Nat) : Int)) ∧ w = w' := by
  go_enter Try.func54, Try.ntmps54
  go_wp2
  go_loop [0, 3] (fun n o => ∃ m : Nat, m ≤ j ∧ n = .int .i64 (m : Int) ∧ o = .int .i64 ((2 ^ (j - m) : Nat) : Int)) (fun n _ => (intOf n).toNat)
  case atStart => exact ⟨j, Nat.le_refl _, rfl, by simp⟩
  case round =>
    obtain ⟨m, hm, rfl, rfl⟩ := hrel
    cases m with
    | zero =>
      go_wp2
      go_ret
      exact ⟨rfl, rfl⟩
    | succ m =>
      have hp : 2 ^ (j - (m + 1)) ≤ 4 := by
        have : j - (m + 1) ≤ 2 := by omega
        calc 2 ^ (j - (m + 1)) ≤ 2 ^ 2 := Nat.pow_le_pow_right (by decide) this
          _ = 4 := rfl
      have he : 2 ^ (j - m) = 2 * 2 ^ (j - (m + 1)) := by rw [show j - m = (j - (m + 1)) + 1 by omega, Nat.pow_succ]; omega
      obtain ⟨q, hq⟩ : ∃ q, q = 2 ^ (j - (m + 1)) := ⟨_, rfl⟩
      rw [← hq] at hp he ⊢
      have HE := Lib.hid he
      have hm' : (0 : Int) < ((m + 1 : Nat) : Int) := by omega
      clear hq he
      go_wp2
      go_round
      case rel => exact ⟨m, by omega, by go_num, by rw [HE.out]; go_num⟩
      case measure => simp [intOf]

theorem Lbit_any (x j : Nat) (hx : x < 8) (hj : j < 3) (w : World) :
    Calls Try.prog 31 #[.int .i64 (x : Int), .int .i64 (j : Int)] w fun e w' => e = .returned (.int .i64 ((x / 2 ^ j % 2 : Nat) : Int)) ∧ w = w' := by
  have HP := Lib.hid (fun w => Lpower_any j (by omega) w)
  have hv : (wrap64 ((x : Int) / ((2 ^ j : Nat) : Int))).tmod 2 = ((x / 2 ^ j % 2 : Nat) : Int) := by
    have : ∀ x, x < 8 → ∀ j, j < 3 → (wrap64 (((x : Nat) : Int) / ((2 ^ j : Nat) : Int))).tmod 2 = ((x / 2 ^ j % 2 : Nat) : Int) := by decide +kernel
    exact this x hx j hj
  obtain ⟨p, hp⟩ : ∃ p, p = 2 ^ j := ⟨_, rfl⟩
  have hp0 : (p : Int) ≠ 0 := by
    have : 0 < 2 ^ j := Nat.pow_pos (by decide)
    omega
  rw [← hp] at HP hv ⊢
  have HV := Lib.hid hv
  clear hv hp
  go_enter Try.func31, Try.ntmps31
  go_wp2_with (go_at_call 54; refine (HP.out _).mono ?_; rintro e w1 ⟨rfl, rfl⟩)
  go_ret
  exact ⟨by rw [← HV.out]; rfl, rfl⟩

/-- What is drawn: a list of numbers. -/
def DrawnT (w : World) (e : Ending) (w' : World) : Prop :=
  ∃ (g c : Nat) (t : List Int), e = .returned (.slice (some ⟨g, 0, none⟩) t.length c) ∧ Rd w' (some ⟨g, 0, none⟩) c t ∧ t.length ≤ 8 ∧ t.length ≤ c ∧ Below w.heap.size w w'
/-- Modest tables are no more than their parts. -/
theorem mod_parts {t : List Int} (h : VT t) (hm : Mod t) {s : Nat} (hs : s < 8) : T t s ≤ ((s / 2 ^ 0 % 2 : Nat) : Int) * T t 1 + ((s / 2 ^ 1 % 2 : Nat) : Int) * T t 2 + ((s / 2 ^ 2 % 2 : Nat) : Int) * T t 4 := by
  have h0 := h.2.1
  have m12 := hm 1 (by omega) 2 (by omega)
  have m14 := hm 1 (by omega) 4 (by omega)
  have m24 := hm 2 (by omega) 4 (by omega)
  have m34 := hm 3 (by omega) 4 (by omega)
  simp only [show (1 ||| 2 : Nat) = 3 by decide, show (1 &&& 2 : Nat) = 0 by decide, show (1 ||| 4 : Nat) = 5 by decide, show (1 &&& 4 : Nat) = 0 by decide, show (2 ||| 4 : Nat) = 6 by decide, show (2 &&& 4 : Nat) = 0 by decide, show (3 ||| 4 : Nat) = 7 by decide, show (3 &&& 4 : Nat) = 0 by decide] at m12 m14 m24 m34
  rcases nat8 hs with rfl | rfl | rfl | rfl | rfl | rfl | rfl | rfl <;> simp <;> omega

/-- What the first j things alone are worth together, of those in the set. -/
def prt (t : List Int) (s : Nat) : Nat → Int
  | 0 => 0
  | j + 1 => prt t s j + ((s / 2 ^ j % 2 : Nat) : Int) * T t (2 ^ j)

theorem prt_bd {t : List Int} (h : ∀ s, s < 8 → 0 ≤ T t s ∧ T t s ≤ 30) {s : Nat} (_hs : s < 8) : ∀ j, j ≤ 3 → 0 ≤ prt t s j ∧ prt t s j ≤ 30 * j := by
  intro j
  induction j with
  | zero => intro _; simp [prt]
  | succ j ih =>
    intro hj
    have h1 := ih (by omega)
    have h2 := h (2 ^ j) (by rcases nat3 (show j < 3 by omega) with rfl | rfl | rfl <;> decide)
    simp only [prt]
    generalize T t (2 ^ j) = v at h2 ⊢
    rcases (show s / 2 ^ j % 2 = 0 ∨ s / 2 ^ j % 2 = 1 by omega) with e | e <;> rw [e]
    · simp only [Int.natCast_zero, Int.zero_mul]; omega
    · simp only [Int.natCast_one, Int.one_mul]; omega

end Go.Proofs.Ytccbjgajmjcpjaa
