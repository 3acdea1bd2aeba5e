/-
  Chapter 4, the model: texts: the contract of number.
-/
import Derived.Test.YtfjncipekjnbjabWe
import Derived.Test.YtfjncipekjnbjabWp
namespace Go.Proofs.Ytfjncipekjnbjab
open Go.RowKit Go.Lib

/-- A text by its bytes. -/
def sB (l : List UInt8) : ByteArray := ⟨l.toArray⟩
theorem sB_append (a b : List UInt8) : sB a ++ sB b = sB (a ++ b) := by
  unfold sB
  apply ByteArray.ext
  simp [ByteArray.data_append]
theorem sB_list (s : ByteArray) : sB s.data.toList = s := by unfold sB; simp
theorem sB_size (l : List UInt8) : (sB l).size = l.length := by unfold sB; simp [ByteArray.size]
theorem digit_at {n : Nat} (hn : n < 10) : ByteArray.extract ⟨#[48, 49, 50, 51, 52, 53, 54, 55, 56, 57]⟩ n (n + 1) = sB (decDigits n) := by
  rw [dec_small (by omega)]
  have : n = 0 ∨ n = 1 ∨ n = 2 ∨ n = 3 ∨ n = 4 ∨ n = 5 ∨ n = 6 ∨ n = 7 ∨ n = 8 ∨ n = 9 := by omega
  rcases this with rfl | rfl | rfl | rfl | rfl | rfl | rfl | rfl | rfl | rfl <;> rfl

theorem dec_len : ∀ (n : Nat), (decDigits n).length ≤ n + 1 := by
  intro n
  induction n using Nat.strongRecOn with
  | _ n ih =>
    rw [decDigits]
    split
    · simp
    · have := ih (n / 10) (by omega)
      simp; omega
theorem sB_room {a b : List UInt8} (h : a.length + b.length ≤ 1152921504606846976) : ¬ 9223372036854775807 < (sB a).size + (sB b).size := by
  rw [sB_size, sB_size]; omega

/-- What a call hands back: a text. -/
def TextIs (w : World) (l : List UInt8) (e : Ending) (w' : World) : Prop := e = .returned (.string (sB l)) ∧ ∃ m, w' = w.drewN m

set_option maxHeartbeats 800000 in
theorem Snumber_one (n : Nat) (hn : n < 10) (w : World) :
    Calls Try.prog 174 #[.int .i64 (n : Int)] w (TextIs w (decDigits n)) := by
  have h0 : ¬ (n : Int) < 0 := by omega
  have h1 : (n : Int) < 10 := by omega
  go_enter Try.func174, Try.ntmps174
  go_wp2
  go_ret
  refine ⟨?_, 0, rfl⟩
  rw [← digit_at hn]
  rfl

set_option maxHeartbeats 800000 in
theorem Snumber_any : ∀ (k n : Nat), n < 10 ^ (k + 1) → k ≤ 8 → ∀ (w : World),
    Calls Try.prog 174 #[.int .i64 (n : Int)] w (TextIs w (decDigits n)) := by
  intro k
  induction k with
  | zero => intro n hn _ w; exact Snumber_one n (by simpa using hn) w
  | succ k ih =>
    intro n hn hk w
    by_cases hlt : n < 10
    · exact Snumber_one n hlt w
    · have hp : n < 10000000000 := Nat.lt_of_lt_of_le hn (Nat.pow_le_pow_right (by decide) (by omega : k + 1 + 1 ≤ 10))
      have hq : n / 10 < 10 ^ (k + 1) := by rw [Nat.pow_succ] at hn; omega
      have HQ : Hid (∀ w, Calls Try.prog 174 #[.int .i64 ((n : Int) / 10)] w (TextIs w (decDigits (n / 10)))) := Lib.hid (fun w => by rw [show (n : Int) / 10 = ((n / 10 : Nat) : Int) by omega]; exact ih (n / 10) hq (by omega) w)
      have HR : Hid (∀ w, Calls Try.prog 174 #[.int .i64 ((n : Int) % 10)] w (TextIs w (decDigits (n % 10)))) := Lib.hid (fun w => by rw [show (n : Int) % 10 = ((n % 10 : Nat) : Int) by omega]; exact Snumber_one (n % 10) (by omega) w)
      have HD : Hid (decDigits n = decDigits (n / 10) ++ decDigits (n % 10)) := Lib.hid (by
        rw [decDigits, dif_neg hlt, decDigits.eq_def (n % 10), dif_pos (by omega)])
      have h0 : ¬ (n : Int) < 0 := by omega
      have h1 : ¬ (n : Int) < 10 := by omega
      have hr := sB_room (a := decDigits (n / 10)) (b := decDigits (n % 10)) (by have := dec_len (n / 10); have := dec_len (n % 10); omega)
      clear ih hq hn hlt
      go_enter Try.func174, Try.ntmps174
      go_wp2_with fail
      refine (HQ.out _).mono ?_
      rintro e w1 ⟨rfl, m1, rfl⟩
      go_wp2_with fail
      refine (HR.out _).mono ?_
      rintro e w2 ⟨rfl, m2, rfl⟩
      go_wp2
      go_ret
      refine ⟨?_, m1 + m2, by simp⟩
      rw [HD.out, ← sB_append]
      rfl

end Go.Proofs.Ytfjncipekjnbjab
