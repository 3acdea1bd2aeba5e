/-
  Chapter 1, the model: the contracts of greatest and withBid.
-/
import Derived.Test.YtkkdffmpeadinaaOne
import Derived.Test.YtkkdffmpeadinaaPl
namespace Go.Proofs.Ytkkdffmpeadinaa
open Go.RowKit

set_option maxHeartbeats 400000 in
theorem greatest_any (A : Option Addr) (c : Nat) (xs : List Int) (w : World) (h : Rd w A c xs) (h1 : 1 ≤ xs.length) (hl : xs.length ≤ 1099511627776) :
    Calls Try.prog 84 #[.slice A xs.length c] w fun e w' => e = .returned (.int .i64 (gr xs xs.length)) ∧ ∃ n, w' = w.drewN n := by
  obtain ⟨b, off, rfl, hcell⟩ := h.open_ h1
  have HC := Lib.hid hcell
  clear hcell h
  go_enter Try.func84, Try.ntmps84
  go_wp2
  go_loopw [3, 4] (fun t i wr => ∃ k m n : Nat, 1 ≤ k ∧ k ≤ xs.length ∧ m < k ∧ i = .int .i64 k ∧ t = .int .i64 m ∧ wr = w.drewN n ∧ Hid (m = gr xs k))
    (fun _ i _ => xs.length - (intOf i).toNat)
  case atStart => exact ⟨1, 0, 0, Nat.le_refl _, h1, by omega, rfl, rfl, rfl, Lib.hid (gr_one xs).symm⟩
  case round =>
    obtain ⟨k, m, n, hk1, hk, hm, rfl, rfl, rfl, HM⟩ := hrel
    by_cases hlt : k < xs.length
    · obtain ⟨x, hx⟩ := at_some hlt
      obtain ⟨y, hy⟩ := at_some (xs := xs) (k := m) (by omega)
      have hc1 := HC.out k x hx
      have hc2 := HC.out m y hy
      have hm2 : m < xs.length := by omega
      by_cases hyx : y < x
      · have HM' : Hid (k = gr xs (k + 1)) := Lib.hid (by rw [gr, ← HM.out, getD_of hx, getD_of hy, if_pos hyx])
        clear hx hy
        go_wp2
        go_quiet (fail)
        go_wp2
        go_roundw
        case rel => exact ⟨k + 1, k, n + nq, by omega, by omega, by omega, by go_num, rfl, by simp, HM'⟩
        case measure => simp [intOf]; omega
      · have HM' : Hid (m = gr xs (k + 1)) := Lib.hid (by rw [gr, ← HM.out, getD_of hx, getD_of hy, if_neg hyx])
        clear hx hy
        go_wp2
        go_quiet (fail)
        go_wp2
        go_roundw
        case rel => exact ⟨k + 1, m, n + nq, by omega, by omega, by omega, by go_num, rfl, by simp, HM'⟩
        case measure => simp [intOf]; omega
    · obtain rfl : k = xs.length := by omega
      go_wp2
      go_ret
      exact ⟨by rw [← HM.out]; rfl, n, rfl⟩

end Go.Proofs.Ytkkdffmpeadinaa
