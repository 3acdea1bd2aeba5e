/-
  Chapter 1, the program: the contracts of winnerOf, slices.Clone, slices.Sort, bidOfRank, the sales and saleOf.
-/
import Derived.Test.YtoipjhdnmiomeaaSpecD
namespace Go.Proofs.Ytoipjhdnmiomeaa
open Go.RowKit

set_option maxHeartbeats 400000 in
theorem winnerOf_any (A : Option Addr) (c : Nat) (xs : List Int) (r : Int) (w : World) (h : Rd w A c xs) (h1 : 1 ≤ xs.length) (hl : xs.length ≤ 1099511627776) :
    Calls Try.prog 63 #[.slice A xs.length c, .int .i64 r] w fun e w' => e = .returned (.int .i64 (atOf xs r)) ∧ w = w' := by
  obtain ⟨b, off, rfl, hcell⟩ := h.open_ h1
  have HC := Lib.hid hcell
  clear hcell h
  go_enter Try.func63, Try.ntmps63
  go_wp2
  go_loop [5, 10] (fun t i => ∃ k m : Nat, k ≤ xs.length ∧ (m < k ∨ m = 0) ∧ i = .int .i64 k ∧ t = .int .i64 m ∧ Hid (m = gr xs k))
    (fun _ i => xs.length - (intOf i).toNat)
  case atStart => exact ⟨0, 0, by omega, .inr rfl, rfl, rfl, Lib.hid rfl⟩
  case round =>
    obtain ⟨k, m, hk, hm, rfl, rfl, HM⟩ := hrel
    have hm2 : m < xs.length := by omega
    obtain ⟨y, hy⟩ := at_some hm2
    have hc2 := HC.out m y hy
    by_cases hlt : k < xs.length
    · obtain ⟨x, hx⟩ := at_some hlt
      have hc1 := HC.out k x hx
      by_cases hyx : y < x
      · have HM' : Hid (k = gr xs (k + 1)) := Lib.hid (by rw [gr, ← HM.out, getD_of hx, getD_of hy, if_pos hyx])
        clear hx hy hm
        go_wp2
        go_round
        case rel => exact ⟨k + 1, k, by omega, .inl (by omega), by go_num, rfl, HM'⟩
        case measure => simp [intOf]; omega
      · have HM' : Hid (m = gr xs (k + 1)) := Lib.hid (by rw [gr, ← HM.out, getD_of hx, getD_of hy, if_neg hyx])
        have hmk : m < k + 1 := by omega
        clear hx hy hm
        go_wp2
        go_round
        case rel => exact ⟨k + 1, m, by omega, .inl hmk, by go_num, rfl, HM'⟩
        case measure => simp [intOf]; omega
    · obtain rfl : k = xs.length := by omega
      by_cases hr : y < r
      · have HE := Lib.hid (atOf_none (xs := xs) (r := r) (by rw [← HM.out, getD_of hy]; exact hr))
        clear hy hm
        go_wp2
        go_ret
        exact ⟨by rw [HE.out]; rfl, rfl⟩
      · have HE := Lib.hid (atOf_some (xs := xs) (r := r) (by rw [← HM.out, getD_of hy]; exact hr))
        clear hy hm
        go_wp2
        go_ret
        exact ⟨by rw [HE.out, ← HM.out]; rfl, rfl⟩

theorem Clone_any (b off c : Nat) (xs : List Int) (w : World) (h : Rd w (some ⟨b, off, none⟩) c xs) (hl : xs.length ≤ 1099511627776) :
    Calls Try.prog 89 #[.slice (some ⟨b, off, none⟩) xs.length c] w (OutIs w xs) := by
  have hb0 := (Below.refl w.heap.size w).alloc (Nat.le_refl _) (.cells #[] 3)
  have h1 := h.below hb0
  have qT : ∀ (w : World) (a : Option Addr) (n c n' c' : Nat), (binOp .eql 23 (.slice a n c) (.slice none n' c')).run Try.prog w = .ok (.bool a.isNone) w := fun w a n c n' c' => Lib.run_eql_slice_nil w _ _ a n c n' c' Try.underlying23
  go_enter Try.func89, Try.ntmps89
  go_wp2_with (at_builtin; refine wpList_clone rfl _ _ rfl w.heap.size w.heap.size rfl (own_empty w) _ _ xs rfl h1 hl hb0.size ?_; intro g c1 w1 ho hb)
  go_ret
  exact ⟨g, c1, rfl, ho, hb0.trans hb⟩

/-- The list, sorted. -/
def srt (xs : List Int) : List Int := xs.mergeSort fun x y => decide (x ≤ y)
theorem srt_len (xs : List Int) : (srt xs).length = xs.length := (List.mergeSort_perm xs _).length_eq
theorem srt_asc (xs : List Int) : Asc (srt xs) := by
  have := List.pairwise_mergeSort (le := fun x y : Int => decide (x ≤ y)) (by intro a b c; simp; omega) (by intro a b; simp; omega) xs
  unfold Asc srt
  simpa using this

end Go.Proofs.Ytoipjhdnmiomeaa
