/-
  Chapter 1, the model: the contracts of validKind, SaleBy, validWho, gain, LeastToWin, GainOf and BestBid.
-/
import Derived.Test.YtnojlapjkdihmaaSpecC
import Derived.Lib.Strings
import Derived.Test.YtnojlapjkdihmaaMem
namespace Go.Proofs.Ytnojlapjkdihmaa
open Go.RowKit

/-- The word s is no kind. -/
def NoKind (s : ByteArray) : Prop :=
  (s.toList == [102, 105, 114, 115, 116]) = false ∧ (s.toList == [115, 101, 99, 111, 110, 100]) = false ∧ (s.toList == [116, 104, 105, 114, 100]) = false ∧ (s.toList == [97, 108, 108]) = false

theorem bytes_of_list {s : ByteArray} {l : List UInt8} (h : s.toList = l) : s = ⟨l.toArray⟩ := by
  rw [Lib.toList_data] at h
  obtain ⟨d⟩ := s
  subst h
  rfl

theorem kind_cases (s : ByteArray) : (∃ kd, KindIs s kd) ∨ NoKind s := by
  by_cases h1 : s.toList = [102, 105, 114, 115, 116]
  · exact .inl ⟨1, .inl ⟨rfl, bytes_of_list h1⟩⟩
  by_cases h2 : s.toList = [115, 101, 99, 111, 110, 100]
  · exact .inl ⟨2, .inr (.inl ⟨rfl, bytes_of_list h2⟩)⟩
  by_cases h3 : s.toList = [116, 104, 105, 114, 100]
  · exact .inl ⟨3, .inr (.inr (.inl ⟨rfl, bytes_of_list h3⟩))⟩
  by_cases h4 : s.toList = [97, 108, 108]
  · exact .inl ⟨4, .inr (.inr (.inr ⟨rfl, bytes_of_list h4⟩))⟩
  exact .inr ⟨by simpa using h1, by simpa using h2, by simpa using h3, by simpa using h4⟩

/-- Among the bids xs there is a bidder i. -/
def wB (xs : List Int) (i : Int) : Bool := vB xs && inR i 0 (xs.length - 1)

theorem vB_le {xs : List Int} (h : vB xs = true) : 1 ≤ xs.length ∧ xs.length ≤ 6 := by
  simp only [vB, Bool.and_eq_true, inR_true] at h; omega

/-- What SaleBy hands back where the kind, the bids or the reserve are none. -/
def NoSale (e : Ending) : Prop := e = .returned (.tuple #[.int .i64 (-1), .slice none 0 0])

end Go.Proofs.Ytnojlapjkdihmaa

/-
  The program: the contract of slices.Clone at ints.
-/
namespace Go.Proofs.Ytnojlapjkdihmaa
open Go.RowKit

theorem Clone_any (b off c : Nat) (xs : List Int) (w : World) (h : Rd w (some ⟨b, off, none⟩) c xs) (hl : xs.length ≤ 1099511627776) :
    Calls Try.prog 157 #[.slice (some ⟨b, off, none⟩) xs.length c] w (OutIs w xs) := by
  have hb0 := (Below.refl w.heap.size w).alloc (Nat.le_refl _) (.cells #[] 3)
  have h1 := h.below hb0
  have qT : ∀ (w : World) (a : Option Addr) (n c n' c' : Nat), (binOp .eql 24 (.slice a n c) (.slice none n' c')).run Try.prog w = .ok (.bool a.isNone) w := fun w a n c n' c' => Lib.run_eql_slice_nil w _ _ a n c n' c' Try.underlying24
  go_enter Try.func157, Try.ntmps157
  go_wp2_with (at_builtin; refine wpList_clone rfl _ _ rfl w.heap.size w.heap.size rfl (own_empty w) _ _ xs rfl h1 hl hb0.size ?_; intro g c1 w1 ho hb)
  go_ret
  exact ⟨g, c1, rfl, ho, hb0.trans hb⟩


end Go.Proofs.Ytnojlapjkdihmaa

/-
  Chapter 1, the program: the contracts of winnerOf, slices.Clone, slices.Sort, bidOfRank, the sales and saleOf.
-/
namespace Go.Proofs.Ytnojlapjkdihmaa
open Go.RowKit

/-- The list, sorted. -/
def srt (xs : List Int) : List Int := xs.mergeSort fun x y => decide (x ≤ y)
theorem srt_len (xs : List Int) : (srt xs).length = xs.length := (List.mergeSort_perm xs _).length_eq
theorem srt_asc (xs : List Int) : Asc (srt xs) := by
  have := List.pairwise_mergeSort (le := fun x y : Int => decide (x ≤ y)) (by intro a b c; simp; omega) (by intro a b; simp; omega) xs
  unfold Asc srt
  simpa using this

end Go.Proofs.Ytnojlapjkdihmaa
