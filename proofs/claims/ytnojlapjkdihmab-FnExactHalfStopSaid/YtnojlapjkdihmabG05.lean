/-
  Chapter 1, the model: the contract of sale.
-/
import Derived.Test.YtnojlapjkdihmabG04
import Derived.Lib.Strings
import Derived.Test.YtnojlapjkdihmabMem
namespace Go.Proofs.Ytnojlapjkdihmab
open Go.RowKit

/-- The word s is the kind kd. -/
def KindIs (s : ByteArray) (kd : Nat) : Prop :=
  (kd = 1 ∧ s = ⟨#[102, 105, 114, 115, 116]⟩) ∨ (kd = 2 ∧ s = ⟨#[115, 101, 99, 111, 110, 100]⟩) ∨ (kd = 3 ∧ s = ⟨#[116, 104, 105, 114, 100]⟩) ∨ (kd = 4 ∧ s = ⟨#[97, 108, 108]⟩)

/-- What a sale hands back. -/
def SaleIs (w : World) (xs : List Int) (kd : Nat) (r : Int) (e : Ending) (w' : World) : Prop :=
  ∃ g c, e = .returned (.tuple #[.int .i64 (atOf xs r), .slice (some ⟨g, 0, none⟩) xs.length c]) ∧ Own w' w.heap.size (some ⟨g, 0, none⟩) c (payOf kd xs r) ∧ Below w.heap.size w w'

end Go.Proofs.Ytnojlapjkdihmab

/-
  Chapter 1, the model: the contracts of validKind, SaleBy, validWho, gain, LeastToWin, GainOf and BestBid.
-/
namespace Go.Proofs.Ytnojlapjkdihmab
open Go.RowKit

/-- The word s is no kind. -/
def NoKind (s : ByteArray) : Prop :=
  (s.toList == [102, 105, 114, 115, 116]) = false ∧ (s.toList == [115, 101, 99, 111, 110, 100]) = false ∧ (s.toList == [116, 104, 105, 114, 100]) = false ∧ (s.toList == [97, 108, 108]) = false

theorem bytes_of_list {s : ByteArray} {l : List UInt8} (h : s.toList = l) : s = ⟨l.toArray⟩ := by
  rw [Lib.toList_data] at h
  obtain ⟨d⟩ := s
  subst h
  rfl

theorem kind_cases (s : ByteArray) : (∃ kd, KindIs s kd) ∨ NoKind s := by
  by_cases h1 : s.toList = [102, 105, 114, 115, 116]
  · exact .inl ⟨1, .inl ⟨rfl, bytes_of_list h1⟩⟩
  by_cases h2 : s.toList = [115, 101, 99, 111, 110, 100]
  · exact .inl ⟨2, .inr (.inl ⟨rfl, bytes_of_list h2⟩)⟩
  by_cases h3 : s.toList = [116, 104, 105, 114, 100]
  · exact .inl ⟨3, .inr (.inr (.inl ⟨rfl, bytes_of_list h3⟩))⟩
  by_cases h4 : s.toList = [97, 108, 108]
  · exact .inl ⟨4, .inr (.inr (.inr ⟨rfl, bytes_of_list h4⟩))⟩
  exact .inr ⟨by simpa using h1, by simpa using h2, by simpa using h3, by simpa using h4⟩

/-- Among the bids xs there is a bidder i. -/
def wB (xs : List Int) (i : Int) : Bool := vB xs && inR i 0 (xs.length - 1)

theorem vB_le {xs : List Int} (h : vB xs = true) : 1 ≤ xs.length ∧ xs.length ≤ 6 := by
  simp only [vB, Bool.and_eq_true, inR_true] at h; omega

/-- What SaleBy hands back where the kind, the bids or the reserve are none. -/
def NoSale (e : Ending) : Prop := e = .returned (.tuple #[.int .i64 (-1), .slice none 0 0])

end Go.Proofs.Ytnojlapjkdihmab

/-
  The program: the contract of slices.Clone at ints.
-/
namespace Go.Proofs.Ytnojlapjkdihmab
open Go.RowKit

end Go.Proofs.Ytnojlapjkdihmab

/-
  Chapter 1, the program: the contracts of winnerOf, slices.Clone, slices.Sort, bidOfRank, the sales and saleOf.
-/
namespace Go.Proofs.Ytnojlapjkdihmab
open Go.RowKit

/-- The list, sorted. -/
def srt (xs : List Int) : List Int := xs.mergeSort fun x y => decide (x ≤ y)
theorem srt_len (xs : List Int) : (srt xs).length = xs.length := (List.mergeSort_perm xs _).length_eq
theorem srt_asc (xs : List Int) : Asc (srt xs) := by
  have := List.pairwise_mergeSort (le := fun x y : Int => decide (x ≤ y)) (by intro a b c; simp; omega) (by intro a b; simp; omega) xs
  unfold Asc srt
  simpa using this

end Go.Proofs.Ytnojlapjkdihmab
