/-
  Chapter 7: lists of three prices that are slices of arrays: marked, held, kept; rows marked, what else is there kept.
-/
import Derived.Test.YtfjncipekjnbjaaJr
import Derived.Test.YtfjncipekjnbjaaGM
import Derived.Test.YtfjncipekjnbjaaGU
namespace Go.Proofs.Ytfjncipekjnbjaa
open Go.RowKit

theorem own_keepb {w w' : World} {B : Nat} {A : Option Addr} {c : Nat} {zs : List Int} (h : Own w B A c zs) (hb : ∀ g, ofA A = some g → w'.heap[g]? = w.heap[g]?) : Own w' B A c zs := by
  unfold Own at h ⊢
  refine ⟨h.1, ?_⟩
  rcases h.2 with h2 | ⟨g, cap, cur, hv, hB, hh, r⟩
  · exact .inl h2
  · refine .inr ⟨g, cap, cur, hv, hB, (hb g ?_).trans hh, r⟩
    injection hv with hA _ _
    rw [hA]
    rfl
/-- A slice of the call's own, or an array of prices of its own that is sliced. -/
def Own3 (w : World) (B : Nat) (A : Option Addr) (c : Nat) (zs : List Int) : Prop := Own w B A c zs ∨ ∃ M, A = some ⟨M, 0, none⟩ ∧ c = 3 ∧ zs.length = 3 ∧ B ≤ M ∧ Pr3 w M zs
theorem pr3_rd {w : World} {M : Nat} {zs : List Int} (h : Pr3 w M zs) (hl : zs.length = 3) (c : Nat) : Rd w (some ⟨M, 0, none⟩) c zs := .inr ⟨M, 0, rfl, fun k hk => by
  rw [Nat.zero_add, h.cell (by omega)]
  simp [T]⟩
theorem Own3.rd {w : World} {B : Nat} {A : Option Addr} {c : Nat} {zs : List Int} (h : Own3 w B A c zs) : Rd w A c zs := by
  rcases h with h | ⟨M, rfl, rfl, hl, _, h⟩
  · exact h.rd
  · exact pr3_rd h hl 3
theorem Own3.below {w w' : World} {B : Nat} {A : Option Addr} {c : Nat} {zs : List Int} (h : Own3 w B A c zs) (hb : Below w.heap.size w w') : Own3 w' B A c zs := by
  rcases h with h | ⟨M, rfl, rfl, hl, hB, h⟩
  · exact .inl (h.below hb)
  · exact .inr ⟨M, rfl, rfl, hl, hB, h.keep (hb.block _ h.lt)⟩
theorem Own3.drewN {w : World} {B : Nat} {A : Option Addr} {c : Nat} {zs : List Int} (h : Own3 w B A c zs) (n : Nat) : Own3 (w.drewN n) B A c zs := h
theorem Own3.blk {w : World} {B k : Nat} {A : Option Addr} {c : Nat} {xs : List Int} (h : Own3 w B A c xs) (hk : ofA A = some k) : B ≤ k ∧ k < w.heap.size := by
  rcases h with h | ⟨M, rfl, rfl, _, hM, h⟩
  · exact own_blk h hk
  · obtain rfl : M = k := by simpa [ofA] using hk
    exact ⟨hM, h.lt⟩
theorem Own3.keepb {w w' : World} {B : Nat} {A : Option Addr} {c : Nat} {zs : List Int} (h : Own3 w B A c zs) (hb : ∀ g, ofA A = some g → w'.heap[g]? = w.heap[g]?) : Own3 w' B A c zs := by
  rcases h with h | ⟨M, rfl, rfl, hl, hB, h⟩
  · exact .inl (own_keepb h hb)
  · exact .inr ⟨M, rfl, rfl, hl, hB, h.keep (hb M rfl)⟩
theorem Own3.grownBelow {w w' wa : World} {B B0 : Nat} {A0 : Option Addr} {c0 : Nat} {xs : List Int} (hb : Below B0 wa w) (ho : Own3 w B A0 c0 xs) (hs : B0 ≤ B) (hw : B0 ≤ w.heap.size) (hg : w.grownBy w' (ofA A0)) : Below B0 wa w' :=
  hb.grown hg hw (fun _ hk => Nat.le_trans hs (ho.blk hk).1)
theorem apart3 {wa wb : World} {B1 B2 : Nat} {A1 A2 : Option Addr} {c1 c2 : Nat} {xs ys : List Int} (h1 : Own wa B1 A1 c1 xs) (h2 : Own3 wb B2 A2 c2 ys) (hlt : wa.heap.size ≤ B2) : ofA A1 = none ∨ ofA A1 ≠ ofA A2 := by
  rcases hA : ofA A1 with _ | k
  · exact .inl rfl
  · refine .inr (fun hh => ?_)
    have l1 := (own_blk h1 hA).2
    have l2 := (h2.blk hh.symm).1
    omega
def Own3Is (w : World) (zs : List Int) (e : Ending) (w' : World) : Prop := ∃ A c, e = .returned (.slice A zs.length c) ∧ Own3 w' w.heap.size A c zs ∧ Below w.heap.size w w'

end Go.Proofs.Ytfjncipekjnbjaa
