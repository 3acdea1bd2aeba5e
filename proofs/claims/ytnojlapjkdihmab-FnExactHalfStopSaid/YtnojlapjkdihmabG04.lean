/-
  Rows that came in as an argument; what the exact laws' walks of chapter 3 have in common.
-/
import Derived.Test.YtnojlapjkdihmabG03
import Derived.Test.YtnojlapjkdihmabMem
import Derived.Test.YtnojlapjkdihmabG01
import Derived.Deep.AppendLies
import Derived.Deep.RegionLaw
namespace Go.Proofs.Ytnojlapjkdihmab
open Go.RowKit

/-- The slice (A, as long as rows) came in with capacity c and reads as rows of ints. -/
def CameR (w : World) (A : Option Addr) (c : Nat) (rows : List (List Int)) : Prop := RdR w A c rows ∧ rows.length ≤ maxLen ∧ ∀ r ∈ rows, r.length ≤ maxLen

theorem CameR.nil (w : World) : CameR w none 0 [] := ⟨RdR.nil w, by simp, fun _ h => absurd h (by simp)⟩
theorem addr_addR (b off j : Nat) : (⟨b, off, none⟩ : Addr).add j = ⟨b, off + j, none⟩ := by unfold Addr.add; split <;> simp_all
theorem CameR.of {w : World} {x : Addr} {len cap base : Nat} {Af : Nat → Option Addr} {L C : Nat → Nat} {Z : Nat → List Int} (hl : len ≤ cap) (hm : cap ≤ maxLen)
    (h : ∀ r, r < cap → w.cell? (x.add r) = some (.slice (Af r) (L r) (C r)) ∧ L r ≤ C r ∧ C r ≤ maxLen ∧ (Z r).length = C r ∧ (∀ n ∈ Z r, (Lit.int .i64 n).wf = true) ∧ (Af r = none → C r = 0) ∧
      ∀ a', Af r = some a' → base ≤ a'.block ∧ ∀ c, c < C r → w.cell? (a'.add c) = some (.int .i64 ((Z r).getD c 0))) :
    ∃ rows, len = rows.length ∧ CameR w (some x) cap rows := by
  refine ⟨(List.range len).map (fun r => (Z r).take (L r)), by simp, ⟨by simpa using hl, ?_⟩, by simp; omega, ?_⟩
  · rcases Nat.eq_zero_or_pos len with h0 | h0
    · subst h0
      exact .inl ⟨by simp, fun h => by cases h⟩
    · obtain ⟨b, off, spot⟩ := x
      have hs : spot = none := by have := (h 0 (by omega)).1; simpa [Addr.add] using World.cell?_spot this
      subst hs
      refine .inr ⟨b, off, rfl, fun k r hk => ?_⟩
      have hkl : k < len := by have := (List.getElem?_eq_some_iff.1 hk).1; simpa using this
      have hr : r = (Z k).take (L k) := by simp [hkl] at hk; exact hk.symm
      obtain ⟨h1, h2, h3, h4, _, h6, h7⟩ := h k (by omega)
      rw [addr_addR] at h1
      have hrl : r.length = L k := by rw [hr, List.length_take]; omega
      refine ⟨_, h1, Af k, C k, by rw [hrl], by omega, ?_⟩
      cases hA : Af k with
      | none =>
        have := h6 hA
        exact .inl ⟨List.eq_nil_of_length_eq_zero (by omega), fun _ => this⟩
      | some a' =>
        obtain ⟨_, h8⟩ := h7 a' hA
        rcases Nat.eq_zero_or_pos (L k) with hz | hz
        · exact .inl ⟨List.eq_nil_of_length_eq_zero (by omega), fun h => by cases h⟩
        · obtain ⟨b', off', spot'⟩ := a'
          have hs' : spot' = none := by simpa [Addr.add] using World.cell?_spot (h8 0 (by omega))
          subst hs'
          refine .inr ⟨b', off', rfl, fun j hj => ?_⟩
          have := h8 j (by omega)
          rw [addr_addR] at this
          rw [this, hr]
          simp [show j < L k by omega]
  · intro r hr
    obtain ⟨k, hk, rfl⟩ := List.mem_map.1 hr
    have hk := List.mem_range.1 hk
    have := h k (by omega)
    rw [List.length_take]
    omega

theorem szR_len {rows : List (List Int)} (h : szR rows ≤ 1048576) : rows.length ≤ 1048576 := by unfold szR at h; omega
theorem szR_each {rows : List (List Int)} (h : szR rows ≤ 1048576) : ∀ r ∈ rows, r.length ≤ 1099511627776 := by
  intro r hr
  obtain ⟨k, hk, rfl⟩ := List.getElem_of_mem hr
  have h1 := flat_take (List.getElem?_eq_getElem hk)
  have h2 := flat_le (rows := rows) (k + 1)
  unfold szR at h
  omega
theorem nums_sz {ps : List (Nat × Nat × List Int)} {rows : List (List Int)} (hm : ps.map (·.2.2) = rows) (h : szR rows ≤ 1048576) : ps.length ≤ 1048576 ∧ numsU ps ≤ 1048576 ∧ ∀ p ∈ ps, p.2.2.length ≤ 1099511627776 := by
  have h1 := numsU_flat ps
  have h2 := congrArg List.length hm
  rw [List.length_map] at h2
  unfold szR at h
  rw [hm] at h1
  refine ⟨by omega, by omega, fun p hp => ?_⟩
  have := numsU_mem hp
  omega
theorem own_bk {w : World} {B k : Nat} {A : Option Addr} {c : Nat} {xs : List Int} (h : Own w B A c xs) (hk : ofA A = some k) : B ≤ k ∧ k < w.heap.size :=
  World.ownsRow.lt h k (by rw [own_block]; exact hk)

end Go.Proofs.Ytnojlapjkdihmab

/-
  Chapter 1, bids: the contracts of ValidBids, of the program and of the model, and of what they call.
-/
namespace Go.Proofs.Ytnojlapjkdihmab
open Go.RowKit

/-- A number in a range. -/
def inR (n lo hi : Int) : Bool := decide (lo ≤ n) && decide (n ≤ hi)
theorem inR_true {n lo hi : Int} : inR n lo hi = true ↔ lo ≤ n ∧ n ≤ hi := by simp [inR]
theorem inR_false {n lo hi : Int} : inR n lo hi = false ↔ ¬ (lo ≤ n ∧ n ≤ hi) := by simp [inR]

/-- Numbers are bids. -/
def vB (xs : List Int) : Bool := inR xs.length 1 6 && xs.all (fun x => inR x 0 30)

theorem inRange_any (n lo hi : Int) (w : World) :
    Calls Try.prog 45 #[.int .i64 n, .int .i64 lo, .int .i64 hi] w fun e w' => e = .returned (.bool (inR n lo hi)) ∧ w = w' := by
  by_cases h1 : lo ≤ n
  · by_cases h2 : n ≤ hi
    · have HE := Lib.hid (inR_true.2 ⟨h1, h2⟩)
      go_enter Try.func45, Try.ntmps45
      go_wp2
      go_ret
      exact ⟨by rw [HE.out]; rfl, rfl⟩
    · have HE := Lib.hid (inR_false.2 (fun h : lo ≤ n ∧ n ≤ hi => h2 h.2))
      go_enter Try.func45, Try.ntmps45
      go_wp2
      go_ret
      exact ⟨by rw [HE.out]; rfl, rfl⟩
  · have HE := Lib.hid (inR_false.2 (fun h : lo ≤ n ∧ n ≤ hi => h1 h.1))
    go_enter Try.func45, Try.ntmps45
    go_wp2
    go_ret
    exact ⟨by rw [HE.out]; rfl, rfl⟩

theorem all_at {xs : List Int} {p : Int → Bool} {k : Nat} {x : Int} (hx : xs[k]? = some x) (h : p x = false) : xs.all p = false := by
  rw [List.all_eq_false]
  exact ⟨x, List.mem_of_getElem? hx, by simp [h]⟩
theorem all_step {xs : List Int} {p : Int → Bool} {k : Nat} {x : Int} (hx : xs[k]? = some x) (h : p x = true) (ht : (xs.take k).all p = true) : (xs.take (k + 1)).all p = true := by
  rw [List.take_add_one, hx]; simp at ht ⊢; exact ⟨ht, h⟩
theorem vB_bad {xs : List Int} (h : xs.all (fun x => inR x 0 30) = false) : vB xs = false := by simp only [vB, h, Bool.and_false]
theorem vB_all {xs : List Int} (h : (xs.take xs.length).all (fun x => inR x 0 30) = true) : vB xs = inR xs.length 1 6 := by
  rw [List.take_length] at h; simp only [vB, h, Bool.and_true]
theorem vB_len {xs : List Int} (h : inR xs.length 1 6 = false) : vB xs = false := by simp only [vB, h, Bool.false_and]

end Go.Proofs.Ytnojlapjkdihmab

/-
  Chapter 1, the model: the contracts of greatest and withBid.
-/
namespace Go.Proofs.Ytnojlapjkdihmab
open Go.RowKit

end Go.Proofs.Ytnojlapjkdihmab

/-
  Chapter 1, the model: the contract of nth.
-/
namespace Go.Proofs.Ytnojlapjkdihmab
open Go.RowKit

end Go.Proofs.Ytnojlapjkdihmab
