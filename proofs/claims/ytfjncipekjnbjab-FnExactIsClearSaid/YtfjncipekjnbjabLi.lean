/-
  Chapter 7: whether the wanted sets of all bidders can be served, plain.
-/
import Derived.Test.YtfjncipekjnbjabLa
import Derived.Test.YtfjncipekjnbjabJt
import Derived.Test.YtfjncipekjnbjabLh
namespace Go.Proofs.Ytfjncipekjnbjab
open Go.RowKit

theorem sub_iff {l s : Nat} (hs : s < 8) : s ∈ subs l ↔ (s - (s &&& l) == 0) = true := by
  have hle : s &&& l ≤ s := Nat.and_le_left
  constructor
  · intro h; rw [subs_and h]; simp
  · intro h
    have h1 : s - (s &&& l) = 0 := by simpa using h
    have h2 : s &&& l = s := by omega
    simp [subs, hs, h2]
theorem svA_iff {p : List Int} {f : Nat} : ∀ {ts : List (List Int)} {X : Nat}, X < 8 → (∀ Y, Y < 8 → ((Y - (Y &&& f) == 0) = true ↔ pr p Y = 0)) → (svA (ts.map (fun t => dm t p)) X f = true ↔ Clr ts p X) := by
  intro ts
  induction ts with
  | nil => intro X hX hf; exact hf X hX
  | cons t ts ih =>
    intro X hX hf
    rw [List.map_cons, svA_cons, List.any_eq_true]
    constructor
    · rintro ⟨x, hx, h⟩
      obtain ⟨s, rfl, hs8, he⟩ := dm_mem.1 hx
      unfold svO at h
      obtain ⟨h1, h2⟩ := Bool.and_eq_true_iff.1 h
      rw [Int.toNat_natCast] at h1 h2
      have hs := (sub_iff hs8).2 h1
      rw [Nat.and_comm, subs_and hs] at h2
      exact ⟨s, hs, he, (ih (sub_lt hX hs) hf).1 h2⟩
    · rintro ⟨s, hs, he, h2⟩
      have hs8 := subs_lt hs
      refine ⟨(s : Int), dm_mem.2 ⟨s, rfl, hs8, he⟩, ?_⟩
      unfold svO
      rw [Int.toNat_natCast]
      refine Bool.and_eq_true_iff.2 ⟨(sub_iff hs8).1 hs, ?_⟩
      rw [Nat.and_comm, subs_and hs]
      exact (ih (sub_lt hX hs) hf).2 h2
theorem free_iff {p : List Int} (hp : VP p) : ∀ Y, Y < 8 → ((Y - (Y &&& sm p [0, 0, 0]) == 0) = true ↔ pr p Y = 0) := by
  intro Y hY
  obtain ⟨a, b, c⟩ := hp.all
  obtain ⟨v0, v1, v2, v3, v4, v5, v6, v7⟩ := pr_vals p
  have z0 : T [0, 0, 0] 0 = 0 := rfl
  have z1 : T [0, 0, 0] 1 = 0 := rfl
  have z2 : T [0, 0, 0] 2 = 0 := rfl
  have hs : sm p [0, 0, 0] = (if T p 0 = 0 then 1 else 0) + (if T p 1 = 0 then 2 else 0) + (if T p 2 = 0 then 4 else 0) := by
    unfold sm
    simp only [smTo, z0, z1, z2]
    split <;> split <;> split <;> simp
  rw [hs]
  by_cases h0 : T p 0 = 0 <;> by_cases h1 : T p 1 = 0 <;> by_cases h2 : T p 2 = 0 <;> simp only [h0, h1, h2, if_true, if_false] <;>
    rcases nat8 hY with rfl | rfl | rfl | rfl | rfl | rfl | rfl | rfl <;> simp <;> omega
theorem served {ts : List (List Int)} {p : List Int} (hv : VTs ts) (hp : VP p) : svA (ts.map (fun t => dm t p)) 7 (sm p [0, 0, 0]) = true ↔ lo ts p = sv ts 7 := by
  rw [svA_iff (by omega) (free_iff hp), clr_load (fun t ht => (hv.2 t ht).2.1) hp]

end Go.Proofs.Ytfjncipekjnbjab
