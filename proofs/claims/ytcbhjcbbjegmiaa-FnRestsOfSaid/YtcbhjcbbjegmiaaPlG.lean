/-
  Chapter 1 in plain arithmetic: at a rest no other bid has more; all bids come; by second the values rest.
-/
import Derived.Test.YtcbhjcbbjegmiaaGridS
namespace Go.Proofs.Ytcbhjcbbjegmiaa

theorem rest_low {kd t n i k : Nat} {vs b : List Int} {v : Int} (h : b ∈ restsF kd vs n t) (hi : i < b.length) (hv : vs[i]? = some v) (hk : k ≤ t) : gB kd b i v 0 k ≤ gainF kd b i v 0 := by
  have h1 : restF kd vs b t = true := (List.mem_filter.1 h).2
  unfold restF at h1
  rw [List.all_eq_true] at h1
  have h2 := h1 i (List.mem_range.2 hi)
  unfold restAt at h2
  rw [List.all_eq_true, getD_of hv] at h2
  have h3 := h2 k (List.mem_range.2 (by omega))
  simpa using h3

theorem all_one : ((List.range 6).all fun t => (List.range (t + 1)).all fun x => (allF (t : Int) [0]).elem [(x : Int)]) = true := by decide +kernel
theorem all_two : ((List.range 6).all fun t => (List.range (t + 1)).all fun x => (List.range (t + 1)).all fun y => (allF (t : Int) [0, 0]).elem [(x : Int), (y : Int)]) = true := by decide +kernel
theorem all_three : ((List.range 6).all fun t => (List.range (t + 1)).all fun x => (List.range (t + 1)).all fun y => (List.range (t + 1)).all fun z => (allF (t : Int) [0, 0, 0]).elem [(x : Int), (y : Int), (z : Int)]) = true := by decide +kernel

theorem all_come {n t : Nat} {vs : List Int} (hf : Fit t n vs) (h1 : 1 ≤ n) (h3 : n ≤ 3) (ht : t ≤ 5) : vs ∈ allF t (List.replicate n 0) := by
  obtain ⟨hl, hb⟩ := hf
  subst hl
  match vs, h1, h3, hb with
  | [x], _, _, hb =>
    have hx := hb x (by simp)
    obtain ⟨x, rfl⟩ := Int.eq_ofNat_of_zero_le hx.1
    have h := all_one
    rw [List.all_eq_true] at h
    have h := h t (List.mem_range.2 (by omega))
    rw [List.all_eq_true] at h
    exact List.elem_iff.1 (h x (List.mem_range.2 (by omega)))
  | [x, y], _, _, hb =>
    have hx := hb x (by simp)
    have hy := hb y (by simp)
    obtain ⟨x, rfl⟩ := Int.eq_ofNat_of_zero_le hx.1
    obtain ⟨y, rfl⟩ := Int.eq_ofNat_of_zero_le hy.1
    have h := all_two
    rw [List.all_eq_true] at h
    have h := h t (List.mem_range.2 (by omega))
    rw [List.all_eq_true] at h
    have h := h x (List.mem_range.2 (by omega))
    rw [List.all_eq_true] at h
    exact List.elem_iff.1 (h y (List.mem_range.2 (by omega)))
  | [x, y, z], _, _, hb =>
    have hx := hb x (by simp)
    have hy := hb y (by simp)
    have hz := hb z (by simp)
    obtain ⟨x, rfl⟩ := Int.eq_ofNat_of_zero_le hx.1
    obtain ⟨y, rfl⟩ := Int.eq_ofNat_of_zero_le hy.1
    obtain ⟨z, rfl⟩ := Int.eq_ofNat_of_zero_le hz.1
    have h := all_three
    rw [List.all_eq_true] at h
    have h := h t (List.mem_range.2 (by omega))
    rw [List.all_eq_true] at h
    have h := h x (List.mem_range.2 (by omega))
    rw [List.all_eq_true] at h
    have h := h y (List.mem_range.2 (by omega))
    rw [List.all_eq_true] at h
    exact List.elem_iff.1 (h z (List.mem_range.2 (by omega)))
  | [], h1, _, _ => simp at h1
  | _ :: _ :: _ :: _ :: _, _, h3, _ => simp at h3

theorem second_in {t : Nat} {vs : List Int} (hf : Fit t vs.length vs) (h1 : 1 ≤ vs.length) (h3 : vs.length ≤ 3) (ht : t ≤ 5) : vs ∈ restsF 2 vs vs.length t := by
  refine List.mem_filter.2 ⟨all_come hf h1 h3 ht, ?_⟩
  unfold restF
  rw [List.all_eq_true]
  intro i hi
  have hi : i < vs.length := List.mem_range.1 hi
  obtain ⟨x, hx⟩ := at_some hi
  unfold restAt
  rw [List.all_eq_true, getD_of hx]
  intro b _
  rw [decide_eq_true_eq]
  have := truth_best (xs := vs) (i := i) (v := x) (r := 0) (b := b) hi (hf.2 x (List.mem_of_getElem? hx)).1
  rw [set_own hx] at this
  exact this

end Go.Proofs.Ytcbhjcbbjegmiaa
