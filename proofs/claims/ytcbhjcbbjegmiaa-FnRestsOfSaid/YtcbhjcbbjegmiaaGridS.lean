/-
  Lists of rows: what their value looks like, how many there are.
-/
import Derived.Test.YtcbhjcbbjegmiaaGridD
import Derived.Test.YtcbhjcbbjegmiaaPlE
namespace Go.Proofs.Ytcbhjcbbjegmiaa
open Go.RowKit

theorem RowsIn.shape {w : World} {B : Nat} {v : Value} {ps : List (Nat × Nat × List Int)} (h : RowsIn w B v ps) :
    (ps = [] ∧ v = .slice none 0 0) ∨ ∃ g c, v = .slice (some ⟨g, 0, none⟩) ps.length c ∧ ∀ k p, ps[k]? = some p → w.cell? ⟨g, k, none⟩ = some (slOf p) := by
  have hr := h.row
  rcases hr.2 with ⟨hv, hn⟩ | ⟨g, cap, cur, hv, _⟩
  · exact .inl ⟨List.eq_nil_of_length_eq_zero hn, hv⟩
  · subst hv
    refine .inr ⟨g, cap, rfl, fun k p hk => ?_⟩
    have := World.ownsRow.cellAt hr k (by have := (List.getElem?_eq_some_iff.1 hk).1; omega)
    rw [this, List.getElem?_map, hk]; rfl

theorem RowsIn.cell_of {w : World} {B g c n k : Nat} {ps : List (Nat × Nat × List Int)} {p : Nat × Nat × List Int} (h : RowsIn w B (.slice (some ⟨g, 0, none⟩) n c) ps) (hk : ps[k]? = some p) : w.cell? ⟨g, k, none⟩ = some (slOf p) := by
  rcases h.shape with ⟨rfl, hv⟩ | ⟨g', c', hv, hc⟩
  · cases hv
  · injection hv with hA _ _
    injection hA with hA
    injection hA with hA
    subst hA
    exact hc k p hk
theorem runF_len (top : Int) : ∀ (m : Nat) (xs : List Int), (runF top m xs).length ≤ m
  | 0, _ => by simp [runF]
  | m + 1, xs => by
    rw [runF]
    cases nextF xs top with
    | none => simp
    | some ys => simpa using runF_len top m ys
theorem restsF_len {kd n top : Nat} {vs : List Int} (hn : n ≤ 3) (ht : top ≤ 5) : (restsF kd vs n top).length ≤ 1000 := by
  have h1 := List.length_filter_le (fun b => restF kd vs b top) (allF top (List.replicate n 0))
  have h2 : (allF top (List.replicate n 0)).length ≤ _ := runF_len top _ _
  have h3 := left_zero hn ht
  unfold restsF
  omega

theorem rests_fit {kd n t : Nat} {vs b : List Int} (h : b ∈ restsF kd vs n t) : Fit t n b := allF_fit (Fit.zero t n) (List.mem_filter.1 h).1

/-- RestsOf of both sides, and what bounds the answer. -/
theorem RestsOf_laid (s : ByteArray) (vs : List Int) (top : Int) (hl : vs.length ≤ 1048576) :
    ∃ rs : List (List Int), (∀ A c w, Rd w A c vs → Calls Try.prog 34 #[.string s, .slice A vs.length c, .int .i64 top] w (GridIs w rs)) ∧
      (∀ A c w, Rd w A c vs → Calls Try.prog 32 #[.string s, .slice A vs.length c, .int .i64 top] w (GridIs w rs)) ∧
      rs.length ≤ 1000 ∧ (∀ b ∈ rs, b.length ≤ 3) ∧
      ((∃ (kd t : Nat), KindIs s kd ∧ vB vs = true ∧ vs.length ≤ 3 ∧ top = (t : Int) ∧ t ≤ 5 ∧ rs = restsF kd vs vs.length t) ∨ rs = []) := by
  obtain ⟨rs, hS, hI, hc⟩ := RestsOf_both s vs top hl
  refine ⟨rs, hS, hI, ?_, ?_, hc⟩
  · rcases hc with ⟨kd, t, _, _, h3, _, h5, rfl⟩ | rfl
    · exact restsF_len h3 h5
    · simp
  · rcases hc with ⟨kd, t, _, _, h3, _, h5, rfl⟩ | rfl
    · intro b hb
      have := (rests_fit hb).1
      omega
    · simp

end Go.Proofs.Ytcbhjcbbjegmiaa
