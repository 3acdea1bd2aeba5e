/-
  The laws of chapter 4: the law of SplitWorth.
-/
import Derived.Test.YtccbjgajmjcpjaaGQ
import Derived.Test.YtccbjgajmjcpjaaQg
import Derived.Test.YtccbjgajmjcpjaaWz
namespace Go.Proofs.Ytccbjgajmjcpjaa
open Go.RowKit Go.Lib

theorem eight_of {ps : List (Nat × Nat × List Int)} (hl : ps.length ≤ 4) (h : ∀ p ∈ ps, p.2.2.length ≤ 8) : (ps.map (·.2.2)).length ≤ 4 ∧ ∀ r ∈ ps.map (·.2.2), r.length ≤ 8 :=
  ⟨by simpa using hl, fun r hr => by obtain ⟨p, hp, rfl⟩ := List.mem_map.1 hr; exact h p hp⟩
/-- What is drawn: tables and a set. -/
def DrawnS (w : World) (e : Ending) (w' : World) : Prop :=
  ∃ (A : Option Addr) (c : Nat) (rows : List (List Int)) (n : Int), e = .returned (.tuple #[.slice A rows.length c, .int .i64 n]) ∧ RdR w' A c rows ∧ rows.length ≤ 4 ∧ (∀ r ∈ rows, r.length ≤ 8) ∧ -1 ≤ n ∧ n ≤ 8 ∧ Below w.heap.size w w'

theorem spF_yes {rows : List (List Int)} {x : Int} (hv : VTs rows) (h0 : 0 ≤ x) (h7 : x ≤ 7) : spF rows x = sv rows x.toNat := by
  unfold spF; rw [if_pos ⟨vtsB_true hv, h0, h7⟩]
theorem spF_no {rows : List (List Int)} {x : Int} (h : ¬ (VTs rows ∧ 0 ≤ x ∧ x ≤ 7)) : spF rows x = -1 := by
  unfold spF; rw [if_neg]; exact fun hh => h ⟨vtsB_iff.1 hh.1, hh.2⟩
theorem spF_neg {rows : List (List Int)} {x : Int} : spF rows x < 0 ↔ ¬ (VTs rows ∧ 0 ≤ x ∧ x ≤ 7) := by
  constructor
  · rintro h ⟨h1, h2, h3⟩
    rw [spF_yes h1 h2 h3] at h
    have := sv_nonneg rows x.toNat
    omega
  · intro h; rw [spF_no h]; decide
/-- What the law says of tables and a set. -/
structure SplitSays (rows : List (List Int)) (x : Int) : Prop where
  less : ∀ j, j < 3 → x.toNat / 2 ^ j % 2 = 1 → spF rows (x - ((2 ^ j : Nat) : Int)) ≤ spF rows x
  all : spF rows 7 = bwF rows
  le : spF rows x ≤ bwF rows
  fewer : spF (rows.take (rows.length - 1)) x ≤ spF rows x
theorem split_says {rows : List (List Int)} {x : Int} (hv : VTs rows) (h0 : 0 ≤ x) (h7 : x ≤ 7) : SplitSays rows x := by
  have hz : ∀ t ∈ rows, T t 0 = 0 := fun t ht => (hv.2 t ht).2.1
  obtain ⟨s, rfl⟩ := Int.eq_ofNat_of_zero_le h0
  have hs : s < 8 := by omega
  have hx := spF_yes hv h0 h7
  have hall : spF rows 7 = bwF rows := by
    rw [spF_yes hv (by omega) (by omega)]
    unfold bwF
    rw [if_pos hv, wayF_worth hz hv.1.2]
    rfl
  refine ⟨fun j hj hb => ?_, hall, ?_, ?_⟩
  · have hb : s / 2 ^ j % 2 = 1 := hb
    have h3 : 2 ^ j ≤ s := by
      rcases Nat.lt_or_ge s (2 ^ j) with h | h
      · rw [Nat.div_eq_of_lt h] at hb; simp at hb
      · exact h
    have hn : ((s : Int) - ((2 ^ j : Nat) : Int)) = ((s - 2 ^ j : Nat) : Int) := by omega
    have h87 : s - 2 ^ j ≤ 7 := Nat.le_trans (Nat.sub_le _ _) (by omega)
    rw [hn, hx, spF_yes hv (Int.natCast_nonneg _) (by exact_mod_cast h87)]
    refine sv_more hz (by simpa using hs) ?_
    show ((s - 2 ^ j : Nat) : Int).toNat ∈ subs ((s : Int).toNat)
    rw [Int.toNat_natCast, Int.toNat_natCast]
    rcases nat8 hs with rfl | rfl | rfl | rfl | rfl | rfl | rfl | rfl <;> rcases nat3 hj with rfl | rfl | rfl <;> first | decide | (exfalso; revert hb; decide)
  · rw [← hall, hx, spF_yes hv (by omega) (by omega)]
    refine sv_more hz (by decide) ?_
    rw [Int.toNat_natCast]
    have : ∀ s, s < 8 → s ∈ subs 7 := by decide
    exact this s hs
  · rw [hx]
    by_cases h1 : rows.length = 1
    · rw [spF_no]
      · have := sv_nonneg rows (s : Int).toNat; omega
      · rintro ⟨⟨⟨hh, _⟩, _⟩, _⟩
        rw [List.length_take, h1] at hh
        simp at hh
    · obtain ⟨i, t, rfl⟩ : ∃ i t, rows = i ++ [t] := ⟨rows.dropLast, rows.getLast (by intro e; rw [e] at hv; simpa using hv.1.1), (List.dropLast_concat_getLast _).symm⟩
      have ht : (i ++ [t]).take ((i ++ [t]).length - 1) = i := by simp
      have hl := hv.1
      simp at hl h1
      have hvi : VTs i := ⟨⟨by cases i <;> simp_all, by omega⟩, fun u hu => hv.2 u (by simp [hu])⟩
      rw [ht, spF_yes hvi h0 h7]
      exact sv_last (fun u hu => hz u (by simp [hu])) (hz t (by simp)) (by simpa using hs)

end Go.Proofs.Ytccbjgajmjcpjaa
