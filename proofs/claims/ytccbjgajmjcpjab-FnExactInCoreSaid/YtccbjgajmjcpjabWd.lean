/-
  The best way to give three things to bidders, the first of the best: what both sides' loops over all ways come to.
-/
import Derived.Test.YtccbjgajmjcpjabNa
import Derived.Test.YtccbjgajmjcpjabWa
namespace Go.Proofs.Ytccbjgajmjcpjab

/-- The better of the best so far and one more. -/
def pick (f : List Int → Int) (o : Option (List Int)) (x : List Int) : Option (List Int) := match o with
  | none => some x
  | some b => if f b < f x then some x else some b
def bestA (f : List Int → Int) (L : List (List Int)) : Option (List Int) := L.foldl (pick f) none
theorem bestA_snoc (f : List Int → Int) (L : List (List Int)) (x : List Int) : bestA f (L ++ [x]) = pick f (bestA f L) x := by simp [bestA]
theorem bestA_first (f : List Int → Int) (x : List Int) : bestA f [x] = some x := rfl
theorem bestA_some {f : List Int → Int} : ∀ {n : Nat} {L : List (List Int)}, L.length = n → L ≠ [] → ∃ b, bestA f L = some b ∧ b ∈ L ∧ ∀ x ∈ L, f x ≤ f b := by
  intro n
  induction n with
  | zero => intro L h hne; exact absurd (List.eq_nil_of_length_eq_zero h) hne
  | succ n ih =>
    intro L h hne
    obtain ⟨i, x, rfl⟩ : ∃ i x, L = i ++ [x] := ⟨L.dropLast, L.getLast hne, (List.dropLast_concat_getLast hne).symm⟩
    rw [bestA_snoc]
    by_cases hi : i = []
    · subst hi; exact ⟨x, rfl, by simp, by simp⟩
    · obtain ⟨b, hb, hm, hle⟩ := ih (by simpa using h) hi
      rw [hb]
      show ∃ c, (if f b < f x then some x else some b) = some c ∧ _
      by_cases hlt : f b < f x
      · refine ⟨x, by rw [if_pos hlt], by simp, fun y hy => ?_⟩
        rcases List.mem_append.1 hy with hy | hy
        · have := hle y hy; omega
        · simp at hy; rw [hy]; omega
      · refine ⟨b, by rw [if_neg hlt], by simp [hm], fun y hy => ?_⟩
        rcases List.mem_append.1 hy with hy | hy
        · exact hle y hy
        · simp at hy; rw [hy]; omega

/-- What is done of all ways, and what comes next. -/
def DoneTo (n : Nat) (L : List (List Int)) : Option (List Int) → Prop
  | some ys => allF (n : Int) (List.replicate 3 0) = L ++ allF (n : Int) ys
  | none => allF (n : Int) (List.replicate 3 0) = L
theorem DoneTo.start (n : Nat) : DoneTo n [] (some (List.replicate 3 0)) := by show allF _ _ = _; simp
theorem DoneTo.step {n : Nat} {L : List (List Int)} {ys : List Int} (h : DoneTo n L (some ys)) (hf : Fit n 3 ys) : DoneTo n (L ++ [ys]) (nextF ys n) := by
  have h : allF (n : Int) (List.replicate 3 0) = _ := h
  cases hn : nextF ys n with
  | none => rw [allF_last hn] at h; exact h
  | some zs => rw [allF_next (by omega) hf.2 hn] at h; show allF _ _ = _; rw [h]; simp

theorem ways_all : ((List.range 5).all fun t => (List.range (t + 1)).all fun x => (List.range (t + 1)).all fun y => (List.range (t + 1)).all fun z => (allF (t : Int) [0, 0, 0]).elem [(x : Int), (y : Int), (z : Int)]) = true := by decide +kernel
theorem ways_come {n : Nat} {x y z : Int} (hn : n ≤ 4) (hx : 0 ≤ x ∧ x ≤ n) (hy : 0 ≤ y ∧ y ≤ n) (hz : 0 ≤ z ∧ z ≤ n) : [x, y, z] ∈ allF (n : Int) (List.replicate 3 0) := by
  have h := ways_all
  rw [List.all_eq_true] at h
  have h := h n (by simp; omega)
  rw [List.all_eq_true] at h
  have h := h x.toNat (by simp; omega)
  rw [List.all_eq_true] at h
  have h := h y.toNat (by simp; omega)
  rw [List.all_eq_true] at h
  have h := h z.toNat (by simp; omega)
  rw [show ((x.toNat : Nat) : Int) = x by omega, show ((y.toNat : Nat) : Int) = y by omega, show ((z.toNat : Nat) : Int) = z by omega] at h
  exact List.elem_iff.1 h

/-- The best way. -/
noncomputable def wayF (ts : List (List Int)) : List Int := (bestA (worthF ts) (allF (ts.length : Int) (List.replicate 3 0))).getD []
theorem allF_ne (n : Nat) : allF (n : Int) (List.replicate 3 0) ≠ [] := by unfold allF; rw [runF]; simp
theorem wayF_is (ts : List (List Int)) : bestA (worthF ts) (allF (ts.length : Int) (List.replicate 3 0)) = some (wayF ts) := by
  obtain ⟨b, hb, _⟩ := bestA_some (f := worthF ts) rfl (allF_ne ts.length)
  unfold wayF
  rw [hb]; rfl
/-- What the best way is worth is the best worth of all things. -/
theorem wayF_worth {ts : List (List Int)} (hz : ∀ t ∈ ts, T t 0 = 0) (hn : ts.length ≤ 4) : worthF ts (wayF ts) = sv ts 7 := by
  obtain ⟨b, hb, hm, hle⟩ := bestA_some (f := worthF ts) rfl (allF_ne ts.length)
  have hw := wayF_is ts
  rw [hb] at hw
  injection hw with hw
  rw [← hw]
  apply Int.le_antisymm
  · have h8 := ge_lt 0 (b.getD 0 0) (b.getD 1 0) (b.getD 2 0)
    have hm7 : ge 0 (b.getD 0 0) (b.getD 1 0) (b.getD 2 0) ∈ subs 7 := by
      have h7 : ∀ x, x < 8 → x ∈ subs 7 := by decide
      exact h7 _ h8
    exact got_le (got_more (by omega) hm7 (wk_got ts _ _ _ 0))
  · obtain ⟨x, y, z, hx, hy, hz', _, _, _, he⟩ := got_wk ts 7 0 _ (by omega) (got_sv hz 7)
    have hmem := ways_come (n := ts.length) hn (x := x) (y := y) (z := z) (by omega) (by omega) (by omega)
    have := hle _ hmem
    unfold worthF at this ⊢
    simp at this he ⊢
    omega
theorem wayF_mem (ts : List (List Int)) : wayF ts ∈ allF (ts.length : Int) (List.replicate 3 0) := by
  obtain ⟨b, hb, hm, _⟩ := bestA_some (f := worthF ts) rfl (allF_ne ts.length)
  have hw := wayF_is ts
  rw [hb] at hw
  injection hw with hw
  rw [← hw]; exact hm

end Go.Proofs.Ytccbjgajmjcpjab
