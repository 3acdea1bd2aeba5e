/-
  Chapter 1 in plain arithmetic: bids one after the other; where all rest.
-/
import Derived.Test.YtcbhjcbbjegmiaaPlC
namespace Go.Proofs.Ytcbhjcbbjegmiaa

/-- The bids that follow, the least digit first; none behind the last. -/
def nextR : List Int → Int → Option (List Int)
  | [], _ => none
  | x :: xs, top => if x < top then some ((x + 1) :: xs) else (nextR xs top).map (0 :: ·)
def nextF (xs : List Int) (top : Int) : Option (List Int) := (nextR xs.reverse top).map List.reverse

theorem nextF_nil (top : Int) : nextF [] top = none := rfl
theorem nextF_snoc (xs : List Int) (x top : Int) : nextF (xs ++ [x]) top = if x < top then some (xs ++ [x + 1]) else (nextF xs top).map (· ++ [0]) := by
  unfold nextF
  rw [List.reverse_append]
  simp only [List.reverse_cons, List.reverse_nil, List.nil_append, List.singleton_append, nextR]
  split
  · simp
  · cases nextR xs.reverse top <;> simp

/-- How many are still to come. -/
def leftR : List Int → Int → Nat
  | [], _ => 0
  | x :: xs, top => (top - x).toNat + (top.toNat + 1) * leftR xs top
theorem leftR_lt : ∀ (xs ys : List Int) (top : Int), 0 ≤ top → (∀ x ∈ xs, 0 ≤ x ∧ x ≤ top) → nextR xs top = some ys → leftR ys top < leftR xs top ∧ (∀ x ∈ ys, 0 ≤ x ∧ x ≤ top) ∧ ys.length = xs.length
  | [], ys, top, _, _, h => by simp [nextR] at h
  | x :: xs, ys, top, h0, hx, h => by
    rw [nextR] at h
    have hxx := hx x (by simp)
    split at h
    · have h := Option.some.inj h
      subst h
      refine ⟨?_, ?_, by simp⟩
      · simp only [leftR]; omega
      · intro z hz
        rcases List.mem_cons.1 hz with h | h
        · subst h; omega
        · exact hx z (by simp [h])
    · cases hn : nextR xs top with
      | none => rw [hn] at h; simp at h
      | some zs =>
        rw [hn] at h
        have h : 0 :: zs = ys := by simpa using h
        subst h
        obtain ⟨h1, h2, h3⟩ := leftR_lt xs zs top h0 (fun z hz => hx z (by simp [hz])) hn
        refine ⟨?_, ?_, by simp [h3]⟩
        · simp only [leftR]
          have hxt : (top - x).toNat = 0 := by omega
          have h4 : (top - 0).toNat = top.toNat := by omega
          have h5 : leftR xs top = leftR zs top + 1 + (leftR xs top - leftR zs top - 1) := by omega
          rw [hxt, h4, h5, Nat.mul_add, Nat.mul_add]
          omega
        · intro z hz
          rcases List.mem_cons.1 hz with h | h
          · subst h; omega
          · exact h2 z h

def leftF (xs : List Int) (top : Int) : Nat := leftR xs.reverse top
theorem leftF_lt {xs ys : List Int} {top : Int} (h0 : 0 ≤ top) (hx : ∀ x ∈ xs, 0 ≤ x ∧ x ≤ top) (h : nextF xs top = some ys) : leftF ys top < leftF xs top ∧ (∀ x ∈ ys, 0 ≤ x ∧ x ≤ top) ∧ ys.length = xs.length := by
  unfold nextF at h
  cases hn : nextR xs.reverse top with
  | none => rw [hn] at h; simp at h
  | some zs =>
    rw [hn] at h
    have h : zs.reverse = ys := by simpa using h
    subst h
    obtain ⟨h1, h2, h3⟩ := leftR_lt xs.reverse zs top h0 (fun z hz => hx z (by simpa using hz)) hn
    exact ⟨by unfold leftF; rw [List.reverse_reverse]; exact h1, fun z hz => h2 z (by simpa using hz), by rw [List.length_reverse, h3, List.length_reverse]⟩

/-- All bids from xs on, at most n of them. -/
def runF (top : Int) : Nat → List Int → List (List Int)
  | 0, _ => []
  | n + 1, xs => xs :: (match nextF xs top with
    | some ys => runF top n ys
    | none => [])
/-- All bids from xs on. -/
def allF (top : Int) (xs : List Int) : List (List Int) := runF top (leftF xs top + 1) xs

theorem runF_more (top : Int) (h0 : 0 ≤ top) : ∀ (n m : Nat) (xs : List Int), (∀ x ∈ xs, 0 ≤ x ∧ x ≤ top) → leftF xs top < n → leftF xs top < m → runF top n xs = runF top m xs
  | 0, m, xs, _, h, _ => by omega
  | n + 1, 0, xs, _, _, h => by omega
  | n + 1, m + 1, xs, hx, h1, h2 => by
    rw [runF, runF]
    cases hn : nextF xs top with
    | none => rfl
    | some ys =>
      obtain ⟨h3, h4, _⟩ := leftF_lt h0 hx hn
      simp only
      rw [runF_more top h0 n m ys h4 (by omega) (by omega)]

theorem allF_next {xs ys : List Int} {top : Int} (h0 : 0 ≤ top) (hx : ∀ x ∈ xs, 0 ≤ x ∧ x ≤ top) (h : nextF xs top = some ys) : allF top xs = xs :: allF top ys := by
  obtain ⟨h3, h4, _⟩ := leftF_lt h0 hx h
  unfold allF
  rw [runF, h]
  simp only
  rw [runF_more top h0 (leftF xs top) (leftF ys top + 1) ys h4 h3 (by omega)]
theorem allF_last {xs : List Int} {top : Int} (h : nextF xs top = none) : allF top xs = [xs] := by unfold allF; rw [runF, h]

/-- Whether the bidder i has no more of another bid up to top. -/
def restAt (kd : Nat) (vals bids : List Int) (top i : Nat) : Bool := (List.range (top + 1)).all (fun b => decide (gB kd bids i (vals.getD i 0) 0 b ≤ gainF kd bids i (vals.getD i 0) 0))
/-- Whether all rest. -/
def restF (kd : Nat) (vals bids : List Int) (top : Nat) : Bool := (List.range bids.length).all (restAt kd vals bids top)

theorem range_step {p : Nat → Bool} {k : Nat} (h : (List.range k).all p = true) (hk : p k = true) : (List.range (k + 1)).all p = true := by
  rw [List.range_succ, List.all_append, h]; simp [hk]
theorem range_bad {p : Nat → Bool} {k n : Nat} (hk : k < n) (h : p k = false) : (List.range n).all p = false := by
  rw [List.all_eq_false]
  exact ⟨k, List.mem_range.2 hk, by simp [h]⟩

theorem restAt_best (kd : Nat) (vals bids : List Int) (top i : Nat) : restAt kd vals bids top i = decide ((bestF (gB kd bids i (vals.getD i 0) 0) top).2 ≤ gainF kd bids i (vals.getD i 0) 0) := by
  obtain ⟨h1, h2, h3, _⟩ := best_spec (gB kd bids i (vals.getD i 0) 0) top
  rw [Bool.eq_iff_iff]
  simp only [restAt, List.all_eq_true, List.mem_range, decide_eq_true_eq]
  constructor
  · intro h
    rw [← h2]
    exact h _ (by omega)
  · intro h b hb
    have := h3 b (by omega)
    omega

end Go.Proofs.Ytcbhjcbbjegmiaa
