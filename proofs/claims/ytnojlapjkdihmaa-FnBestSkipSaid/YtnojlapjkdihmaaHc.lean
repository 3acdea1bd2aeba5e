/-
  Chapter 11, plain: orders, the one that follows by size, what is taken when the first are left, in whole numbers.
-/
import Derived.Test.YtnojlapjkdihmaaHb
namespace Go.Proofs.Ytnojlapjkdihmaa

/-- The last place below k whose number is less than the one behind it. -/
def atO (xs : List Int) : Nat → Option Nat
  | 0 => none
  | k + 1 => if xs.getD (k + 1) 0 < xs.getD k 0 then atO xs k else some k
/-- The last place up to k whose number is at least p. -/
def othO (xs : List Int) (p : Int) : Nat → Nat
  | 0 => 0
  | k + 1 => if xs.getD (k + 1) 0 < p then othO xs p k else k + 1
def swapO (xs : List Int) (a o : Nat) : List Int := (xs.set a (xs.getD o 0)).set o (xs.getD a 0)
def turnO (xs : List Int) (a : Nat) : List Int := xs.take (a + 1) ++ (xs.drop (a + 1)).reverse
/-- The order that follows by size. -/
def nextO (xs : List Int) : Option (List Int) :=
  match atO xs (xs.length - 1) with
  | none => none
  | some a => some (turnO (swapO xs a (othO xs (xs.getD a 0) (xs.length - 1))) a)

theorem atO_lt {xs : List Int} : ∀ {k a : Nat}, atO xs k = some a → a < k ∧ xs.getD a 0 ≤ xs.getD (a + 1) 0
  | 0, a, h => by simp [atO] at h
  | k + 1, a, h => by
    rw [atO] at h
    split at h
    · have := atO_lt h; omega
    · injection h with h; subst h; omega
theorem atO_less {xs : List Int} {k : Nat} (h : xs.getD (k + 1) 0 < xs.getD k 0) : atO xs (k + 1) = atO xs k := by rw [atO, if_pos h]
theorem atO_here {xs : List Int} {k : Nat} (h : ¬ xs.getD (k + 1) 0 < xs.getD k 0) : atO xs (k + 1) = some k := by rw [atO, if_neg h]
theorem othO_less {xs : List Int} {p : Int} {k : Nat} (h : xs.getD (k + 1) 0 < p) : othO xs p (k + 1) = othO xs p k := by rw [othO, if_pos h]
theorem othO_here {xs : List Int} {p : Int} {k : Nat} (h : ¬ xs.getD (k + 1) 0 < p) : othO xs p (k + 1) = k + 1 := by rw [othO, if_neg h]
theorem swapO_len (xs : List Int) (a o : Nat) : (swapO xs a o).length = xs.length := by simp [swapO]
theorem turnO_len {xs : List Int} {a : Nat} : (turnO xs a).length = xs.length := by simp [turnO]; omega
theorem nextO_len {xs zs : List Int} (h : nextO xs = some zs) : zs.length = xs.length := by
  unfold nextO at h
  split at h
  · cases h
  · injection h with h; rw [← h, turnO_len, swapO_len]
theorem swapO_mem {xs : List Int} {a o : Nat} (ha : a < xs.length) (ho : o < xs.length) {x : Int} (h : x ∈ swapO xs a o) : x ∈ xs := by
  unfold swapO at h
  rcases List.mem_or_eq_of_mem_set h with h | h
  · rcases List.mem_or_eq_of_mem_set h with h | h
    · exact h
    · subst h; rw [List.getD_eq_getElem?_getD, List.getElem?_eq_getElem ho]; exact List.getElem_mem ho
  · subst h; rw [List.getD_eq_getElem?_getD, List.getElem?_eq_getElem ha]; exact List.getElem_mem ha
theorem turnO_mem {xs : List Int} {a : Nat} {x : Int} (h : x ∈ turnO xs a) : x ∈ xs := by
  unfold turnO at h
  rcases List.mem_append.1 h with h | h
  · exact List.mem_of_mem_take h
  · exact List.mem_of_mem_drop (List.mem_reverse.1 h)
theorem othO_le (xs : List Int) (p : Int) : ∀ k, othO xs p k ≤ k
  | 0 => Nat.le_refl _
  | k + 1 => by
    rw [othO]; split
    · exact Nat.le_succ_of_le (othO_le xs p k)
    · exact Nat.le_refl _
theorem nextO_mem {xs zs : List Int} (h : nextO xs = some zs) {x : Int} (hx : x ∈ zs) : x ∈ xs := by
  unfold nextO at h
  split at h
  · cases h
  · rename_i a ha
    injection h with h
    subst h
    have h1 := (atO_lt ha).1
    have h2 := othO_le xs (xs.getD a 0) (xs.length - 1)
    exact swapO_mem (by omega) (by omega) (turnO_mem hx)

/-- An order of n numbers, for what the walks ask. -/
def Ord (n : Nat) (xs : List Int) : Prop := xs.length = n ∧ ∀ x ∈ xs, 0 ≤ x ∧ x < (n : Int)
theorem Ord.next {n : Nat} {xs zs : List Int} (h : Ord n xs) (hz : nextO xs = some zs) : Ord n zs :=
  ⟨(nextO_len hz).trans h.1, fun _ hx => h.2 _ (nextO_mem hz hx)⟩
def startO (n : Nat) : List Int := (List.range n).map (fun (j : Nat) => (j : Int))
theorem startO_ord (n : Nat) : Ord n (startO n) := by
  refine ⟨by simp [startO], fun x hx => ?_⟩
  simp only [startO, List.mem_map, List.mem_range] at hx
  obtain ⟨j, hj, rfl⟩ := hx
  omega

/-- Whether the number at place i is left, when the first k are. -/
def leaveO (xs : List Int) (k i : Nat) : Bool := decide (i < k) || (xs.take i).any (fun y => decide (xs.getD i 0 < y))
/-- What is taken from place i on, of f places. -/
def takeO (xs : List Int) (k : Nat) : Nat → Nat → Int
  | 0, _ => -1
  | f + 1, i => if leaveO xs k i then takeO xs k f (i + 1) else xs.getD i 0
def takenO (xs : List Int) (k : Nat) : Int := takeO xs k xs.length 0
def winO (n k : Nat) (xs : List Int) : Int := if takenO xs k = (n : Int) - 1 then 1 else 0
/-- In how many orders, from one on, the best one is taken, if they end in time. -/
def runO (n k : Nat) : Nat → List Int → Int → Option Int
  | 0, _, _ => none
  | f + 1, xs, acc => match nextO xs with
    | none => some (acc + winO n k xs)
    | some zs => runO n k f zs (acc + winO n k xs)
theorem runO_last {n k f : Nat} {xs : List Int} {acc t : Int} (h : runO n k f xs acc = some t) (hn : nextO xs = none) : acc + winO n k xs = t := by
  cases f with
  | zero => simp [runO] at h
  | succ f => rw [runO, hn] at h; injection h
theorem runO_next {n k f : Nat} {xs zs : List Int} {acc t : Int} (h : runO n k f xs acc = some t) (hn : nextO xs = some zs) : ∃ g, f = g + 1 ∧ runO n k g zs (acc + winO n k xs) = some t := by
  cases f with
  | zero => simp [runO] at h
  | succ f => rw [runO, hn] at h; exact ⟨f, rfl, h⟩

/-- Orders that end in f steps. -/
def endsO : Nat → List Int → Bool
  | 0, _ => false
  | f + 1, xs => match nextO xs with
    | none => true
    | some zs => endsO f zs
def Ends (xs : List Int) : Prop := ∃ f, endsO f xs = true
theorem endsO_more : ∀ {f g : Nat} {xs : List Int}, endsO f xs = true → f ≤ g → endsO g xs = true
  | 0, g, xs, h, _ => by simp [endsO] at h
  | f + 1, 0, xs, _, hg => by omega
  | f + 1, g + 1, xs, h, hg => by
    rw [endsO] at h ⊢
    split
    · rfl
    · rename_i zs hz
      rw [hz] at h
      exact endsO_more h (by omega)
/-- In how many steps, of at most f, orders end. -/
def stepsO : Nat → List Int → Nat
  | 0, _ => 0
  | f + 1, xs => if endsO f xs then stepsO f xs else f + 1
theorem stepsO_is : ∀ {f : Nat} {xs : List Int}, endsO f xs = true → endsO (stepsO f xs) xs = true
  | 0, xs, h => by simp [endsO] at h
  | f + 1, xs, h => by
    rw [stepsO]
    split
    · rename_i h1; exact stepsO_is h1
    · exact h
theorem stepsO_le : ∀ {f g : Nat} {xs : List Int}, endsO g xs = true → stepsO f xs ≤ g
  | 0, g, xs, _ => Nat.zero_le _
  | f + 1, g, xs, h => by
    rw [stepsO]
    split
    · exact stepsO_le h
    · rename_i h1
      rcases Nat.lt_or_ge f g with h2 | h2
      · omega
      · exact absurd (endsO_more h h2) h1
theorem stepsO_next {f : Nat} {xs zs : List Int} (h : endsO f xs = true) (hn : nextO xs = some zs) : endsO f zs = true ∧ stepsO f zs < stepsO f xs := by
  have h1 := stepsO_is h
  obtain ⟨g, hg⟩ : ∃ g, stepsO f xs = g + 1 := by
    cases hs : stepsO f xs with
    | zero => rw [hs] at h1; simp [endsO] at h1
    | succ g => exact ⟨g, rfl⟩
  rw [hg, endsO, hn] at h1
  have h1 : endsO g zs = true := h1
  have h2 := stepsO_le (f := f) h1
  have h3 := stepsO_le (f := f + 1) (xs := xs) h
  refine ⟨?_, by omega⟩
  refine endsO_more h1 ?_
  have := stepsO_le (f := f) (xs := xs) h
  omega

/-- The product of the numbers up to n. -/
def facF : Nat → Int
  | 0 => 1
  | n + 1 => facF n * ((n : Int) + 1)
/-- The sum of all orders of n - 1 times k divided by j, for j from k on, of f numbers. -/
def sumJ (c : Int) (k : Nat) : Nat → Int
  | 0 => 0
  | f + 1 => sumJ c k f + c / ((k + f : Nat) : Int)
def winsO (n k : Nat) : Int := if k = 0 then facF (n - 1) else sumJ (facF (n - 1) * k) k (n - k)
/-- The least k with the most wins, below m. -/
def bestO (n : Nat) : Nat → Nat
  | 0 => 0
  | m + 1 => if winsO n (bestO n m) < winsO n m then m else bestO n m

/-- The model's: what an order counts. -/
def leafO (n k : Nat) : List Int → Nat → Int → Int
  | [], _, _ => 0
  | x :: xs, i, most => if most < x then (if k ≤ i then (if x = (n : Int) then 1 else 0) else leafO n k xs (i + 1) x) else leafO n k xs (i + 1) most
def triO (n k : Nat) : Nat → List Int → Int
  | 0, h => leafO n k h 0 0
  | f + 1, h => sI n (fun x => if h.contains ((x : Int) + 1) then 0 else triO n k f (h ++ [(x : Int) + 1]))

theorem orders_all : ∀ n, n < 6 → ∀ k, k < n + 1 → runO (n + 1) k 720 (startO (n + 1)) 0 = some (winsO (n + 1) k) ∧ triO (n + 1) k (n + 1) [] = winsO (n + 1) k := by decide +kernel
theorem orders_end : ∀ n, n < 6 → endsO 720 (startO (n + 1)) = true := by decide +kernel
end Go.Proofs.Ytnojlapjkdihmaa
