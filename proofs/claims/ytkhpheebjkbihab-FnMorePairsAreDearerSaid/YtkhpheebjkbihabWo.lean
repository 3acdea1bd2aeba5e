/-
  Chapter 4, the model: the contracts of bestSplit and of BestSplit.
-/
import Derived.Test.YtkhpheebjkbihabWn
import Derived.Test.YtkhpheebjkbihabRestA
namespace Go.Proofs.Ytkhpheebjkbihab
open Go.RowKit

/-- Where a loop over all ways stands: what is done, and the best of it. -/
def BstL (ts : List (List Int)) (n : Nat) (L : List (List Int)) (l : List Int) : Prop := (L = [] ∧ l = List.replicate n 0) ∨ ∃ b, bestA (worthF ts) L = some b ∧ l = setsF b n
def StL (n : Nat) (L : List (List Int)) (ys : List Int) : Prop := DoneTo n L (some ys) ∧ Fit n 3 ys ∧ ((L = [] ∧ ys = List.replicate 3 0) ∨ (L ≠ [] ∧ leftF ys n < leftF (List.replicate 3 0) n))
theorem StL.start (n : Nat) : StL n [] (List.replicate 3 0) := ⟨DoneTo.start n, Fit.zero n 3, .inl ⟨rfl, rfl⟩⟩
theorem StL.left {n : Nat} {L : List (List Int)} {ys : List Int} (h : StL n L ys) : leftF ys n ≤ leftF (List.replicate 3 0) n := by
  rcases h.2.2 with ⟨_, h⟩ | ⟨_, h⟩
  · rw [h]; exact Nat.le_refl _
  · omega
theorem StL.next {n : Nat} {L : List (List Int)} {ys zs : List Int} (h : StL n L ys) (hn : nextF ys n = some zs) : StL n (L ++ [ys]) zs := by
  obtain ⟨hf, hl⟩ := h.2.1.next hn
  have hd := h.1.step h.2.1
  rw [hn] at hd
  have := h.left
  exact ⟨hd, hf, .inr ⟨by simp, by omega⟩⟩
theorem StL.last {n : Nat} {L : List (List Int)} {ys : List Int} (h : StL n L ys) (hn : nextF ys n = none) : DoneTo n (L ++ [ys]) none := by
  have hd := h.1.step h.2.1
  rw [hn] at hd; exact hd
theorem StL.first {n : Nat} {L : List (List Int)} {ys : List Int} (h : StL n L ys) (hL : L ≠ []) : ys ≠ [0, 0, 0] := by
  rcases h.2.2 with ⟨h1, _⟩ | ⟨_, h2⟩
  · exact absurd h1 hL
  · intro e; rw [e] at h2; exact Nat.lt_irrefl _ h2
theorem bst_first {ts : List (List Int)} {n : Nat} (ys : List Int) : BstL ts n ([] ++ [ys]) (setsF ys n) := .inr ⟨ys, rfl, rfl⟩
theorem bst_more {ts : List (List Int)} {n : Nat} {L : List (List Int)} {b ys : List Int} (h : bestA (worthF ts) L = some b) (hlt : worthF ts b < worthF ts ys) : BstL ts n (L ++ [ys]) (setsF ys n) :=
  .inr ⟨ys, by rw [bestA_snoc, h]; simp [pick, hlt], rfl⟩
theorem bst_less {ts : List (List Int)} {n : Nat} {L : List (List Int)} {b ys : List Int} (h : bestA (worthF ts) L = some b) (hlt : ¬ worthF ts b < worthF ts ys) : BstL ts n (L ++ [ys]) (setsF b n) :=
  .inr ⟨b, by rw [bestA_snoc, h]; simp [pick, hlt], rfl⟩
theorem bst_end {ts : List (List Int)} {L : List (List Int)} {l : List Int} (h : BstL ts ts.length L l) (hd : DoneTo ts.length L none) : l = setsF (wayF ts) ts.length := by
  have hd : allF (ts.length : Int) (List.replicate 3 0) = L := hd
  rcases h with ⟨h1, _⟩ | ⟨b, h1, h2⟩
  · exact absurd (hd.trans h1) (allF_ne ts.length)
  · have := wayF_is ts
    rw [hd, h1] at this
    injection this with this
    rw [h2, this]

theorem calls_q3 {P : Program} {f : FuncId} {args : Array Value} {w : World} {n : Nat} {v : Value} (h : Calls P f args (w.drewN n) fun e w' => e = .returned v ∧ ∃ k, w' = (w.drewN n).drewN k) :
    Calls P f args (w.drewN n) fun e w'' => e = .returned v ∧ ∃ k, w'' = w.drewN k := h.mono fun _ _ ⟨he, k, hw⟩ => ⟨he, n + k, by rw [hw]; simp⟩
theorem next_n {m : Nat} (A : Option Addr) (c : Nat) (xs : List Int) (top : Int) (w : World) (hm : xs.length = m) (h : Rd w A c xs) (hl : m ≤ 1048576) (ht0 : 0 ≤ top) (ht1 : top ≤ 1048576) (hb : ∀ x ∈ xs, 0 ≤ x ∧ x ≤ top) :
    Calls Try.prog 113 #[.slice A m c, .int .i64 top] w (NextOut w (nextF xs top)) := by
  subst hm; exact next_any A c xs top w h hl ht0 ht1 hb
theorem left3_own {w : World} {B g c : Nat} {zs : List Int} {top : Int} (h : Own w B (some ⟨g, 0, none⟩) c zs) (h1 : zs.length = 3) : roundsLeft top w (.slice (some ⟨g, 0, none⟩) 3 c) = leftF zs top + 1 := by
  rw [← h1]; exact roundsLeft_own h (by omega)

end Go.Proofs.Ytkhpheebjkbihab
