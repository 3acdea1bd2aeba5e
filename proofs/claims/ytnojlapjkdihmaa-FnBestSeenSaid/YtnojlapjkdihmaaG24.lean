/-
  Chapter 2: at whatever weights, bidders and reserve the program's EdgeRevenue answers as the model's.
-/
import Derived.Test.YtnojlapjkdihmaaG23
import Derived.Test.YtnojlapjkdihmaaG11
namespace Go.Proofs.Ytnojlapjkdihmaa
open Go.RowKit

theorem crowd_yes {xs : List Int} {n r : Int} (h : crowdB xs n r = true) : vW xs = true ∧ inR n 1 3 = true ∧ inR r 0 6 = true := by
  unfold crowdB at h
  simp only [Bool.and_eq_true] at h
  exact ⟨h.1.1, h.1.2, h.2⟩

theorem edge_small {xs : List Int} {n : Nat} {r : Int} (hv : vW xs = true) (hn1 : 1 ≤ n) (hn : n ≤ 3) (hr : 0 ≤ r) : Small2 (restOf (edgeT xs r) (xs.length - 1) (some (List.replicate n 0))) := by
  intro x hx
  obtain ⟨vs, hvs, rfl⟩ := List.mem_map.1 hx
  have := edgeT_bd hv (allF_fit (Fit.zero _ n) hvs) hn1 hn hr
  omega
theorem rest_len {α : Type} (t : List Int → α) (top n : Nat) (h1 : 1 ≤ n) (hn : n ≤ 3) (ht : top ≤ 5) : (restOf t top (some (List.replicate n 0))).length ≤ 216 := by
  unfold restOf
  rw [List.length_map, allF_allV h1 hn ht]
  exact allV_216 h1 hn ht

end Go.Proofs.Ytnojlapjkdihmaa

/-
  Chapter 2: sums of fractions over all values, and regions whose ways meet.
-/
namespace Go.Proofs.Ytnojlapjkdihmaa
open Go.RowKit

/-- Ways that meet: what is left is shown once, of whatever world behind W. -/
theorem join {W : World} {G : Prop} {P2 : World → Prop} (h1 : (∀ w2, Below W.heap.size W w2 → P2 w2) → G) (h2 : ∀ w2, Below W.heap.size W w2 → P2 w2) : G := h1 h2
theorem wpAny_listed {P : Program} {md : Region.Mode} {ops : Array Oper} {Q : Exit → Act → World → Prop} {k : Nat} {listed listed' : Array Bool} {a : Act} {w : World} (h : listed' = listed) (hh : wpAny P md ops Q k listed' a w) : wpAny P md ops Q k listed a w := h ▸ hh

theorem fr_add {p q : Rat} {a b c d n m : Int} (hp : FrIs p a b) (hq : FrIs q c d) (h : FrIs (p + q) n m) : FrIs (fq (a * d + c * b) (b * d)) n m := by
  obtain ⟨rfl, rfl⟩ := hp
  obtain ⟨rfl, rfl⟩ := hq
  rw [fq_add]
  exact h
theorem fr_mul {p q : Rat} {a b c d n m : Int} (hp : FrIs p a b) (hq : FrIs q c d) (h : FrIs (p * q) n m) : FrIs (fq (a * c) (b * d)) n m := by
  obtain ⟨rfl, rfl⟩ := hp
  obtain ⟨rfl, rfl⟩ := hq
  rw [fq_mul]
  exact h
theorem fr_times {p : Rat} {k a b n m : Int} (hp : FrIs p a b) (h : FrIs ((k : Rat) * p) n m) : FrIs (fq (a * k) b) n m := by
  obtain ⟨rfl, rfl⟩ := hp
  rw [fq_times, Rat.mul_comm]
  exact h

/-- A term of fractions, and the sum of them all. -/
def termQ (xs : List Int) (g : List Int → Rat) (vs : List Int) : Rat := (waysF xs vs : Rat) * g vs
def sumV (xs : List Int) (g : List Int → Rat) (n : Nat) : Rat := sumQ (restOf (termQ xs g) (xs.length - 1) (some (List.replicate n 0)))
/-- What the terms lie over. -/
def TermsOk (xs : List Int) (g : List Int → Rat) (n : Nat) (D : Int) : Prop := 1 ≤ D ∧ D ≤ 46656 ∧ ∀ vs, Fit (xs.length - 1) n vs → Sc D 2176782336 (termQ xs g vs)
/-- What has been summed, of so many. -/
def QTo (xs : List Int) (g : List Int → Rat) (n : Nat) (D : Int) (S : Rat) (k : Nat) (s : Option (List Int)) : Prop :=
  sumV xs g n = S + sumQ (restOf (termQ xs g) (xs.length - 1) s) ∧ Sc D (2176782336 * (k : Int)) S ∧ k ≤ 1000 ∧ CountL (xs.length - 1) k s
theorem QTo.start (xs : List Int) (g : List Int → Rat) (D : Int) {n : Nat} (hn : n ≤ 3) (hl : xs.length ≤ 6) : QTo xs g n D 0 0 (some (List.replicate n 0)) := by
  refine ⟨by unfold sumV; grind, Sc.zero, by omega, ?_⟩
  have := left_1000 (n := n) (top := xs.length - 1) hn (by omega)
  show 0 + _ ≤ 1000
  omega
theorem QTo.step {xs : List Int} {g : List Int → Rat} {n : Nat} {D : Int} {S S' : Rat} {k : Nat} {ys : List Int} (h : QTo xs g n D S k (some ys)) (ht : TermsOk xs g n D) (hf : Fit (xs.length - 1) n ys) (hS : S' = S + termQ xs g ys) :
    QTo xs g n D S' (k + 1) (nextF ys (xs.length - 1 : Nat)) := by
  obtain ⟨h1, h2, h3, h4⟩ := h
  have h5 : k + (leftF ys (xs.length - 1 : Nat) + 1) ≤ 1000 := h4
  rw [restOf_next hf, sumQ] at h1
  refine ⟨by rw [h1, hS]; grind, ?_, by omega, h4.next hf⟩
  rw [hS]
  refine (h2.add (ht.2.2 ys hf)).mono ?_
  have : ((k + 1 : Nat) : Int) = (k : Int) + 1 := by omega
  rw [this]
  omega
theorem QTo.bd {xs : List Int} {g : List Int → Rat} {n : Nat} {D : Int} {S : Rat} {k : Nat} {s : Option (List Int)} {x y : Int} (h : QTo xs g n D S k s) (ht : TermsOk xs g n D) (hf : FrIs S x y) : -2176782336000 ≤ x ∧ x ≤ 2176782336000 ∧ 1 ≤ y ∧ y ≤ 46656 := by
  obtain ⟨h1, h2, h3, _⟩ := h
  have := h2.bd ht.1 hf
  have := ht.2.1
  omega
theorem term_bd {xs : List Int} {g : List Int → Rat} {n : Nat} {D : Int} {vs : List Int} {x y : Int} (ht : TermsOk xs g n D) (hv : Fit (xs.length - 1) n vs) (hf : FrIs (termQ xs g vs) x y) : -2176782336 ≤ x ∧ x ≤ 2176782336 ∧ 1 ≤ y ∧ y ≤ 46656 := by
  have := (ht.2.2 vs hv).bd ht.1 hf
  have := ht.2.1
  omega
theorem QTo.done {xs : List Int} {g : List Int → Rat} {n : Nat} {D : Int} {S : Rat} {k : Nat} (h : QTo xs g n D S k none) : S = sumV xs g n := by
  rw [h.1]
  simp only [restOf, sumQ]
  grind

/-- The virtual value of who has the thing. -/
def virtG (xs : List Int) (r : Int) (vs : List Int) : Rat := ofWin (fun v => virtQ xs v.toNat) vs r
/-- The greatest ironed value, or 0. -/
def ironG (xs : List Int) (vs : List Int) : Rat := topR (fun v => ironAt xs v.toNat) vs

theorem virt_ok {xs : List Int} {n : Nat} {r : Int} (hv : vW xs = true) (hn1 : 1 ≤ n) (hn : n ≤ 3) (hr : 0 ≤ r) : TermsOk xs (virtG xs r) n 60 := by
  obtain ⟨l1, l2⟩ := vW_le hv
  refine ⟨by decide, by decide, fun vs hf => ?_⟩
  have hl := hf.1
  obtain ⟨w0, w1⟩ := ways_bd (vW_valid hv) vs (hf.inV l1) (by omega)
  have h0 : Sc 60 2160 (virtG xs r vs) := by
    unfold virtG
    rcases at_cases (vs := vs) (by omega) hr with ⟨a, x, _, hx, _, _, hg⟩ | ⟨_, _, hg⟩
    · obtain ⟨v, rfl, hvl⟩ := (hf.inV l1).at_ hx
      rw [hg]
      simpa using virt_sc (vW_valid hv) hvl
    · rw [hg]
      exact Sc.zero.mono (by decide)
  exact (h0.mul (k := waysF xs vs) (K := 216) (by omega) w1 (by decide)).mono (by decide)

theorem top_sc {xs : List Int} {D : Int} (hD : 1 ≤ D) (h : ∀ v, v < xs.length → Sc D (216 * D) (ironAt xs v)) : ∀ vs, InV xs vs → Sc D (216 * D) (ironG xs vs)
  | [], _ => Sc.zero.mono (by omega)
  | v :: vs, hv => by
    have h1 := top_sc hD h vs (fun u hu => hv u (List.mem_cons_of_mem _ hu))
    have h2 := hv v (List.mem_cons_self ..)
    have h3 := h v.toNat (by omega)
    unfold ironG at h1 ⊢
    rw [topR]
    rcases Rat.le_total (a := ironAt xs v.toNat) (b := topR (fun v => ironAt xs v.toNat) vs) with c | c
    · rw [show max (ironAt xs v.toNat) (topR (fun v => ironAt xs v.toNat) vs) = topR (fun v => ironAt xs v.toNat) vs by grind]; exact h1
    · rw [show max (ironAt xs v.toNat) (topR (fun v => ironAt xs v.toNat) vs) = ironAt xs v.toNat by grind]; exact h3
theorem iron_ok {xs : List Int} {n : Nat} (hv : vW xs = true) (hn : n ≤ 3) : ∃ D, TermsOk xs (ironG xs) n D := by
  obtain ⟨l1, l2⟩ := vW_le hv
  obtain ⟨D, d1, d2, hD⟩ := iron_sc (vW_valid hv)
  refine ⟨D, d1, d2, fun vs hf => ?_⟩
  have hl := hf.1
  obtain ⟨w0, w1⟩ := ways_bd (vW_valid hv) vs (hf.inV l1) (by omega)
  refine ((top_sc d1 hD vs (hf.inV l1)).mul (k := waysF xs vs) (K := 216) (by omega) w1 (by omega)).mono ?_
  omega
end Go.Proofs.Ytnojlapjkdihmaa
