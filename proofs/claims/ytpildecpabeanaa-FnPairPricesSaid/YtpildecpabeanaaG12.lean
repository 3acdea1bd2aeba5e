/-
  Plain words for splits: whose sets, what they are worth together, the joined tables step by step, bounds; what things are worth alone.
-/
import Derived.Test.YtpildecpabeanaaG09
import Derived.Test.YtpildecpabeanaaG11
namespace Go.Proofs.Ytpildecpabeanaa

/-- What bidder i has of the first k things. -/
def sknTo (os : List Int) (i : Int) : Nat → Nat
  | 0 => 0
  | k + 1 => sknTo os i k + (if os.getD k 0 = i then 2 ^ k else 0)
theorem sknTo_lt (os : List Int) (i : Int) : ∀ k, k ≤ 3 → sknTo os i k < 2 ^ k
  | 0, _ => by simp [sknTo]
  | k + 1, h => by
    have := sknTo_lt os i k (by omega)
    have e : 2 ^ (k + 1) = 2 ^ k + 2 ^ k := by omega
    simp only [sknTo]; split <;> omega
theorem sknTo_three (os : List Int) (i : Int) : sknTo os i 3 = skn (os.getD 0 0) (os.getD 1 0) (os.getD 2 0) i := by simp [sknTo, skn]
/-- The sets of n bidders, of the first k things. -/
def setsTo (os : List Int) (n k : Nat) : List Int := (List.range n).map (fun i : Nat => ((sknTo os (i : Int) k : Nat) : Int))
theorem setsTo_zero (os : List Int) (n : Nat) : setsTo os n 0 = List.replicate n 0 := by
  unfold setsTo sknTo
  apply List.ext_getElem
  · simp
  · intro i h1 h2; simp
theorem setsTo_len (os : List Int) (n k : Nat) : (setsTo os n k).length = n := by simp [setsTo]
theorem setsTo_at (os : List Int) {n i : Nat} (k : Nat) (h : i < n) : (setsTo os n k)[i]? = some ((sknTo os (i : Int) k : Nat) : Int) := by simp [setsTo, h]
theorem setsTo_hit {os : List Int} {n k i : Nat} (h : os[k]? = some (i : Int)) : setsTo os n (k + 1) = (setsTo os n k).set i (((sknTo os (i : Int) k : Nat) : Int) + ((2 ^ k : Nat) : Int)) := by
  have hg : os.getD k 0 = (i : Int) := by rw [List.getD_eq_getElem?_getD, h]; rfl
  apply List.ext_getElem
  · simp [setsTo]
  · intro j h1 h2
    simp only [setsTo, List.getElem_map, List.getElem_range, sknTo, hg, List.getElem_set]
    by_cases e : i = j
    · subst e; simp
    · rw [if_neg e, if_neg (by omega)]; simp
theorem setsTo_miss {os : List Int} {n k : Nat} {v : Int} (h : os[k]? = some v) (hv : (n : Int) ≤ v ∨ v < 0) : setsTo os n (k + 1) = setsTo os n k := by
  have hg : os.getD k 0 = v := by rw [List.getD_eq_getElem?_getD, h]; rfl
  apply List.ext_getElem
  · simp [setsTo]
  · intro j h1 h2
    have hj : j < n := by simpa [setsTo] using h1
    simp only [setsTo, List.getElem_map, List.getElem_range, sknTo, hg]
    rw [if_neg (by omega)]; simp
theorem setsTo_three (os : List Int) (n : Nat) : setsTo os n 3 = setsF os n := by
  unfold setsTo setsF
  simp only [sknTo_three]
theorem setsF_len (os : List Int) (n : Nat) : (setsF os n).length = n := by simp [setsF]
/-- The set of bidder i. -/
def setOf (os : List Int) (i : Nat) : Nat := skn (os.getD 0 0) (os.getD 1 0) (os.getD 2 0) (i : Int)
theorem setOf_lt (os : List Int) (i : Nat) : setOf os i < 8 := skn_lt _ _ _ _
theorem setsF_at (os : List Int) {n i : Nat} (h : i < n) : (setsF os n)[i]? = some ((setOf os i : Nat) : Int) := by simp [setsF, setOf, h]
theorem wk_snoc (ts : List (List Int)) (t : List Int) (x y z : Int) : ∀ k : Int, wk (ts ++ [t]) k x y z = wk ts k x y z + T t (skn x y z (k + ts.length)) := by
  induction ts with
  | nil => intro k; simp [wk]
  | cons a ts ih =>
    intro k
    simp only [List.cons_append, wk, ih (k + 1), List.length_cons]
    have : (k + 1 : Int) + (ts.length : Nat) = k + ((ts.length + 1 : Nat) : Int) := by omega
    rw [this]
    omega
theorem worthF_zero (ts : List (List Int)) (os : List Int) : worthF (ts.take 0) os = 0 := by simp [worthF, wk]
theorem worthF_step {ts : List (List Int)} (os : List Int) {k : Nat} {t : List Int} (h : ts[k]? = some t) : worthF (ts.take (k + 1)) os = worthF (ts.take k) os + T t (setOf os k) := by
  have hk : k < ts.length := by rcases Nat.lt_or_ge k ts.length with h1 | h1; exact h1; rw [List.getElem?_eq_none h1] at h; cases h
  have e : ts.take (k + 1) = ts.take k ++ [t] := by rw [List.take_add_one, h]; rfl
  unfold worthF
  rw [e, wk_snoc]
  unfold setOf
  congr 3
  rw [List.length_take, Nat.min_eq_left (by omega)]; omega
theorem VT.bd {t : List Int} (h : VT t) {s : Nat} (hs : s < 8) : 0 ≤ T t s ∧ T t s ≤ 30 := (h.2.2 s hs).1
theorem worthF_bd {ts : List (List Int)} (h : ∀ t ∈ ts, VT t) (os : List Int) : 0 ≤ worthF ts os ∧ worthF ts os ≤ 30 * ts.length := by
  have : ∀ (ts : List (List Int)), (∀ t ∈ ts, VT t) → ∀ (k x y z : Int), 0 ≤ wk ts k x y z ∧ wk ts k x y z ≤ 30 * ts.length := by
    intro ts
    induction ts with
    | nil => intro _ k x y z; simp [wk]
    | cons t ts ih =>
      intro h k x y z
      have h1 := ih (fun u hu => h u (by simp [hu])) (k + 1) x y z
      have h2 := (h t (by simp)).bd (skn_lt x y z k)
      simp only [wk, List.length_cons]
      omega
  exact this ts h 0 _ _ _

theorem sv_bd {ts : List (List Int)} (h : ∀ t ∈ ts, VT t) : ∀ x : Nat, x < 8 → sv ts x ≤ 30 * ts.length := by
  induction ts with
  | nil => intro x _; simp [sv]
  | cons t ts ih =>
    intro x hx
    simp only [sv]
    refine mx_le (by omega) (fun s hs => ?_)
    have h1 := ih (fun u hu => h u (by simp [hu])) (x - s) (by omega)
    have h2 := (h t (by simp)).bd (subs_lt hs)
    simp only [List.length_cons]
    omega

/-- More is worth no more to more. -/
def Mod (t : List Int) : Prop := ∀ s, s < 8 → ∀ x, x < 8 → T t (s ||| x) + T t (s &&& x) ≤ T t s + T t x

/-- What the things of a set are worth alone. -/
def alone (t : List Int) (s : Nat) : List Int := (th s).map (fun j => T t (2 ^ j.toNat))
def aloneTo (t : List Int) (s k : Nat) : List Int := (thTo s k).map (fun j => T t (2 ^ j.toNat))
/-- What the model sums up, and its greatest. -/
def sumAl (t : List Int) (s : Nat) : Nat → Int
  | 0 => 0
  | k + 1 => sumAl t s k + ((s / 2 ^ k % 2 : Nat) : Int) * T t (2 ^ k)
def mostAl (t : List Int) (s : Nat) : Nat → Int
  | 0 => 0
  | k + 1 => max (mostAl t s k) (((s / 2 ^ k % 2 : Nat) : Int) * T t (2 ^ k))
theorem alone_len (t : List Int) (s : Nat) : (alone t s).length ≤ 3 := by
  unfold alone th
  rw [List.length_map]
  have : ∀ k, (thTo s k).length ≤ k := by
    intro k
    induction k with
    | zero => simp [thTo]
    | succ k ih =>
      simp only [thTo]
      split
      · rw [List.length_append]; simp; omega
      · omega
  exact this 3
theorem alone_sum (t : List Int) {s : Nat} (hs : s < 8) : (alone t s).sum = sumAl t s 3 := by
  rcases nat8 hs with rfl | rfl | rfl | rfl | rfl | rfl | rfl | rfl <;> simp [alone, th, thTo, sumAl] <;> omega
theorem alone_max {t : List Int} (h : VT t) {s : Nat} (hs : s < 8) : (alone t s ++ [0]).foldl max 0 = mostAl t s 3 := by
  have h1 := (h.bd (s := 1) (by omega)).1
  have h2 := (h.bd (s := 2) (by omega)).1
  have h4 := (h.bd (s := 4) (by omega)).1
  rcases nat8 hs with rfl | rfl | rfl | rfl | rfl | rfl | rfl | rfl <;> simp [alone, th, thTo, mostAl] <;> omega


theorem foldl_len (f : List Int → Nat → List Int) (hf : ∀ bs q, bs.length = 8 → (f bs q).length = 8) : ∀ (l : List Nat) (bs : List Int), bs.length = 8 → (l.foldl f bs).length = 8
  | [], _, h => h
  | q :: l, bs, h => by simp only [List.foldl_cons]; exact foldl_len f hf l _ (hf bs q h)
theorem tgStep_len (a b : Nat → Int) (p : Nat) (bs : List Int) (q : Nat) (h : bs.length = 8) : (tgStep a b p bs q).length = 8 := by unfold tgStep; split <;> simp [h]
theorem tgRow_len (a b : Nat → Int) (bs : List Int) (p : Nat) (h : bs.length = 8) : (tgRow a b bs p).length = 8 := by unfold tgRow; exact foldl_len _ (fun bs q h => tgStep_len a b p bs q h) _ _ h

/-- Two as one: the first p parts of the one are done, and of the next one the first r of the other. -/
def tgTo (a b : Nat → Int) (p r : Nat) : List Int := (List.range r).foldl (tgStep a b p) ((List.range p).foldl (tgRow a b) (List.replicate 8 0))
theorem tgTo_start (a b : Nat → Int) : tgTo a b 0 0 = List.replicate 8 0 := by simp [tgTo]
theorem tgTo_next (a b : Nat → Int) (p r : Nat) : tgTo a b p (r + 1) = tgStep a b p (tgTo a b p r) r := by unfold tgTo; rw [List.range_succ, List.foldl_append]; simp only [List.foldl_cons, List.foldl_nil]
theorem tgTo_row (a b : Nat → Int) (p : Nat) : tgTo a b p 8 = tgTo a b (p + 1) 0 := by
  unfold tgTo
  rw [List.range_succ (n := p), List.foldl_append]
  simp only [List.foldl_cons, List.foldl_nil, List.range_zero]
  unfold tgRow
  rfl
theorem tgTo_all (a b : Nat → Int) : tgTo a b 8 0 = tg a b := by simp only [tgTo, tg, List.range_zero, List.foldl_nil]
theorem tgTo_len (a b : Nat → Int) (p r : Nat) : (tgTo a b p r).length = 8 := by
  unfold tgTo
  exact foldl_len _ (fun bs q h => tgStep_len a b p bs q h) _ _ (foldl_len _ (fun bs q h => tgRow_len a b bs q h) _ _ (by simp))

/-- Eight numbers from 0 to a bound. -/
def Bd (M : Int) (l : List Int) : Prop := l.length = 8 ∧ ∀ s, s < 8 → 0 ≤ T l s ∧ T l s ≤ M
theorem T_set {l : List Int} {i s : Nat} {v : Int} (hi : i < l.length) : T (l.set i v) s = if i = s then v else T l s := by
  unfold T
  rw [List.getD_eq_getElem?_getD, List.getD_eq_getElem?_getD, List.getElem?_set]
  split
  · simp
  · rfl
theorem Bd.zero {M : Int} (h : 0 ≤ M) : Bd M (List.replicate 8 0) := ⟨by simp, fun s hs => by
  have : T (List.replicate 8 0) s = 0 := by rcases nat8 hs with rfl | rfl | rfl | rfl | rfl | rfl | rfl | rfl <;> rfl
  omega⟩
theorem or8 {p r : Nat} (hp : p < 8) (hr : r < 8) : p ||| r < 8 := by
  have : ∀ p, p < 8 → ∀ r, r < 8 → p ||| r < 8 := by decide
  exact this p hp r hr
theorem tgStep_yes {a b : Nat → Int} {p r : Nat} (bs : List Int) (h : p &&& r = 0) : tgStep a b p bs r = bs.set (p ||| r) (max (T bs (p ||| r)) (a p + b r)) := by unfold tgStep; rw [if_pos h]
theorem tgStep_no {a b : Nat → Int} {p r : Nat} (bs : List Int) (h : ¬ p &&& r = 0) : tgStep a b p bs r = bs := by unfold tgStep; rw [if_neg h]
theorem foldl_bd {M : Int} (f : List Int → Nat → List Int) : ∀ (l : List Nat) (_hf : ∀ bs, ∀ q ∈ l, Bd M bs → Bd M (f bs q)) (bs : List Int), Bd M bs → Bd M (l.foldl f bs)
  | [], _, _, h => h
  | q :: l, hf, bs, h => by simp only [List.foldl_cons]; exact foldl_bd f l (fun bs q hq => hf bs q (by simp [hq])) _ (hf bs q (by simp) h)
theorem tgStep_bd {M A B : Int} {a b : Nat → Int} (ha : ∀ s, s < 8 → 0 ≤ a s ∧ a s ≤ A) (hb : ∀ s, s < 8 → 0 ≤ b s ∧ b s ≤ B) (hM : A + B ≤ M) {p r : Nat} (hp : p < 8) (hr : r < 8) {bs : List Int} (h : Bd M bs) : Bd M (tgStep a b p bs r) := by
  by_cases hz : p &&& r = 0
  · rw [tgStep_yes bs hz]
    refine ⟨by rw [List.length_set]; exact h.1, fun s hs => ?_⟩
    rw [T_set (by rw [h.1]; exact or8 hp hr)]
    have h1 := h.2 (p ||| r) (or8 hp hr)
    have h2 := h.2 s hs
    have h3 := ha p hp
    have h4 := hb r hr
    split <;> omega
  · rw [tgStep_no bs hz]; exact h
theorem tgTo_bd {M A B : Int} {a b : Nat → Int} (ha : ∀ s, s < 8 → 0 ≤ a s ∧ a s ≤ A) (hb : ∀ s, s < 8 → 0 ≤ b s ∧ b s ≤ B) (hM : A + B ≤ M) {p r : Nat} (hp : p ≤ 8) (hr : r ≤ 8) (hpr : r = 0 ∨ p < 8) : Bd M (tgTo a b p r) := by
  have h0 := ha 0 (by omega)
  have h1 := hb 0 (by omega)
  unfold tgTo
  have hrow : ∀ q, q < 8 → ∀ r, r ≤ 8 → ∀ bs, Bd M bs → Bd M ((List.range r).foldl (tgStep a b q) bs) := fun q hq r hr bs h =>
    foldl_bd _ _ (fun bs s hs h => tgStep_bd ha hb hM hq (by have := List.mem_range.1 hs; omega) h) _ h
  have hall : Bd M ((List.range p).foldl (tgRow a b) (List.replicate 8 0)) :=
    foldl_bd _ _ (fun bs s hs h => hrow s (by have := List.mem_range.1 hs; omega) 8 (Nat.le_refl _) bs h) _ (Bd.zero (by omega))
  rcases hpr with rfl | hp8
  · exact hall
  · exact hrow p hp8 r hr _ hall
theorem jnAll_step {ts : List (List Int)} {k : Nat} {t : List Int} (h : ts[k]? = some t) : jnAll (ts.take (k + 1)) = tg (T (jnAll (ts.take k))) (T t) := by
  have e : ts.take (k + 1) = ts.take k ++ [t] := by rw [List.take_add_one, h]; rfl
  rw [e, jnAll_snoc]
theorem jnAll_zero (ts : List (List Int)) : jnAll (ts.take 0) = List.replicate 8 0 := by simp [jnAll]
theorem jnAll_bd {ts : List (List Int)} (h : ∀ t ∈ ts, VT t) : Bd (30 * ts.length) (jnAll ts) :=
  ⟨jnAll_len ts, fun s hs => by rw [jnAll_at (fun t ht => (h t ht).2.1) hs]; exact ⟨sv_nonneg _ _, sv_bd h s hs⟩⟩

/-- The model's best of a set, of the first s parts. -/
def mxTo (t : List Int) (ts : List (List Int)) (x s : Nat) : Int := mx (fun s => T t s + sv ts (x - s)) ((List.range s).filter (fun s => s &&& x == s))
theorem mxTo_zero (t : List Int) (ts : List (List Int)) (x : Nat) : mxTo t ts x 0 = 0 := by simp [mxTo, mx]
theorem mxTo_yes (t : List Int) (ts : List (List Int)) {x s : Nat} (h : s &&& x = s) : mxTo t ts x (s + 1) = max (mxTo t ts x s) (T t s + sv ts (x - s)) := by
  unfold mxTo
  rw [List.range_succ, List.filter_append, show [s].filter (fun s => s &&& x == s) = [s] by simp [h], mx_snoc]
theorem mxTo_no (t : List Int) (ts : List (List Int)) {x s : Nat} (h : ¬ s &&& x = s) : mxTo t ts x (s + 1) = mxTo t ts x s := by
  unfold mxTo
  rw [List.range_succ, List.filter_append, show [s].filter (fun s => s &&& x == s) = [] by simp [h], List.append_nil]
theorem mxTo_all (t : List Int) (ts : List (List Int)) {x : Nat} (hx : x < 8) : mxTo t ts x (x + 1) = sv (t :: ts) x := by
  have e : ∀ x, x < 8 → (List.range (x + 1)).filter (fun s => s &&& x == s) = subs x := by decide
  unfold mxTo
  rw [e x hx]; rfl
theorem mxTo_bd {t : List Int} {ts : List (List Int)} (ht : VT t) (h : ∀ t ∈ ts, VT t) {x s : Nat} (hx : x < 8) (hs : s ≤ 8) : 0 ≤ mxTo t ts x s ∧ mxTo t ts x s ≤ 30 * (ts.length + 1) := by
  refine ⟨mx_nonneg _ _, mx_le (by omega) (fun r hr => ?_)⟩
  have h1 := List.mem_range.1 (List.mem_filter.1 hr).1
  have h2 := ht.bd (s := r) (by omega)
  have h3 := sv_bd h (x - r) (by omega)
  omega

end Go.Proofs.Ytpildecpabeanaa

/-
  Chapter 4: the contracts of IsModest and of the model's; both sides of ValidTable and of IsModest.
-/
namespace Go.Proofs.Ytpildecpabeanaa
open Go.RowKit

noncomputable def mdB (t : List Int) : Bool := @decide (VT t ∧ Mod t) (Classical.propDecidable _)
theorem mdB_true {t : List Int} (h : VT t) (hm : Mod t) : mdB t = true := by unfold mdB; simp [h, hm]
theorem mdB_false {t : List Int} (h : ¬ (VT t ∧ Mod t)) : mdB t = false := by unfold mdB; simp only [decide_eq_false_iff_not]; exact h
/-- Of the first k sets, and of all. -/
def MdTo (t : List Int) (k : Nat) : Prop := ∀ s, s < k → ∀ x, x < 8 → T t (s ||| x) + T t (s &&& x) ≤ T t s + T t x
def MdU (t : List Int) (s j : Nat) : Prop := ∀ x, x < j → T t (s ||| x) + T t (s &&& x) ≤ T t s + T t x
theorem MdTo.zero (t : List Int) : MdTo t 0 := fun s h => absurd h (by omega)
theorem MdU.zero (t : List Int) (s : Nat) : MdU t s 0 := fun s h => absurd h (by omega)
theorem MdU.next {t : List Int} {s j : Nat} (h : MdU t s j) (hj : T t (s ||| j) + T t (s &&& j) ≤ T t s + T t j) : MdU t s (j + 1) := fun x hx => by
  rcases Nat.lt_or_ge x j with h1 | h1
  · exact h x h1
  · rw [show x = j by omega]; exact hj
theorem MdTo.next {t : List Int} {s : Nat} (h : MdTo t s) (hu : MdU t s 8) : MdTo t (s + 1) := fun x hx => by
  rcases Nat.lt_or_ge x s with h1 | h1
  · exact h x h1
  · rw [show x = s by omega]; exact hu
theorem and8 {p r : Nat} (hp : p < 8) : p &&& r < 8 := Nat.lt_of_le_of_lt Nat.and_le_left hp

theorem mdB_ne {t : List Int} (h : VT t) : mdB t = neB (T t) 8 := by
  by_cases hm : Mod t
  · rw [mdB_true h hm, neB_true (fun a ha b hb => hm a ha b hb)]
  · rw [mdB_false (fun h => hm h.2), neB_false (fun hn => hm (fun a ha b hb => hn a ha b hb))]
end Go.Proofs.Ytpildecpabeanaa
