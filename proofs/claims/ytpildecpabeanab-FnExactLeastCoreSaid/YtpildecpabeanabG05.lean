/-
  The best way to give three things to bidders, the first of the best: what both sides' loops over all ways come to.
-/
import Derived.Test.YtpildecpabeanabG04
namespace Go.Proofs.Ytpildecpabeanab

/-- The better of the best so far and one more. -/
def pick (f : List Int → Int) (o : Option (List Int)) (x : List Int) : Option (List Int) := match o with
  | none => some x
  | some b => if f b < f x then some x else some b
def bestA (f : List Int → Int) (L : List (List Int)) : Option (List Int) := L.foldl (pick f) none
theorem bestA_snoc (f : List Int → Int) (L : List (List Int)) (x : List Int) : bestA f (L ++ [x]) = pick f (bestA f L) x := by simp [bestA]
theorem bestA_first (f : List Int → Int) (x : List Int) : bestA f [x] = some x := rfl
theorem bestA_some {f : List Int → Int} : ∀ {n : Nat} {L : List (List Int)}, L.length = n → L ≠ [] → ∃ b, bestA f L = some b ∧ b ∈ L ∧ ∀ x ∈ L, f x ≤ f b := by
  intro n
  induction n with
  | zero => intro L h hne; exact absurd (List.eq_nil_of_length_eq_zero h) hne
  | succ n ih =>
    intro L h hne
    obtain ⟨i, x, rfl⟩ : ∃ i x, L = i ++ [x] := ⟨L.dropLast, L.getLast hne, (List.dropLast_concat_getLast hne).symm⟩
    rw [bestA_snoc]
    by_cases hi : i = []
    · subst hi; exact ⟨x, rfl, by simp, by simp⟩
    · obtain ⟨b, hb, hm, hle⟩ := ih (by simpa using h) hi
      rw [hb]
      show ∃ c, (if f b < f x then some x else some b) = some c ∧ _
      by_cases hlt : f b < f x
      · refine ⟨x, by rw [if_pos hlt], by simp, fun y hy => ?_⟩
        rcases List.mem_append.1 hy with hy | hy
        · have := hle y hy; omega
        · simp at hy; rw [hy]; omega
      · refine ⟨b, by rw [if_neg hlt], by simp [hm], fun y hy => ?_⟩
        rcases List.mem_append.1 hy with hy | hy
        · exact hle y hy
        · simp at hy; rw [hy]; omega

/-- What is done of all ways, and what comes next. -/
def DoneTo (n : Nat) (L : List (List Int)) : Option (List Int) → Prop
  | some ys => allF (n : Int) (List.replicate 3 0) = L ++ allF (n : Int) ys
  | none => allF (n : Int) (List.replicate 3 0) = L
theorem DoneTo.start (n : Nat) : DoneTo n [] (some (List.replicate 3 0)) := by show allF _ _ = _; simp
theorem DoneTo.step {n : Nat} {L : List (List Int)} {ys : List Int} (h : DoneTo n L (some ys)) (hf : Fit n 3 ys) : DoneTo n (L ++ [ys]) (nextF ys n) := by
  have h : allF (n : Int) (List.replicate 3 0) = _ := h
  cases hn : nextF ys n with
  | none => rw [allF_last hn] at h; exact h
  | some zs => rw [allF_next (by omega) hf.2 hn] at h; show allF _ _ = _; rw [h]; simp

theorem ways_all : ((List.range 5).all fun t => (List.range (t + 1)).all fun x => (List.range (t + 1)).all fun y => (List.range (t + 1)).all fun z => (allF (t : Int) [0, 0, 0]).elem [(x : Int), (y : Int), (z : Int)]) = true := by decide +kernel
theorem ways_come {n : Nat} {x y z : Int} (hn : n ≤ 4) (hx : 0 ≤ x ∧ x ≤ n) (hy : 0 ≤ y ∧ y ≤ n) (hz : 0 ≤ z ∧ z ≤ n) : [x, y, z] ∈ allF (n : Int) (List.replicate 3 0) := by
  have h := ways_all
  rw [List.all_eq_true] at h
  have h := h n (by simp; omega)
  rw [List.all_eq_true] at h
  have h := h x.toNat (by simp; omega)
  rw [List.all_eq_true] at h
  have h := h y.toNat (by simp; omega)
  rw [List.all_eq_true] at h
  have h := h z.toNat (by simp; omega)
  rw [show ((x.toNat : Nat) : Int) = x by omega, show ((y.toNat : Nat) : Int) = y by omega, show ((z.toNat : Nat) : Int) = z by omega] at h
  exact List.elem_iff.1 h

/-- The best way. -/
noncomputable def wayF (ts : List (List Int)) : List Int := (bestA (worthF ts) (allF (ts.length : Int) (List.replicate 3 0))).getD []
theorem allF_ne (n : Nat) : allF (n : Int) (List.replicate 3 0) ≠ [] := by unfold allF; rw [runF]; simp
theorem wayF_is (ts : List (List Int)) : bestA (worthF ts) (allF (ts.length : Int) (List.replicate 3 0)) = some (wayF ts) := by
  obtain ⟨b, hb, _⟩ := bestA_some (f := worthF ts) rfl (allF_ne ts.length)
  unfold wayF
  rw [hb]; rfl
/-- What the best way is worth is the best worth of all things. -/
theorem wayF_worth {ts : List (List Int)} (hz : ∀ t ∈ ts, T t 0 = 0) (hn : ts.length ≤ 4) : worthF ts (wayF ts) = sv ts 7 := by
  obtain ⟨b, hb, hm, hle⟩ := bestA_some (f := worthF ts) rfl (allF_ne ts.length)
  have hw := wayF_is ts
  rw [hb] at hw
  injection hw with hw
  rw [← hw]
  apply Int.le_antisymm
  · have h8 := ge_lt 0 (b.getD 0 0) (b.getD 1 0) (b.getD 2 0)
    have hm7 : ge 0 (b.getD 0 0) (b.getD 1 0) (b.getD 2 0) ∈ subs 7 := by
      have h7 : ∀ x, x < 8 → x ∈ subs 7 := by decide
      exact h7 _ h8
    exact got_le (got_more (by omega) hm7 (wk_got ts _ _ _ 0))
  · obtain ⟨x, y, z, hx, hy, hz', _, _, _, he⟩ := got_wk ts 7 0 _ (by omega) (got_sv hz 7)
    have hmem := ways_come (n := ts.length) hn (x := x) (y := y) (z := z) (by omega) (by omega) (by omega)
    have := hle _ hmem
    unfold worthF at this ⊢
    simp at this he ⊢
    omega
theorem wayF_mem (ts : List (List Int)) : wayF ts ∈ allF (ts.length : Int) (List.replicate 3 0) := by
  obtain ⟨b, hb, hm, _⟩ := bestA_some (f := worthF ts) rfl (allF_ne ts.length)
  have hw := wayF_is ts
  rw [hb] at hw
  injection hw with hw
  rw [← hw]; exact hm

end Go.Proofs.Ytpildecpabeanab

/-
  Plain words for splits: whose sets, what they are worth together, the joined tables step by step, bounds; what things are worth alone.
-/
namespace Go.Proofs.Ytpildecpabeanab

/-- What bidder i has of the first k things. -/
def sknTo (os : List Int) (i : Int) : Nat → Nat
  | 0 => 0
  | k + 1 => sknTo os i k + (if os.getD k 0 = i then 2 ^ k else 0)
theorem sknTo_lt (os : List Int) (i : Int) : ∀ k, k ≤ 3 → sknTo os i k < 2 ^ k
  | 0, _ => by simp [sknTo]
  | k + 1, h => by
    have := sknTo_lt os i k (by omega)
    have e : 2 ^ (k + 1) = 2 ^ k + 2 ^ k := by omega
    simp only [sknTo]; split <;> omega
theorem sknTo_three (os : List Int) (i : Int) : sknTo os i 3 = skn (os.getD 0 0) (os.getD 1 0) (os.getD 2 0) i := by simp [sknTo, skn]
/-- The sets of n bidders, of the first k things. -/
def setsTo (os : List Int) (n k : Nat) : List Int := (List.range n).map (fun i : Nat => ((sknTo os (i : Int) k : Nat) : Int))
theorem setsTo_zero (os : List Int) (n : Nat) : setsTo os n 0 = List.replicate n 0 := by
  unfold setsTo sknTo
  apply List.ext_getElem
  · simp
  · intro i h1 h2; simp
theorem setsTo_len (os : List Int) (n k : Nat) : (setsTo os n k).length = n := by simp [setsTo]
theorem setsTo_at (os : List Int) {n i : Nat} (k : Nat) (h : i < n) : (setsTo os n k)[i]? = some ((sknTo os (i : Int) k : Nat) : Int) := by simp [setsTo, h]
theorem setsTo_hit {os : List Int} {n k i : Nat} (h : os[k]? = some (i : Int)) : setsTo os n (k + 1) = (setsTo os n k).set i (((sknTo os (i : Int) k : Nat) : Int) + ((2 ^ k : Nat) : Int)) := by
  have hg : os.getD k 0 = (i : Int) := by rw [List.getD_eq_getElem?_getD, h]; rfl
  apply List.ext_getElem
  · simp [setsTo]
  · intro j h1 h2
    simp only [setsTo, List.getElem_map, List.getElem_range, sknTo, hg, List.getElem_set]
    by_cases e : i = j
    · subst e; simp
    · rw [if_neg e, if_neg (by omega)]; simp
theorem setsTo_miss {os : List Int} {n k : Nat} {v : Int} (h : os[k]? = some v) (hv : (n : Int) ≤ v ∨ v < 0) : setsTo os n (k + 1) = setsTo os n k := by
  have hg : os.getD k 0 = v := by rw [List.getD_eq_getElem?_getD, h]; rfl
  apply List.ext_getElem
  · simp [setsTo]
  · intro j h1 h2
    have hj : j < n := by simpa [setsTo] using h1
    simp only [setsTo, List.getElem_map, List.getElem_range, sknTo, hg]
    rw [if_neg (by omega)]; simp
theorem setsTo_three (os : List Int) (n : Nat) : setsTo os n 3 = setsF os n := by
  unfold setsTo setsF
  simp only [sknTo_three]
theorem setsF_len (os : List Int) (n : Nat) : (setsF os n).length = n := by simp [setsF]
/-- The set of bidder i. -/
def setOf (os : List Int) (i : Nat) : Nat := skn (os.getD 0 0) (os.getD 1 0) (os.getD 2 0) (i : Int)
theorem setOf_lt (os : List Int) (i : Nat) : setOf os i < 8 := skn_lt _ _ _ _
theorem setsF_at (os : List Int) {n i : Nat} (h : i < n) : (setsF os n)[i]? = some ((setOf os i : Nat) : Int) := by simp [setsF, setOf, h]
theorem wk_snoc (ts : List (List Int)) (t : List Int) (x y z : Int) : ∀ k : Int, wk (ts ++ [t]) k x y z = wk ts k x y z + T t (skn x y z (k + ts.length)) := by
  induction ts with
  | nil => intro k; simp [wk]
  | cons a ts ih =>
    intro k
    simp only [List.cons_append, wk, ih (k + 1), List.length_cons]
    have : (k + 1 : Int) + (ts.length : Nat) = k + ((ts.length + 1 : Nat) : Int) := by omega
    rw [this]
    omega
theorem worthF_zero (ts : List (List Int)) (os : List Int) : worthF (ts.take 0) os = 0 := by simp [worthF, wk]
theorem worthF_step {ts : List (List Int)} (os : List Int) {k : Nat} {t : List Int} (h : ts[k]? = some t) : worthF (ts.take (k + 1)) os = worthF (ts.take k) os + T t (setOf os k) := by
  have hk : k < ts.length := by rcases Nat.lt_or_ge k ts.length with h1 | h1; exact h1; rw [List.getElem?_eq_none h1] at h; cases h
  have e : ts.take (k + 1) = ts.take k ++ [t] := by rw [List.take_add_one, h]; rfl
  unfold worthF
  rw [e, wk_snoc]
  unfold setOf
  congr 3
  rw [List.length_take, Nat.min_eq_left (by omega)]; omega
theorem VT.bd {t : List Int} (h : VT t) {s : Nat} (hs : s < 8) : 0 ≤ T t s ∧ T t s ≤ 30 := (h.2.2 s hs).1
theorem worthF_bd {ts : List (List Int)} (h : ∀ t ∈ ts, VT t) (os : List Int) : 0 ≤ worthF ts os ∧ worthF ts os ≤ 30 * ts.length := by
  have : ∀ (ts : List (List Int)), (∀ t ∈ ts, VT t) → ∀ (k x y z : Int), 0 ≤ wk ts k x y z ∧ wk ts k x y z ≤ 30 * ts.length := by
    intro ts
    induction ts with
    | nil => intro _ k x y z; simp [wk]
    | cons t ts ih =>
      intro h k x y z
      have h1 := ih (fun u hu => h u (by simp [hu])) (k + 1) x y z
      have h2 := (h t (by simp)).bd (skn_lt x y z k)
      simp only [wk, List.length_cons]
      omega
  exact this ts h 0 _ _ _

theorem sv_bd {ts : List (List Int)} (h : ∀ t ∈ ts, VT t) : ∀ x : Nat, x < 8 → sv ts x ≤ 30 * ts.length := by
  induction ts with
  | nil => intro x _; simp [sv]
  | cons t ts ih =>
    intro x hx
    simp only [sv]
    refine mx_le (by omega) (fun s hs => ?_)
    have h1 := ih (fun u hu => h u (by simp [hu])) (x - s) (by omega)
    have h2 := (h t (by simp)).bd (subs_lt hs)
    simp only [List.length_cons]
    omega

/-- More is worth no more to more. -/
def Mod (t : List Int) : Prop := ∀ s, s < 8 → ∀ x, x < 8 → T t (s ||| x) + T t (s &&& x) ≤ T t s + T t x

/-- What the things of a set are worth alone. -/
def alone (t : List Int) (s : Nat) : List Int := (th s).map (fun j => T t (2 ^ j.toNat))
def aloneTo (t : List Int) (s k : Nat) : List Int := (thTo s k).map (fun j => T t (2 ^ j.toNat))
/-- What the model sums up, and its greatest. -/
def sumAl (t : List Int) (s : Nat) : Nat → Int
  | 0 => 0
  | k + 1 => sumAl t s k + ((s / 2 ^ k % 2 : Nat) : Int) * T t (2 ^ k)
def mostAl (t : List Int) (s : Nat) : Nat → Int
  | 0 => 0
  | k + 1 => max (mostAl t s k) (((s / 2 ^ k % 2 : Nat) : Int) * T t (2 ^ k))
theorem alone_len (t : List Int) (s : Nat) : (alone t s).length ≤ 3 := by
  unfold alone th
  rw [List.length_map]
  have : ∀ k, (thTo s k).length ≤ k := by
    intro k
    induction k with
    | zero => simp [thTo]
    | succ k ih =>
      simp only [thTo]
      split
      · rw [List.length_append]; simp; omega
      · omega
  exact this 3
theorem alone_sum (t : List Int) {s : Nat} (hs : s < 8) : (alone t s).sum = sumAl t s 3 := by
  rcases nat8 hs with rfl | rfl | rfl | rfl | rfl | rfl | rfl | rfl <;> simp [alone, th, thTo, sumAl] <;> omega
theorem alone_max {t : List Int} (h : VT t) {s : Nat} (hs : s < 8) : (alone t s ++ [0]).foldl max 0 = mostAl t s 3 := by
  have h1 := (h.bd (s := 1) (by omega)).1
  have h2 := (h.bd (s := 2) (by omega)).1
  have h4 := (h.bd (s := 4) (by omega)).1
  rcases nat8 hs with rfl | rfl | rfl | rfl | rfl | rfl | rfl | rfl <;> simp [alone, th, thTo, mostAl] <;> omega


theorem foldl_len (f : List Int → Nat → List Int) (hf : ∀ bs q, bs.length = 8 → (f bs q).length = 8) : ∀ (l : List Nat) (bs : List Int), bs.length = 8 → (l.foldl f bs).length = 8
  | [], _, h => h
  | q :: l, bs, h => by simp only [List.foldl_cons]; exact foldl_len f hf l _ (hf bs q h)
theorem tgStep_len (a b : Nat → Int) (p : Nat) (bs : List Int) (q : Nat) (h : bs.length = 8) : (tgStep a b p bs q).length = 8 := by unfold tgStep; split <;> simp [h]
theorem tgRow_len (a b : Nat → Int) (bs : List Int) (p : Nat) (h : bs.length = 8) : (tgRow a b bs p).length = 8 := by unfold tgRow; exact foldl_len _ (fun bs q h => tgStep_len a b p bs q h) _ _ h

/-- Two as one: the first p parts of the one are done, and of the next one the first r of the other. -/
def tgTo (a b : Nat → Int) (p r : Nat) : List Int := (List.range r).foldl (tgStep a b p) ((List.range p).foldl (tgRow a b) (List.replicate 8 0))
theorem tgTo_start (a b : Nat → Int) : tgTo a b 0 0 = List.replicate 8 0 := by simp [tgTo]
theorem tgTo_next (a b : Nat → Int) (p r : Nat) : tgTo a b p (r + 1) = tgStep a b p (tgTo a b p r) r := by unfold tgTo; rw [List.range_succ, List.foldl_append]; simp only [List.foldl_cons, List.foldl_nil]
theorem tgTo_row (a b : Nat → Int) (p : Nat) : tgTo a b p 8 = tgTo a b (p + 1) 0 := by
  unfold tgTo
  rw [List.range_succ (n := p), List.foldl_append]
  simp only [List.foldl_cons, List.foldl_nil, List.range_zero]
  unfold tgRow
  rfl
theorem tgTo_all (a b : Nat → Int) : tgTo a b 8 0 = tg a b := by simp only [tgTo, tg, List.range_zero, List.foldl_nil]
theorem tgTo_len (a b : Nat → Int) (p r : Nat) : (tgTo a b p r).length = 8 := by
  unfold tgTo
  exact foldl_len _ (fun bs q h => tgStep_len a b p bs q h) _ _ (foldl_len _ (fun bs q h => tgRow_len a b bs q h) _ _ (by simp))

/-- Eight numbers from 0 to a bound. -/
def Bd (M : Int) (l : List Int) : Prop := l.length = 8 ∧ ∀ s, s < 8 → 0 ≤ T l s ∧ T l s ≤ M
theorem T_set {l : List Int} {i s : Nat} {v : Int} (hi : i < l.length) : T (l.set i v) s = if i = s then v else T l s := by
  unfold T
  rw [List.getD_eq_getElem?_getD, List.getD_eq_getElem?_getD, List.getElem?_set]
  split
  · simp
  · rfl
theorem Bd.zero {M : Int} (h : 0 ≤ M) : Bd M (List.replicate 8 0) := ⟨by simp, fun s hs => by
  have : T (List.replicate 8 0) s = 0 := by rcases nat8 hs with rfl | rfl | rfl | rfl | rfl | rfl | rfl | rfl <;> rfl
  omega⟩
theorem or8 {p r : Nat} (hp : p < 8) (hr : r < 8) : p ||| r < 8 := by
  have : ∀ p, p < 8 → ∀ r, r < 8 → p ||| r < 8 := by decide
  exact this p hp r hr
theorem tgStep_yes {a b : Nat → Int} {p r : Nat} (bs : List Int) (h : p &&& r = 0) : tgStep a b p bs r = bs.set (p ||| r) (max (T bs (p ||| r)) (a p + b r)) := by unfold tgStep; rw [if_pos h]
theorem tgStep_no {a b : Nat → Int} {p r : Nat} (bs : List Int) (h : ¬ p &&& r = 0) : tgStep a b p bs r = bs := by unfold tgStep; rw [if_neg h]
theorem foldl_bd {M : Int} (f : List Int → Nat → List Int) : ∀ (l : List Nat) (_hf : ∀ bs, ∀ q ∈ l, Bd M bs → Bd M (f bs q)) (bs : List Int), Bd M bs → Bd M (l.foldl f bs)
  | [], _, _, h => h
  | q :: l, hf, bs, h => by simp only [List.foldl_cons]; exact foldl_bd f l (fun bs q hq => hf bs q (by simp [hq])) _ (hf bs q (by simp) h)
theorem tgStep_bd {M A B : Int} {a b : Nat → Int} (ha : ∀ s, s < 8 → 0 ≤ a s ∧ a s ≤ A) (hb : ∀ s, s < 8 → 0 ≤ b s ∧ b s ≤ B) (hM : A + B ≤ M) {p r : Nat} (hp : p < 8) (hr : r < 8) {bs : List Int} (h : Bd M bs) : Bd M (tgStep a b p bs r) := by
  by_cases hz : p &&& r = 0
  · rw [tgStep_yes bs hz]
    refine ⟨by rw [List.length_set]; exact h.1, fun s hs => ?_⟩
    rw [T_set (by rw [h.1]; exact or8 hp hr)]
    have h1 := h.2 (p ||| r) (or8 hp hr)
    have h2 := h.2 s hs
    have h3 := ha p hp
    have h4 := hb r hr
    split <;> omega
  · rw [tgStep_no bs hz]; exact h
theorem tgTo_bd {M A B : Int} {a b : Nat → Int} (ha : ∀ s, s < 8 → 0 ≤ a s ∧ a s ≤ A) (hb : ∀ s, s < 8 → 0 ≤ b s ∧ b s ≤ B) (hM : A + B ≤ M) {p r : Nat} (hp : p ≤ 8) (hr : r ≤ 8) (hpr : r = 0 ∨ p < 8) : Bd M (tgTo a b p r) := by
  have h0 := ha 0 (by omega)
  have h1 := hb 0 (by omega)
  unfold tgTo
  have hrow : ∀ q, q < 8 → ∀ r, r ≤ 8 → ∀ bs, Bd M bs → Bd M ((List.range r).foldl (tgStep a b q) bs) := fun q hq r hr bs h =>
    foldl_bd _ _ (fun bs s hs h => tgStep_bd ha hb hM hq (by have := List.mem_range.1 hs; omega) h) _ h
  have hall : Bd M ((List.range p).foldl (tgRow a b) (List.replicate 8 0)) :=
    foldl_bd _ _ (fun bs s hs h => hrow s (by have := List.mem_range.1 hs; omega) 8 (Nat.le_refl _) bs h) _ (Bd.zero (by omega))
  rcases hpr with rfl | hp8
  · exact hall
  · exact hrow p hp8 r hr _ hall
theorem jnAll_step {ts : List (List Int)} {k : Nat} {t : List Int} (h : ts[k]? = some t) : jnAll (ts.take (k + 1)) = tg (T (jnAll (ts.take k))) (T t) := by
  have e : ts.take (k + 1) = ts.take k ++ [t] := by rw [List.take_add_one, h]; rfl
  rw [e, jnAll_snoc]
theorem jnAll_zero (ts : List (List Int)) : jnAll (ts.take 0) = List.replicate 8 0 := by simp [jnAll]
theorem jnAll_bd {ts : List (List Int)} (h : ∀ t ∈ ts, VT t) : Bd (30 * ts.length) (jnAll ts) :=
  ⟨jnAll_len ts, fun s hs => by rw [jnAll_at (fun t ht => (h t ht).2.1) hs]; exact ⟨sv_nonneg _ _, sv_bd h s hs⟩⟩

/-- The model's best of a set, of the first s parts. -/
def mxTo (t : List Int) (ts : List (List Int)) (x s : Nat) : Int := mx (fun s => T t s + sv ts (x - s)) ((List.range s).filter (fun s => s &&& x == s))
theorem mxTo_zero (t : List Int) (ts : List (List Int)) (x : Nat) : mxTo t ts x 0 = 0 := by simp [mxTo, mx]
theorem mxTo_yes (t : List Int) (ts : List (List Int)) {x s : Nat} (h : s &&& x = s) : mxTo t ts x (s + 1) = max (mxTo t ts x s) (T t s + sv ts (x - s)) := by
  unfold mxTo
  rw [List.range_succ, List.filter_append, show [s].filter (fun s => s &&& x == s) = [s] by simp [h], mx_snoc]
theorem mxTo_no (t : List Int) (ts : List (List Int)) {x s : Nat} (h : ¬ s &&& x = s) : mxTo t ts x (s + 1) = mxTo t ts x s := by
  unfold mxTo
  rw [List.range_succ, List.filter_append, show [s].filter (fun s => s &&& x == s) = [] by simp [h], List.append_nil]
theorem mxTo_all (t : List Int) (ts : List (List Int)) {x : Nat} (hx : x < 8) : mxTo t ts x (x + 1) = sv (t :: ts) x := by
  have e : ∀ x, x < 8 → (List.range (x + 1)).filter (fun s => s &&& x == s) = subs x := by decide
  unfold mxTo
  rw [e x hx]; rfl
theorem mxTo_bd {t : List Int} {ts : List (List Int)} (ht : VT t) (h : ∀ t ∈ ts, VT t) {x s : Nat} (hx : x < 8) (hs : s ≤ 8) : 0 ≤ mxTo t ts x s ∧ mxTo t ts x s ≤ 30 * (ts.length + 1) := by
  refine ⟨mx_nonneg _ _, mx_le (by omega) (fun r hr => ?_)⟩
  have h1 := List.mem_range.1 (List.mem_filter.1 hr).1
  have h2 := ht.bd (s := r) (by omega)
  have h3 := sv_bd h (x - r) (by omega)
  omega

end Go.Proofs.Ytpildecpabeanab

/-
  Chapter 5, plain: what bidders take from the others, what they add, and how these go together.
-/
namespace Go.Proofs.Ytpildecpabeanab

/-- What bidder i takes from the others. -/
noncomputable def pvF (ts : List (List Int)) (i : Nat) : Int := sv (ts.eraseIdx i) 7 - (worthF ts (wayF ts) - T (ts.getD i []) (setOf (wayF ts) i))
/-- What bidder i adds. -/
def adF (ts : List (List Int)) (i : Nat) : Int := sv ts 7 - sv (ts.eraseIdx i) 7

theorem in7 {x : Nat} (h : x < 8) : x ∈ subs 7 := by
  have h7 : ∀ x, x < 8 → x ∈ subs 7 := by decide
  exact h7 _ h
theorem getD_row {ts : List (List Int)} {i : Nat} {t : List Int} (h : ts[i]? = some t) : ts.getD i [] = t := by rw [List.getD_eq_getElem?_getD, h]; rfl
theorem getD_mem {ts : List (List Int)} {i : Nat} (h : i < ts.length) : ts.getD i [] ∈ ts := by
  rw [List.getD_eq_getElem?_getD, List.getElem?_eq_getElem h]; exact List.getElem_mem h
theorem mem_erase {ts : List (List Int)} {i : Nat} {t : List Int} (h : t ∈ ts.eraseIdx i) : t ∈ ts := (List.eraseIdx_sublist ts i).mem h
theorem erase_len {ts : List (List Int)} {i : Nat} (h : i < ts.length) : (ts.eraseIdx i).length = ts.length - 1 := by rw [List.length_eraseIdx]; simp [h]

/-- What the others have by a way, they can have without the bidder. -/
theorem got_others (ts : List (List Int)) (x y z : Int) : ∀ (i : Nat) (k : Int), i < ts.length → Got (ts.eraseIdx i) (ge k x y z) (wk ts k x y z - T (ts.getD i []) (skn x y z (k + i))) := by
  induction ts with
  | nil => intro i k h; simp at h
  | cons t ts ih =>
    intro i k h
    obtain ⟨h1, h2⟩ := ge_step k x y z
    cases i with
    | zero =>
      have h3 := wk_got ts x y z (k + 1)
      have h4 : ge (k + 1) x y z ∈ subs (ge k x y z) := by rw [← h2]; exact (sub_rest (ge_lt _ _ _ _) h1).1
      have h5 := got_more (ge_lt _ _ _ _) h4 h3
      simp only [List.eraseIdx_zero, List.tail_cons, wk, List.getD_cons_zero]
      rw [show T t (skn x y z k) + wk ts (k + 1) x y z - T t (skn x y z (k + (0 : Nat))) = wk ts (k + 1) x y z by
        rw [show k + ((0 : Nat) : Int) = k by omega]; omega]
      exact h5
    | succ i =>
      have h3 := ih i (k + 1) (by simpa using h)
      simp only [List.eraseIdx_cons_succ, wk, List.getD_cons_succ]
      refine ⟨_, h1, _, by rw [h2]; exact h3, ?_⟩
      rw [show k + ((i + 1 : Nat) : Int) = k + 1 + (i : Int) by omega]
      omega

/-- Without a bidder there is no more. -/
theorem got_back {ts : List (List Int)} (hz : ∀ t ∈ ts, T t 0 = 0) : ∀ (i X : Nat) (v : Int), i < ts.length → Got (ts.eraseIdx i) X v → Got ts X v := by
  induction ts with
  | nil => intro i X v h; simp at h
  | cons t ts ih =>
    intro i X v h hg
    cases i with
    | zero =>
      refine ⟨0, sub_zero X, v, by simpa using hg, ?_⟩
      rw [hz t (by simp)]; omega
    | succ i =>
      simp only [List.eraseIdx_cons_succ] at hg
      obtain ⟨s, hs, u, hu, rfl⟩ := hg
      exact ⟨s, hs, u, ih (fun t ht => hz t (List.mem_cons_of_mem _ ht)) i _ _ (by simpa using h) hu, rfl⟩

/-- What is had with a bidder is had without, but for the bidder's own. -/
theorem got_out {ts : List (List Int)} : ∀ (i X : Nat) (v : Int), X < 8 → i < ts.length → Got ts X v → ∃ s, s ∈ subs X ∧ ∃ u, Got (ts.eraseIdx i) X u ∧ v = T (ts.getD i []) s + u := by
  induction ts with
  | nil => intro i X v _ h; simp at h
  | cons t ts ih =>
    rintro i X v hX h ⟨s, hs, u, hu, rfl⟩
    cases i with
    | zero =>
      refine ⟨s, hs, u, ?_, by simp⟩
      simp only [List.eraseIdx_zero, List.tail_cons]
      exact got_more hX (sub_rest hX hs).1 hu
    | succ i =>
      obtain ⟨s', hs', u', hu', rfl⟩ := ih i (X - s) u (sub_lt hX hs) (by simpa using h) hu
      obtain ⟨r1, r2, r3⟩ := sub_sub hX hs hs'
      refine ⟨s', r1, T t s + u', ?_, by simp; omega⟩
      simp only [List.eraseIdx_cons_succ]
      refine ⟨s, hs, u', hu', rfl⟩

theorem worthF_le {ts : List (List Int)} (os : List Int) : worthF ts os ≤ sv ts 7 :=
  got_le (got_more (by omega) (in7 (ge_lt _ _ _ _)) (wk_got ts _ _ _ 0))
theorem othersv_le {ts : List (List Int)} (os : List Int) {i : Nat} (h : i < ts.length) : worthF ts os - T (ts.getD i []) (setOf os i) ≤ sv (ts.eraseIdx i) 7 := by
  have h1 := got_others ts (os.getD 0 0) (os.getD 1 0) (os.getD 2 0) i 0 h
  have h2 := got_le (got_more (by omega) (in7 (ge_lt _ _ _ _)) h1)
  rw [Int.zero_add] at h2
  exact h2
theorem without_le {ts : List (List Int)} (hz : ∀ t ∈ ts, T t 0 = 0) {i : Nat} (h : i < ts.length) : sv (ts.eraseIdx i) 7 ≤ sv ts 7 :=
  got_le (got_back hz i 7 _ h (got_sv (fun t ht => hz t (mem_erase ht)) 7))
theorem VT.top {t : List Int} (h : VT t) {s : Nat} (hs : s < 8) : T t s ≤ T t 7 := by
  obtain ⟨h0, h1, h2, h3, h4, h5, h6, h7, h8⟩ := h.all
  rcases nat8 hs with rfl | rfl | rfl | rfl | rfl | rfl | rfl | rfl <;> omega
theorem without_ge {ts : List (List Int)} (hv : ∀ t ∈ ts, VT t) {i : Nat} (h : i < ts.length) : sv ts 7 ≤ sv (ts.eraseIdx i) 7 + T (ts.getD i []) 7 := by
  obtain ⟨s, hs, u, hu, he⟩ := got_out i 7 _ (by omega) h (got_sv (fun t ht => (hv t ht).2.1) 7)
  have h1 := got_le hu
  have h2 := (hv _ (getD_mem h)).top (subs_lt hs)
  omega

theorem VTs.zeros {ts : List (List Int)} (h : ∀ t ∈ ts, VT t) : ∀ t ∈ ts, T t 0 = 0 := fun t ht => (h t ht).2.1

/-- What the truth has is what is added. -/
theorem truth_has {ts : List (List Int)} (hv : ∀ t ∈ ts, VT t) (hn : ts.length ≤ 4) (i : Nat) : T (ts.getD i []) (setOf (wayF ts) i) - pvF ts i = adF ts i := by
  unfold pvF adF
  rw [wayF_worth (VTs.zeros hv) hn]; omega
theorem pv_nn {ts : List (List Int)} {i : Nat} (h : i < ts.length) : 0 ≤ pvF ts i := by
  have := othersv_le (wayF ts) h
  unfold pvF; omega
theorem pv_le {ts : List (List Int)} (hv : ∀ t ∈ ts, VT t) (hn : ts.length ≤ 4) {i : Nat} (h : i < ts.length) : pvF ts i ≤ T (ts.getD i []) (setOf (wayF ts) i) := by
  have h1 := without_le (VTs.zeros hv) h
  have h2 := truth_has hv hn i
  unfold adF at h2
  omega
theorem ad_nn {ts : List (List Int)} (hv : ∀ t ∈ ts, VT t) {i : Nat} (h : i < ts.length) : 0 ≤ adF ts i := by
  have h1 := without_le (VTs.zeros hv) h
  unfold adF; omega
theorem ad_le {ts : List (List Int)} (hv : ∀ t ∈ ts, VT t) {i : Nat} (h : i < ts.length) : adF ts i ≤ T (ts.getD i []) 7 := by
  have h1 := without_ge hv h
  unfold adF; omega

/-- Another table told: what all have by a way differs by that bidder's own. -/
theorem wk_set (x y z : Int) (t : List Int) : ∀ (ts : List (List Int)) (i : Nat) (k : Int), i < ts.length → wk (ts.set i t) k x y z - T t (skn x y z (k + i)) = wk ts k x y z - T (ts.getD i []) (skn x y z (k + i)) := by
  intro ts
  induction ts with
  | nil => intro i k h; simp at h
  | cons u ts ih =>
    intro i k h
    cases i with
    | zero =>
      simp only [List.set_cons_zero, wk, List.getD_cons_zero]
      rw [show k + ((0 : Nat) : Int) = k by omega]; omega
    | succ i =>
      have := ih i (k + 1) (by simpa using h)
      simp only [List.set_cons_succ, wk, List.getD_cons_succ]
      rw [show k + ((i + 1 : Nat) : Int) = k + 1 + (i : Int) by omega]
      omega
theorem worthF_set {ts : List (List Int)} (os : List Int) {i : Nat} (t : List Int) (h : i < ts.length) : worthF (ts.set i t) os - T t (setOf os i) = worthF ts os - T (ts.getD i []) (setOf os i) := by
  have := wk_set (os.getD 0 0) (os.getD 1 0) (os.getD 2 0) t ts i 0 h
  rw [Int.zero_add] at this
  exact this
theorem erase_set {ts : List (List Int)} (i : Nat) (t : List Int) : (ts.set i t).eraseIdx i = ts.eraseIdx i := by
  induction ts generalizing i with
  | nil => simp
  | cons u ts ih => cases i with
    | zero => simp
    | succ i => simp [ih]
/-- What bidder i has when t is told. -/
noncomputable def gtF (ts : List (List Int)) (i : Nat) (t : List Int) : Int := T (ts.getD i []) (setOf (wayF (ts.set i t)) i) - pvF (ts.set i t) i
theorem set_get {ts : List (List Int)} {i : Nat} (h : i < ts.length) : ts.set i (ts.getD i []) = ts := by
  rw [List.getD_eq_getElem?_getD, List.getElem?_eq_getElem h]; simp
theorem getD_set {ts : List (List Int)} {i : Nat} (t : List Int) (h : i < ts.length) : (ts.set i t).getD i [] = t := by
  rw [List.getD_eq_getElem?_getD, List.getElem?_set_self h]; rfl
theorem gt_truth {ts : List (List Int)} (hv : ∀ t ∈ ts, VT t) (hn : ts.length ≤ 4) {i : Nat} (h : i < ts.length) : gtF ts i (ts.getD i []) = adF ts i := by
  unfold gtF
  rw [set_get h, truth_has hv hn]
theorem gt_le {ts : List (List Int)} {i : Nat} (t : List Int) (h : i < ts.length) : gtF ts i t ≤ adF ts i := by
  unfold gtF pvF adF
  rw [getD_set t h, erase_set]
  have h1 := worthF_set (wayF (ts.set i t)) t h
  have h2 := worthF_le (ts := ts) (wayF (ts.set i t))
  omega

/-- The sum of what all have is the worth of the way. -/
def hasTo (ts : List (List Int)) (os : List Int) : Nat → Int
  | 0 => 0
  | k + 1 => hasTo ts os k + T (ts.getD k []) (setOf os k)
theorem hasTo_is {ts : List (List Int)} (os : List Int) : ∀ k, k ≤ ts.length → hasTo ts os k = worthF (ts.take k) os
  | 0, _ => by simp [hasTo, worthF, wk]
  | k + 1, h => by
    have h1 : ts[k]? = some (ts.getD k []) := by rw [List.getD_eq_getElem?_getD, List.getElem?_eq_getElem (by omega)]; rfl
    rw [worthF_step os h1, ← hasTo_is os k (by omega)]; rfl
/-- What all pay. -/
noncomputable def paidTo (ts : List (List Int)) : Nat → Int
  | 0 => 0
  | k + 1 => paidTo ts k + pvF ts k
theorem paidTo_bd {ts : List (List Int)} (hv : ∀ t ∈ ts, VT t) (hn : ts.length ≤ 4) : ∀ k, k ≤ ts.length → 0 ≤ paidTo ts k ∧ paidTo ts k ≤ hasTo ts (wayF ts) k
  | 0, _ => by simp [paidTo, hasTo]
  | k + 1, h => by
    have h1 := paidTo_bd hv hn k (by omega)
    have h2 := pv_nn (ts := ts) (i := k) (by omega)
    have h3 := pv_le hv hn (i := k) (by omega)
    simp only [paidTo, hasTo]
    omega
theorem paid_le {ts : List (List Int)} (hv : ∀ t ∈ ts, VT t) (hn : ts.length ≤ 4) : 0 ≤ paidTo ts ts.length ∧ paidTo ts ts.length ≤ sv ts 7 := by
  have h := paidTo_bd hv hn ts.length (Nat.le_refl _)
  rw [hasTo_is _ _ (Nat.le_refl _), List.take_length, wayF_worth (VTs.zeros hv) hn] at h
  exact h
theorem pv_bd {ts : List (List Int)} (hv : ∀ t ∈ ts, VT t) (hn : ts.length ≤ 4) {i : Nat} (h : i < ts.length) : 0 ≤ pvF ts i ∧ pvF ts i ≤ 30 :=
  ⟨pv_nn h, by have h1 := pv_le hv hn h; have h2 := (hv _ (getD_mem h)).bd (setOf_lt (wayF ts) i); omega⟩

end Go.Proofs.Ytpildecpabeanab
