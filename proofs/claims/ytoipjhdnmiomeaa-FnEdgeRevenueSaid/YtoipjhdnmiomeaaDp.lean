/-
  Chapter 2, plain: what the laws say of the revenues of more bidders.
-/
import Derived.Test.YtoipjhdnmiomeaaGI
import Derived.Test.YtoipjhdnmiomeaaFnPrice
namespace Go.Proofs.Ytoipjhdnmiomeaa

theorem sum_cast (l : List (List Int)) (f : List Int → Int) : (((l.map f).sum : Int) : Rat) = sumQ (l.map fun vs => (f vs : Rat)) := by
  induction l with
  | nil => simp [sumQ]
  | cons x l ih => rw [List.map_cons, List.sum_cons, List.map_cons, sumQ, Rat.intCast_add, ih]
theorem sumV_sumP {xs : List Int} {n : Nat} (hv : vW xs = true) (h1 : 1 ≤ n) (h3 : n ≤ 3) (g : List Int → Rat) : sumV xs g n = sumP xs n g := by
  obtain ⟨l1, l2⟩ := vW_le hv
  show sumQ ((allF ((xs.length - 1 : Nat) : Int) (List.replicate n 0)).map (termQ xs g)) = _
  rw [allF_allV h1 h3 (by omega), ← sumP_is xs l1 n g]
  rfl
theorem edge_sumP {xs : List Int} {n : Nat} (hv : vW xs = true) (h1 : 1 ≤ n) (h3 : n ≤ 3) (r : Int) : (edgeV xs n r : Rat) = sumP xs n (fun vs => (edgeR vs r : Rat)) := by
  obtain ⟨l1, l2⟩ := vW_le hv
  unfold edgeV restOf
  rw [sum_cast, allF_allV h1 h3 (by omega), ← sumP_is xs l1 n]
  congr 1
  refine List.map_congr_left fun vs _ => ?_
  unfold edgeT
  rw [Rat.intCast_mul]
/-- What is brought in is virtual. -/
theorem edge_sumV {xs : List Int} {n : Nat} {r : Int} (hv : vW xs = true) (h1 : 1 ≤ n) (h3 : n ≤ 3) (hr : 0 ≤ r) : sumV xs (virtG xs r) n = (edgeV xs n r : Rat) := by
  rw [sumV_sumP hv h1 h3, edge_sumP hv h1 h3, edge_virt (vW_valid hv) n r hr]
  rfl
theorem edge_frac {xs : List Int} {n : Nat} {r x y : Int} (hv : vW xs = true) (h1 : 1 ≤ n) (h3 : n ≤ 3) (hr : 0 ≤ r) (hq : FrIs (sumV xs (virtG xs r) n) x y) : x = edgeV xs n r ∧ y = 1 := by
  rw [edge_sumV hv h1 h3 hr] at hq
  exact hq.same (FrIs.int _)
theorem edgeV_nn {xs : List Int} {n : Nat} {r : Int} (hv : vW xs = true) (h1 : 1 ≤ n) (h3 : n ≤ 3) (hr : 0 ≤ r) : 0 ≤ edgeV xs n r ∧ edgeV xs n r ≤ 279936 := by
  have hl := rest_len (edgeT xs r) (xs.length - 1) n h1 h3 (by have := vW_le hv; omega)
  unfold edgeV
  have hb : ∀ x ∈ restOf (edgeT xs r) (xs.length - 1) (some (List.replicate n 0)), 0 ≤ x ∧ x ≤ 1296 := by
    intro x hx
    obtain ⟨vs, hvs, rfl⟩ := List.mem_map.1 hx
    exact edgeT_bd hv (allF_fit (Fit.zero _ n) hvs) h1 h3 hr
  generalize restOf (edgeT xs r) (xs.length - 1) (some (List.replicate n 0)) = l at *
  have key : 0 ≤ l.sum ∧ l.sum ≤ 1296 * (l.length : Int) := by
    clear hl
    induction l with
    | nil => simp
    | cons a l ih =>
      have h1 := hb a (List.mem_cons_self ..)
      have h2 := ih fun x hx => hb x (List.mem_cons_of_mem _ hx)
      rw [List.sum_cons, List.length_cons, Int.natCast_add, Int.natCast_one, Int.mul_add]
      omega
  omega

/-- What may be brought in at best is no less. -/
theorem edge_best {xs : List Int} {n : Nat} {r : Int} (hv : vW xs = true) (h1 : 1 ≤ n) (h3 : n ≤ 3) (hr : 0 ≤ r) : (edgeV xs n r : Rat) ≤ sumV xs (ironG xs) n := by
  rw [← edge_sumV hv h1 h3 hr, sumV_sumP hv h1 h3, sumV_sumP hv h1 h3]
  exact Rat.le_trans (virt_iron (vW_valid hv) n r hr) (sumP_le (vW_valid hv) n fun vs _ _ => topR_ge _ vs r)

theorem ofWin_max (g : Int → Rat) : ∀ (vs : List Int) (r : Int), 0 ≤ r → ofWin g vs r = if r ≤ maxL vs then g (maxL vs) else 0
  | [], r, hr => by rw [ofWin, maxL, if_neg (by omega)]
  | x :: vs, r, hr => by
    have ih := ofWin_max g vs (max r (x + 1)) (by omega)
    rw [ofWin, maxL, ih]
    by_cases c : max r (maxL vs) ≤ x
    · rw [if_pos c, if_pos (by omega), show max x (maxL vs) = x by omega]
    · rw [if_neg c]
      by_cases d : max r (x + 1) ≤ maxL vs
      · rw [if_pos d, if_pos (by omega), show max x (maxL vs) = maxL vs by omega]
      · rw [if_neg d, if_neg (by omega)]

/-- Of values that rise the greatest one of g, or 0, is that of the greatest value. -/
theorem topR_max {g : Int → Rat} {L : Int} (hm : ∀ u v : Int, 0 ≤ u → u ≤ v → v < L → g u ≤ g v) : ∀ (vs : List Int), (∀ v ∈ vs, 0 ≤ v ∧ v < L) → topR g vs = if 0 ≤ maxL vs then max (g (maxL vs)) 0 else 0
  | [], _ => by rw [topR, maxL, if_neg (by omega)]
  | x :: vs, h => by
    have ih := topR_max hm vs fun v hv => h v (List.mem_cons_of_mem _ hv)
    have hx := h x (List.mem_cons_self ..)
    have hml : maxL vs < L := by
      have : maxL vs ≤ L - 1 := (maxL_le (by omega)).2 fun j y hy => by have := h y (List.mem_cons_of_mem _ (List.mem_of_getElem? hy)); omega
      omega
    rw [topR, ih, maxL, if_pos (show 0 ≤ max x (maxL vs) by omega)]
    by_cases c : 0 ≤ maxL vs
    · rw [if_pos c]
      by_cases d : x ≤ maxL vs
      · have := hm x (maxL vs) hx.1 d hml
        rw [show max x (maxL vs) = maxL vs by omega]
        grind
      · have := hm (maxL vs) x c (by omega) hx.2
        rw [show max x (maxL vs) = x by omega]
        grind
    · rw [if_neg c, show max x (maxL vs) = x by omega]

theorem inV_lt {xs vs : List Int} (h : InV xs vs) : ∀ v ∈ vs, 0 ≤ v ∧ v < (xs.length : Int) := h
theorem maxL_lt {xs vs : List Int} (h : InV xs vs) (h1 : 1 ≤ xs.length) : maxL vs < (xs.length : Int) := by
  have : maxL vs ≤ (xs.length : Int) - 1 := (maxL_le (by omega)).2 fun j y hy => by have := h y (List.mem_of_getElem? hy); omega
  omega
theorem iron_mono' {xs : List Int} (hv : vW xs = true) : ∀ u v : Int, 0 ≤ u → u ≤ v → v < (xs.length : Int) → ironAt xs u.toNat ≤ ironAt xs v.toNat := fun u v h0 h1 h2 => iron_mono (vW_valid hv) (by omega) (by omega)

/-- If the weights are regular the best is that of the best price as reserve. -/
theorem best_reg {xs : List Int} {n : Nat} (hr : regB xs = true) (hv : vW xs = true) (h1 : 1 ≤ n) (h3 : n ≤ 3) : sumV xs (ironG xs) n = (edgeV xs n (bestG xs xs.length : Nat) : Rat) := by
  obtain ⟨q1, q2, q3, _⟩ := best_iron hv
  have hreg := regB_reg hr
  obtain ⟨l1, l2⟩ := vW_le hv
  rw [← edge_sumV hv h1 h3 (by omega), sumV_sumP hv h1 h3, sumV_sumP hv h1 h3]
  refine sumP_congr (vW_valid hv) n fun vs hi hl => ?_
  have hml := maxL_lt hi l1
  unfold ironG virtG
  rw [topR_max (iron_mono' hv) vs hi, ofWin_max _ vs _ (by omega)]
  by_cases c : ((bestG xs xs.length : Nat) : Int) ≤ maxL vs
  · rw [if_pos c, if_pos (by omega)]
    have e := iron_reg (vW_valid hv) hreg (v := (maxL vs).toNat) (by omega)
    have m := iron_mono (vW_valid hv) (u := bestG xs xs.length) (v := (maxL vs).toNat) (by omega) (by omega)
    show max (ironAt xs (maxL vs).toNat) 0 = virtQ xs (maxL vs).toNat
    rw [← e]
    grind
  · rw [if_neg c]
    by_cases d : 0 ≤ maxL vs
    · rw [if_pos d]
      have := q3 (maxL vs).toNat (by omega)
      show max (ironAt xs (maxL vs).toNat) 0 = 0
      grind
    · rw [if_neg d]

theorem total_eq (xs : List Int) (c : Rat) : sumTo xs.length (fun x => (wt xs x : Rat) * c) = (tailW xs 0 : Rat) * c := by
  rw [← wt_tele xs 0 c]
  exact sumTo_congr fun x _ => by rw [if_pos (Nat.zero_le x)]
theorem total_bd {xs : List Int} (hv : vW xs = true) : 1 ≤ tailW xs 0 ∧ tailW xs 0 ≤ 36 := by
  obtain ⟨l1, l2⟩ := vW_le hv
  have h := tailW_lt (vW_valid hv) (show 0 < xs.length by omega) (Nat.le_refl _)
  have e := tailW_end xs xs.length (Nat.le_refl _)
  have := tailW_36 (vW_valid hv) 0
  omega

/-- One more is no less, as many times as there are ways of one. -/
theorem sumP_more {xs : List Int} {n : Nat} (hv : vW xs = true) {f : List Int → Rat} (h : ∀ (x : Nat) vs, x < xs.length → InV xs vs → f vs ≤ f ((x : Int) :: vs)) : (tailW xs 0 : Rat) * sumP xs n f ≤ sumP xs (n + 1) f := by
  rw [sumP, ← total_eq]
  refine sumTo_le fun x hx => Rat.mul_le_mul_of_nonneg_left ?_ (Rat.intCast_nonneg.2 (validW_nn (vW_valid hv) x))
  exact sumP_le (vW_valid hv) n fun vs hi _ => h x vs hx hi
theorem edge_sum_more {xs : List Int} {n : Nat} {r : Int} (hv : vW xs = true) (h1 : 1 ≤ n) (h3 : n + 1 ≤ 3) (hr : 0 ≤ r) : tailW xs 0 * edgeV xs n r ≤ edgeV xs (n + 1) r := by
  rw [← Rat.intCast_le_intCast, Rat.intCast_mul, edge_sumP hv h1 (by omega), edge_sumP hv (by omega) h3]
  refine sumP_more hv fun x vs _ _ => ?_
  rw [Rat.intCast_le_intCast]
  exact edge_more _ vs r hr
theorem best_sum_more {xs : List Int} {n : Nat} (hv : vW xs = true) (h1 : 1 ≤ n) (h3 : n + 1 ≤ 3) : (tailW xs 0 : Rat) * sumV xs (ironG xs) n ≤ sumV xs (ironG xs) (n + 1) := by
  rw [sumV_sumP hv h1 (by omega), sumV_sumP hv (by omega) h3]
  refine sumP_more hv fun x vs _ _ => ?_
  unfold ironG
  rw [topR]
  grind
theorem best_nn {xs : List Int} {n : Nat} (hv : vW xs = true) (h1 : 1 ≤ n) (h3 : n ≤ 3) : 0 ≤ sumV xs (ironG xs) n := by
  rw [sumV_sumP hv h1 h3]
  have := sumP_le (vW_valid hv) n (f := fun _ => 0) (g := ironG xs) fun vs _ _ => topR_nn _ vs
  rwa [sumP_zero] at this
theorem times_ge {t q : Rat} (ht : 1 ≤ t) (hq : 0 ≤ q) : q ≤ t * q := by
  have := Rat.mul_le_mul_of_nonneg_right ht hq
  rwa [Rat.one_mul] at this
theorem one_le_total {xs : List Int} (hv : vW xs = true) : (1 : Rat) ≤ (tailW xs 0 : Rat) := by
  have := (total_bd hv).1
  have h : ((1 : Int) : Rat) ≤ (tailW xs 0 : Rat) := Rat.intCast_le_intCast.2 this
  exact h
theorem best_one_le {xs : List Int} {n : Nat} (hv : vW xs = true) (h1 : 1 ≤ n) (h3 : n ≤ 3) : sumV xs (ironG xs) 1 ≤ sumV xs (ironG xs) n := by
  have step : ∀ m, 1 ≤ m → m + 1 ≤ 3 → sumV xs (ironG xs) m ≤ sumV xs (ironG xs) (m + 1) := fun m a b => Rat.le_trans (times_ge (one_le_total hv) (best_nn hv a (by omega))) (best_sum_more hv a b)
  have : n = 1 ∨ n = 2 ∨ n = 3 := by omega
  rcases this with rfl | rfl | rfl
  · exact Rat.le_refl
  · exact step 1 (by omega) (by omega)
  · exact Rat.le_trans (step 1 (by omega) (by omega)) (step 2 (by omega) (by omega))
theorem edge_one_le {xs : List Int} {n : Nat} {r : Int} (hv : vW xs = true) (h1 : 1 ≤ n) (h3 : n ≤ 3) (hr : 0 ≤ r) : edgeV xs 1 r ≤ edgeV xs n r := by
  have step : ∀ m, 1 ≤ m → m + 1 ≤ 3 → edgeV xs m r ≤ edgeV xs (m + 1) r := fun m a b => by
    have k1 := edge_sum_more (r := r) hv a b hr
    have k2 := (edgeV_nn (r := r) hv a (by omega) hr).1
    have k3 := Int.mul_le_mul_of_nonneg_right (total_bd hv).1 k2
    omega
  have : n = 1 ∨ n = 2 ∨ n = 3 := by omega
  rcases this with rfl | rfl | rfl
  · exact Int.le_refl _
  · exact step 1 (by omega) (by omega)
  · exact Int.le_trans (step 1 (by omega) (by omega)) (step 2 (by omega) (by omega))

/-- One bidder is a price. -/
theorem edge_one {xs : List Int} {r : Nat} (hv : vW xs = true) : edgeV xs 1 (r : Int) = revW xs r := by
  rw [← Rat.intCast_inj, edge_sumP hv (by omega) (by omega)]
  have e : sumP xs 1 (fun vs => (edgeR vs r : Rat)) = sumTo xs.length (fun x => if r ≤ x then (wt xs x : Rat) * (r : Rat) else 0) := by
    rw [sumP]
    refine sumTo_congr fun x _ => ?_
    rw [sumP, edgeR, maxL, show max (r : Int) (-1) = (r : Int) by omega]
    by_cases c : r ≤ x
    · rw [if_pos (by omega), if_pos c]; rfl
    · rw [if_neg (by omega), if_neg c, edgeR]; simp
  rw [e, wt_tele]
  unfold revW
  rw [Rat.intCast_mul, Rat.mul_comm]
  rfl
theorem best_one {xs : List Int} (hv : vW xs = true) : sumV xs (ironG xs) 1 = (revW xs (bestG xs xs.length) : Rat) := by
  obtain ⟨q1, q2, q3, _⟩ := best_iron hv
  rw [sumV_sumP hv (by omega) (by omega), ← (least_best (vW_valid hv) q1 q2 q3).1]
  unfold hullW
  rw [sumP]
  refine sumTo_congr fun x hx => ?_
  rw [sumP]
  unfold ironG
  rw [topR, topR]
  show (wt xs x : Rat) * max (ironAt xs ((x : Int).toNat)) 0 = _
  rw [Int.toNat_natCast]
  by_cases c : bestG xs xs.length ≤ x
  · rw [if_pos c]
    have := iron_mono (vW_valid hv) c hx
    rw [show max (ironAt xs x) 0 = ironAt xs x by grind]
  · rw [if_neg c]
    have := q3 x (by omega)
    rw [show max (ironAt xs x) 0 = 0 by grind]
    grind

/-- One bidder more is better than the best price. -/
theorem one_more {xs : List Int} {n : Nat} (hr : regB xs = true) (hv : vW xs = true) (h1 : 1 ≤ n) (h3 : n + 1 ≤ 3) : (tailW xs 0 : Rat) * sumV xs (ironG xs) n ≤ (edgeV xs (n + 1) 0 : Rat) := by
  have hw := vW_valid hv
  have hreg := regB_reg hr
  obtain ⟨l1, l2⟩ := vW_le hv
  rw [← edge_sumV hv (by omega) h3 (by omega), sumV_sumP hv h1 (by omega), sumV_sumP hv (by omega) h3, sumP, ← total_eq, sumP_swap, sumP_swap]
  refine sumP_le hw n fun vs hi hl => ?_
  rw [total_eq]
  have hml := maxL_lt hi l1
  have hm0 : 0 ≤ maxL vs := by
    rcases vs with _ | ⟨v, vs⟩
    · simp at hl; omega
    · have := (hi v (List.mem_cons_self ..)).1
      rw [maxL]; omega
  obtain ⟨m, hm⟩ : ∃ m : Nat, maxL vs = (m : Int) := ⟨(maxL vs).toNat, by omega⟩
  have e1 : ironG xs vs = max (virtQ xs m) 0 := by
    unfold ironG
    rw [topR_max (iron_mono' hv) vs hi, if_pos hm0, hm]
    show max (ironAt xs ((m : Int).toNat)) 0 = _
    rw [Int.toNat_natCast, iron_reg hw hreg (by omega)]
  have e2 : ∀ x : Nat, x < xs.length → virtG xs 0 ((x : Int) :: vs) = virtQ xs (max x m) := by
    intro x hx
    unfold virtG
    rw [ofWin_max _ _ _ (by omega), maxL, hm, if_pos (by omega)]
    show virtQ xs (max (x : Int) (m : Int)).toNat = _
    congr 1
    omega
  rw [e1, sumTo_congr (g := fun x => (wt xs x : Rat) * virtQ xs (max x m)) (fun x hx => by rw [e2 x hx])]
  have wn : ∀ x, (0 : Rat) ≤ (wt xs x : Rat) := fun x => Rat.intCast_nonneg.2 (validW_nn hw x)
  have b1 : (tailW xs 0 : Rat) * virtQ xs m ≤ sumTo xs.length (fun x => (wt xs x : Rat) * virtQ xs (max x m)) := by
    rw [← total_eq]
    exact sumTo_le fun x hx => Rat.mul_le_mul_of_nonneg_left (reg_mono hreg (by omega) (by omega)) (wn x)
  have b2 : (0 : Rat) ≤ sumTo xs.length (fun x => (wt xs x : Rat) * virtQ xs (max x m)) := by
    have z := virt_tele hw 0
    have z0 : revW xs 0 = 0 := by unfold revW; simp
    rw [z0, sumTo_congr (g := fun x => (wt xs x : Rat) * virtQ xs x) (fun x _ => by rw [if_pos (Nat.zero_le x)])] at z
    have := sumTo_le (n := xs.length) (f := fun x => (wt xs x : Rat) * virtQ xs x) (g := fun x => (wt xs x : Rat) * virtQ xs (max x m)) fun x hx => Rat.mul_le_mul_of_nonneg_left (reg_mono hreg (by omega) (by omega)) (wn x)
    rw [z] at this
    exact this
  have t0 : (0 : Rat) ≤ (tailW xs 0 : Rat) := Rat.intCast_nonneg.2 (tailW_nn hw 0)
  rcases Rat.le_total (a := virtQ xs m) (b := 0) with c | c
  · rw [show max (virtQ xs m) 0 = 0 by grind, Rat.mul_zero]; exact b2
  · rw [show max (virtQ xs m) 0 = virtQ xs m by grind]; exact b1

/-- Fractions in words of whole numbers. -/
theorem fr_le {p q : Rat} {a b c d : Int} (hp : FrIs p a b) (hq : FrIs q c d) (h : p ≤ q) : a * d ≤ c * b := by
  obtain ⟨rfl, rfl⟩ := hp
  obtain ⟨rfl, rfl⟩ := hq
  exact (Rat.le_iff _ _).1 h
theorem fr_times_le {p q : Rat} {t a b c d : Int} (hp : FrIs p a b) (hq : FrIs q c d) (h : (t : Rat) * p ≤ q) : t * a * d ≤ c * b := by
  have hb : (0 : Rat) < (b : Rat) := Rat.intCast_pos.2 (by have := hp.pos; omega)
  have hd : (0 : Rat) < (d : Rat) := Rat.intCast_pos.2 (by have := hq.pos; omega)
  have e1 : (a : Rat) = p * (b : Rat) := by rw [hp.1, hp.2]; exact rat_num p
  have e2 : (c : Rat) = q * (d : Rat) := by rw [hq.1, hq.2]; exact rat_num q
  have k := Rat.mul_le_mul_of_nonneg_right h (Rat.le_of_lt (Rat.mul_pos hb hd))
  rw [← Rat.intCast_le_intCast, Rat.intCast_mul, Rat.intCast_mul, Rat.intCast_mul, e1, e2]
  have l : (t : Rat) * p * ((b : Rat) * (d : Rat)) = (t : Rat) * (p * (b : Rat)) * (d : Rat) := by grind
  have r : q * ((b : Rat) * (d : Rat)) = q * (d : Rat) * (b : Rat) := by grind
  rw [l, r] at k
  exact k
theorem sumV_bd {xs : List Int} {g : List Int → Rat} {n : Nat} {D x y : Int} (hv : vW xs = true) (h1 : 1 ≤ n) (h3 : n ≤ 3) (h : TermsOk xs g n D) (hq : FrIs (sumV xs g n) x y) : -470184984576 ≤ x ∧ x ≤ 470184984576 ∧ 1 ≤ y ∧ y ≤ 46656 := by
  have hl := rest_len (termQ xs g) (xs.length - 1) n h1 h3 (by have := vW_le hv; omega)
  have hs := (sumQ_sc (D := D) (B := 2176782336) (by decide) _ (rest_sc h)).bd h.1 hq
  have := h.2.1
  omega
end Go.Proofs.Ytoipjhdnmiomeaa
