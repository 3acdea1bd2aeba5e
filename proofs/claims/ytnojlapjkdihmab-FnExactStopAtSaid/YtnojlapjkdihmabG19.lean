/-
  Chapter 11, plain arithmetic: the greatest values in whole numbers, and what is had over one denominator.
-/
import Derived.Test.YtnojlapjkdihmabG12
import Derived.Test.YtnojlapjkdihmabG18
import Derived.Test.YtnojlapjkdihmabG08
import Derived.Test.YtnojlapjkdihmabG09
import Derived.Test.YtnojlapjkdihmabG02
import Derived.Test.YtnojlapjkdihmabG10
namespace Go.Proofs.Ytnojlapjkdihmab

/-- The sum of whole numbers f over 0..n-1. -/
def sI (n : Nat) (f : Nat → Int) : Int := match n with
  | 0 => 0
  | n + 1 => sI n f + f n
theorem sI_congr {n : Nat} {f g : Nat → Int} (h : ∀ k, k < n → f k = g k) : sI n f = sI n g := by
  induction n with
  | zero => rfl
  | succ n ih => rw [sI, sI, ih (fun k hk => h k (by omega)), h n (by omega)]
theorem sI_le {n : Nat} {f g : Nat → Int} (h : ∀ k, k < n → f k ≤ g k) : sI n f ≤ sI n g := by
  induction n with
  | zero => exact Int.le_refl _
  | succ n ih => rw [sI, sI]; have h1 := ih (fun k hk => h k (by omega)); have h2 := h n (by omega); omega
theorem sI_add {n : Nat} {f g : Nat → Int} : sI n (fun k => f k + g k) = sI n f + sI n g := by
  induction n with
  | zero => rfl
  | succ n ih => rw [sI, sI, sI, ih]; omega
theorem sI_sub {n : Nat} {f g : Nat → Int} : sI n (fun k => f k - g k) = sI n f - sI n g := by
  induction n with
  | zero => rfl
  | succ n ih => rw [sI, sI, sI, ih]; omega
theorem sI_mul {n : Nat} {c : Int} {f : Nat → Int} : sI n (fun k => f k * c) = sI n f * c := by
  induction n with
  | zero => simp [sI]
  | succ n ih => rw [sI, sI, ih, Int.add_mul]
theorem sI_mul' {n : Nat} {c : Int} {f : Nat → Int} : sI n (fun k => c * f k) = c * sI n f := by
  induction n with
  | zero => simp [sI]
  | succ n ih => rw [sI, sI, ih, Int.mul_add]
theorem sI_zero {n : Nat} : sI n (fun _ => 0) = 0 := by
  induction n with
  | zero => rfl
  | succ n ih => rw [sI, ih]; rfl
theorem sI_nn {n : Nat} {f : Nat → Int} (h : ∀ k, k < n → 0 ≤ f k) : 0 ≤ sI n f := by
  have := sI_le (n := n) (f := fun _ => 0) (g := f) h
  rwa [sI_zero] at this
theorem sI_swap {m : Nat} {f : Nat → Nat → Int} : ∀ n, sI n (fun v => sI m (f v)) = sI m (fun t => sI n (fun v => f v t))
  | 0 => by simp only [sI]; exact sI_zero.symm
  | n + 1 => by simp only [sI]; rw [sI_swap n, ← sI_add]
theorem sI_cast (n : Nat) (f : Nat → Int) : ((sI n f : Int) : Rat) = sumR n (fun v => (f v : Rat)) := by
  induction n with
  | zero => rfl
  | succ n ih => rw [sI, sumR, Rat.intCast_add, ih]

/-- The weights below the value s. -/
theorem wt_below (w : List Int) (s : Nat) : sI w.length (fun v => if v < s then wt w v else 0) = tailW w 0 - tailW w s := by
  have key : ∀ n, sI n (fun v => if v < s then wt w v else 0) = tailW w 0 - tailW w (min n s) := by
    intro n
    induction n with
    | zero => simp [sI]
    | succ n ih =>
      rw [sI, ih]
      by_cases h : n < s
      · rw [if_pos h, Nat.min_eq_left (by omega), Nat.min_eq_left (by omega)]
        have := tailW_step w n
        omega
      · rw [if_neg h, Nat.min_eq_right (by omega), Nat.min_eq_right (by omega)]; omega
  rw [key]
  by_cases h : w.length ≤ s
  · rw [Nat.min_eq_left h, tailW_end w _ (Nat.le_refl _), tailW_end w s h]
  · rw [Nat.min_eq_right (by omega)]
theorem wt_all (w : List Int) : sI w.length (fun v => wt w v) = tailW w 0 := by
  have h := wt_below w w.length
  rw [tailW_end w _ (Nat.le_refl _), sI_congr (g := fun v => wt w v) (fun v hv => if_pos hv)] at h
  omega

/-- In how many ways all values come, and in how many all of them are below t. -/
def waysL : List (List Int) → Int
  | [] => 1
  | w :: ws => tailW w 0 * waysL ws
def belowL (t : Nat) : List (List Int) → Int
  | [] => 1
  | w :: ws => (tailW w 0 - tailW w t) * belowL t ws
/-- The sum of the greatest values with their weights. -/
def bestS : List (List Int) → Nat → Int
  | [], m => m
  | w :: ws, m => sI w.length (fun v => wt w v * bestS ws (max m v))
def seenN (rows : List (List Int)) : Int := sI 5 (fun t => waysL rows - belowL (t + 1) rows)

theorem waysL_pos : ∀ (ws : List (List Int)), VS ws → 1 ≤ waysL ws
  | [], _ => by simp [waysL]
  | w :: ws, hv => by
    have h1 := tot_pos hv.head
    have h2 := waysL_pos ws hv.tail
    rw [waysL]
    have := Int.mul_le_mul h1 h2 (by omega) (by omega)
    omega
theorem waysL_le : ∀ (ws : List (List Int)), VS ws → waysL ws ≤ 36 ^ ws.length
  | [], _ => by simp [waysL]
  | w :: ws, hv => by
    have h1 := tailW_36 hv.head 0
    have h2 := waysL_le ws hv.tail
    have h3 := waysL_pos ws hv.tail
    rw [waysL, List.length_cons, Int.pow_succ, Int.mul_comm]
    exact Int.mul_le_mul h2 h1 (by have := tot_pos hv.head; omega) (by omega)
theorem belowL_bd (t : Nat) : ∀ (ws : List (List Int)), VS ws → 0 ≤ belowL t ws ∧ belowL t ws ≤ waysL ws
  | [], _ => by simp [waysL, belowL]
  | w :: ws, hv => by
    obtain ⟨h1, h2⟩ := belowL_bd t ws hv.tail
    have t1 := tailW_nn hv.head t
    have t2 : tailW w t ≤ tailW w 0 := by
      rcases Nat.eq_zero_or_pos t with rfl | h
      · exact Int.le_refl _
      · by_cases hl : t ≤ w.length
        · have := tailW_lt hv.head h hl; omega
        · rw [tailW_end w t (by omega)]; exact tailW_nn hv.head 0
    rw [belowL, waysL]
    exact ⟨Int.mul_nonneg (by omega) h1, Int.mul_le_mul (by omega) h2 h1 (tailW_nn hv.head 0)⟩
theorem belowL_all : ∀ (ws : List (List Int)), VS ws → belowL 6 ws = waysL ws
  | [], _ => rfl
  | w :: ws, hv => by
    have := validW_len hv.head
    rw [belowL, waysL, belowL_all ws hv.tail, tailW_end w 6 this, Int.sub_zero]

/-- The sum of the greatest values by counting: once for each value from 1 on that it is at least. -/
theorem bestS_eq : ∀ (ws : List (List Int)) (m : Nat), VS ws → m ≤ 5 → bestS ws m = sI 5 (fun t => waysL ws - if m < t + 1 then belowL (t + 1) ws else 0)
  | [], m, _, h => by
    have : m = 0 ∨ m = 1 ∨ m = 2 ∨ m = 3 ∨ m = 4 ∨ m = 5 := by omega
    rcases this with rfl | rfl | rfl | rfl | rfl | rfl <;> simp [bestS, sI, waysL, belowL]
  | w :: ws, m, hv, h => by
    have hl := validW_len hv.head
    rw [bestS, sI_congr (g := fun v => sI 5 (fun t => wt w v * waysL ws - (if v < t + 1 then wt w v else 0) * (if m < t + 1 then belowL (t + 1) ws else 0))) fun v hv' => by
      rw [bestS_eq ws (max m v) hv.tail (by omega), ← sI_mul']
      refine sI_congr fun t _ => ?_
      rw [Int.mul_sub]
      congr 1
      by_cases c1 : v < t + 1
      · by_cases c2 : m < t + 1
        · rw [if_pos c1, if_pos c2, if_pos (by omega)]
        · rw [if_neg c2, if_neg (by omega), Int.mul_zero, Int.mul_zero]
      · rw [if_neg c1, if_neg (by omega), Int.mul_zero, Int.zero_mul]]
    rw [sI_swap]
    refine sI_congr fun t _ => ?_
    rw [sI_sub, sI_mul, sI_mul, wt_all, wt_below, waysL, belowL]
    split <;> simp
theorem bestS_seen {ws : List (List Int)} (hv : VS ws) : bestS ws 0 = seenN ws := by
  rw [bestS_eq ws 0 hv (by omega)]
  exact sI_congr fun t _ => by rw [if_pos (by omega)]
theorem bestS_bd {ws : List (List Int)} (hv : VS ws) {m : Nat} (hm : m ≤ 5) : 0 ≤ bestS ws m ∧ bestS ws m ≤ 5 * waysL ws := by
  rw [bestS_eq ws m hv hm]
  have h : ∀ t, 0 ≤ waysL ws - (if m < t + 1 then belowL (t + 1) ws else 0) ∧ waysL ws - (if m < t + 1 then belowL (t + 1) ws else 0) ≤ waysL ws := fun t => by
    obtain ⟨h1, h2⟩ := belowL_bd (t + 1) ws hv
    have := waysL_pos ws hv
    split <;> omega
  refine ⟨sI_nn fun t _ => (h t).1, ?_⟩
  have := sI_le (n := 5) (f := fun t => waysL ws - if m < t + 1 then belowL (t + 1) ws else 0) (g := fun _ => waysL ws) fun t _ => (h t).2
  refine Int.le_trans this ?_
  simp only [sI]; omega

/-- The mean of whole numbers over one denominator. -/
theorem mean_fq {w : List Int} (hw : validW w = true) {D : Int} (hD : 1 ≤ D) (z : Nat → Int) : meanV w (fun v => fq (z v) D) = fq (sI w.length (fun v => wt w v * z v)) (tailW w 0 * D) := by
  have h1 : (D : Rat) ≠ 0 := by have : (0 : Rat) < (D : Rat) := Rat.intCast_pos.2 (by omega); grind
  have h2 : (tailW w 0 : Rat) ≠ 0 := by have := tot_posQ hw; grind
  have h3 : ((tailW w 0 : Rat) * (D : Rat)) ≠ 0 := fun h => (Rat.mul_eq_zero.1 h).elim h2 h1
  unfold fq
  rw [Rat.intCast_mul]
  refine (div_eq h3 ?_).symm
  have e := meanV_tot hw (fun v => (z v : Rat) / (D : Rat))
  rw [← Rat.mul_assoc, e, sI_cast, Rat.mul_comm, ← sumR_mul]
  refine sumR_congr fun v _ => ?_
  rw [Rat.intCast_mul]
  have := Rat.div_mul_cancel (a := (z v : Rat)) h1
  grind
theorem fq_nat (v : Nat) {D : Int} (hD : 1 ≤ D) : ((v : Nat) : Rat) = fq (v * D) D := by
  have h := fq_scale (z := v) (d := 1) (k := D) (by decide) hD
  rw [Int.one_mul, fq_one] at h
  exact h.symm
theorem seen_fq : ∀ (ws : List (List Int)) (m : Nat), VS ws → seenQ ws m = fq (bestS ws m) (waysL ws)
  | [], m, _ => by rw [bestS, waysL, fq_one]; rfl
  | w :: ws, m, hv => by
    rw [seenQ, bestS, waysL, ← mean_fq hv.head (waysL_pos ws hv.tail)]
    exact meanV_congr fun v _ => seen_fq ws _ hv.tail

/-- What is had lies over one denominator. -/
def Had (D : Int) (q : Rat) : Prop := ∃ z : Int, q = fq z D ∧ 0 ≤ z ∧ z ≤ 5 * D
theorem Had.sc {D : Int} {q : Rat} (h : Had D q) : Sc D (5 * D) q := by
  obtain ⟨z, h1, h2, h3⟩ := h
  exact ⟨z, h1, by omega, h3⟩
theorem Had.nat (v : Nat) (hv : v ≤ 5) {D : Int} (hD : 1 ≤ D) : Had D (v : Rat) :=
  ⟨v * D, fq_nat v hD, Int.mul_nonneg (by omega) (by omega), Int.mul_le_mul_of_nonneg_right (by omega) (by omega)⟩
theorem Had.take {D : Int} {e r : Rat} (h : Had D r) (hD : 1 ≤ D) {v : Nat} (hv : v ≤ 5) : Had D (takeQ e r v) := by
  unfold takeQ; split
  · exact h
  · exact Had.nat v hv hD
theorem mean_had {w : List Int} (hw : validW w = true) {D : Int} (hD : 1 ≤ D) {f : Nat → Rat} (hf : ∀ v, v < w.length → Had D (f v)) : Had (tailW w 0 * D) (meanV w f) := by
  have hz : ∃ z : Nat → Int, ∀ v, v < w.length → f v = fq (z v) D ∧ 0 ≤ z v ∧ z v ≤ 5 * D := by
    refine ⟨fun v => if h : v < w.length then (hf v h).choose else 0, fun v h => ?_⟩
    simp only [h, dif_pos]
    exact (hf v h).choose_spec
  obtain ⟨z, hz⟩ := hz
  refine ⟨sI w.length (fun v => wt w v * z v), ?_, sI_nn fun v hv => Int.mul_nonneg (validW_nn hw v) (hz v hv).2.1, ?_⟩
  · rw [← mean_fq hw hD]
    exact meanV_congr fun v hv => (hz v hv).1
  · have := sI_le (n := w.length) (f := fun v => wt w v * z v) (g := fun v => wt w v * (5 * D)) fun v hv => Int.mul_le_mul_of_nonneg_left (hz v hv).2.2 (validW_nn hw v)
    rw [sI_mul, wt_all] at this
    rw [← Int.mul_assoc, Int.mul_comm 5, Int.mul_assoc]
    exact this
theorem by_had (e : Rat → Rat) : ∀ (ws : List (List Int)), VS ws → Had (waysL ws) (byQ e ws)
  | [], _ => ⟨0, by rw [waysL, fq_one]; rfl, by omega, by rw [waysL]; omega⟩
  | w :: ws, hv => mean_had hv.head (waysL_pos ws hv.tail) fun v hv' => (by_had e ws hv.tail).take (waysL_pos ws hv.tail) (by have := validW_len hv.head; omega)

/-- The other way round the same is seen. -/
theorem waysL_app (xs ys : List (List Int)) : waysL (xs ++ ys) = waysL xs * waysL ys := by
  induction xs with
  | nil => simp [waysL]
  | cons x xs ih => rw [List.cons_append, waysL, waysL, ih, Int.mul_assoc]
theorem belowL_app (t : Nat) (xs ys : List (List Int)) : belowL t (xs ++ ys) = belowL t xs * belowL t ys := by
  induction xs with
  | nil => simp [belowL]
  | cons x xs ih => rw [List.cons_append, belowL, belowL, ih, Int.mul_assoc]
theorem waysL_rev (xs : List (List Int)) : waysL xs.reverse = waysL xs := by
  induction xs with
  | nil => rfl
  | cons x xs ih => rw [List.reverse_cons, waysL_app, ih, waysL, waysL, waysL, Int.mul_one, Int.mul_comm]
theorem belowL_rev (t : Nat) (xs : List (List Int)) : belowL t xs.reverse = belowL t xs := by
  induction xs with
  | nil => rfl
  | cons x xs ih => rw [List.reverse_cons, belowL_app, ih, belowL, belowL, belowL, Int.mul_one, Int.mul_comm]
theorem seenN_rev (xs : List (List Int)) : seenN xs.reverse = seenN xs := by
  unfold seenN
  exact sI_congr fun t _ => by rw [waysL_rev, belowL_rev]
end Go.Proofs.Ytnojlapjkdihmab

/-
  Chapter 11: ValidStages, of the program and of the model, at whatever rows.
-/
namespace Go.Proofs.Ytnojlapjkdihmab
open Go.RowKit

/-- Stages. -/
def vsB (rows : List (List Int)) : Bool := inR rows.length 1 4 && rows.all vW
theorem vs_len {rows : List (List Int)} (h : ¬ (1 ≤ rows.length ∧ rows.length ≤ 4)) : vsB rows = false := by
  unfold vsB
  rw [inR_false.2 (by omega), Bool.false_and]
theorem vs_no {rows : List (List Int)} {k : Nat} {r : List Int} (hr : rows[k]? = some r) (h : vW r = false) : vsB rows = false := by
  unfold vsB
  rw [show rows.all vW = false by rw [List.all_eq_false]; exact ⟨r, List.mem_of_getElem? hr, by simp [h]⟩, Bool.and_false]
def stTo (rows : List (List Int)) (k : Nat) : Prop := (rows.take k).all vW = true
theorem stTo_zero (rows : List (List Int)) : stTo rows 0 := rfl
theorem stTo_step {rows : List (List Int)} {k : Nat} {r : List Int} (h : stTo rows k) (hr : rows[k]? = some r) (hb : vW r = true) : stTo rows (k + 1) := by
  unfold stTo at *
  rw [List.take_add_one, hr]; simp at h ⊢; exact ⟨h, hb⟩
theorem stTo_all {rows : List (List Int)} (h : stTo rows rows.length) : vsB rows = inR rows.length 1 4 := by
  unfold stTo at h
  rw [List.take_length] at h
  unfold vsB
  rw [h, Bool.and_true]
theorem vs_in {rows : List (List Int)} (h1 : 1 ≤ rows.length) (h4 : rows.length ≤ 4) (h : stTo rows rows.length) : vsB rows = true := by
  rw [stTo_all h, inR_true]; omega
theorem vs_is {rows : List (List Int)} (h : vsB rows = true) : (1 ≤ rows.length ∧ rows.length ≤ 4) ∧ ∀ r ∈ rows, vW r = true := by
  simp only [vsB, Bool.and_eq_true, inR_true, List.all_eq_true] at h
  exact ⟨by omega, h.2⟩
theorem vs_VS {rows : List (List Int)} (h : vsB rows = true) : VS rows := fun r hr => vW_valid ((vs_is h).2 r hr)

set_option maxHeartbeats 400000 in
/-- areAll at stages. -/
theorem areStages_any (A : Option Addr) (c : Nat) (rows : List (List Int)) (w : World) (h : RdR w A c rows) (hl : rows.length ≤ 1099511627776) (hl2 : ∀ r ∈ rows, r.length ≤ 1099511627776) :
    Calls Try.prog 34 #[.slice A rows.length c, .int .i64 4, .func (.func 35) #[] #[]] w fun e w' => e = .returned (.bool (vsB rows)) ∧ ∃ n, w' = w.drewN n := by
  by_cases h1 : rows.length < 1
  · have HE := Lib.hid (vs_len (rows := rows) (by omega))
    go_enter Try.func34, Try.ntmps34
    go_wp2
    go_ret
    exact ⟨by rw [HE.out]; rfl, 0, rfl⟩
  by_cases h4 : 4 < rows.length
  · have HE := Lib.hid (vs_len (rows := rows) (by omega))
    go_enter Try.func34, Try.ntmps34
    go_wp2
    go_ret
    exact ⟨by rw [HE.out]; rfl, 0, rfl⟩
  have h1' : 1 ≤ rows.length := by omega
  have h4' : rows.length ≤ 4 := by omega
  clear h1 h4
  go_enter Try.func34, Try.ntmps34
  go_wp2
  go_loopw [20] (fun i wr => ∃ k n : Nat, k ≤ rows.length ∧ i = .int .i64 k ∧ wr = w.drewN n ∧ Hid (stTo rows k)) (fun i _ => rows.length - (intOf i).toNat)
  case atStart => exact ⟨0, 0, Nat.zero_le _, rfl, rfl, Lib.hid (stTo_zero rows)⟩
  case round =>
    obtain ⟨k, n, hk, rfl, rfl, HT⟩ := hrel
    by_cases hlt : k < rows.length
    · obtain ⟨b, off, r, A', c', rfl, hr, hc, hcap, hrd⟩ := h.at_ hlt
      have hrl : r.length ≤ 1099511627776 := hl2 r (List.mem_of_getElem? hr.out)
      have HC : Hid (∀ n, Calls Try.prog 35 #[.slice A' r.length c'] (w.drewN n) fun e w' => e = .returned (.bool (vW r)) ∧ w.drewN n = w') := Lib.hid (fun n => ValidWeights_any A' c' r (w.drewN n) (hrd.out.drewN n) hrl)
      rcases hbk : vW r with _ | _
      · have HE := Lib.hid (vs_no hr.out hbk)
        rw [hbk] at HC
        clear hbk hr hrd hrl
        go_wp2_with (go_at_call 35; refine (HC.out _).mono ?_; rintro e w1 ⟨rfl, rfl⟩)
        go_ret
        exact ⟨by rw [HE.out]; rfl, _, rfl⟩
      · have HT' := Lib.hid (stTo_step HT.out hr.out hbk)
        rw [hbk] at HC
        clear hbk hr hrd hrl
        go_wp2_with (go_at_call 35; refine (HC.out _).mono ?_; rintro e w1 ⟨rfl, rfl⟩)
        go_roundw
        case rel => exact ⟨k + 1, _, by omega, by go_num, rfl, HT'⟩
        case measure => simp [intOf]; omega
    · obtain rfl : k = rows.length := by omega
      have HE := Lib.hid (vs_in h1' h4' HT.out)
      go_wp2
      go_ret
      exact ⟨by rw [HE.out]; rfl, _, rfl⟩

set_option maxHeartbeats 400000 in
theorem ValidStages_any (A : Option Addr) (c : Nat) (rows : List (List Int)) (w : World) (h : RdR w A c rows) (hl : rows.length ≤ 1099511627776) (hl2 : ∀ r ∈ rows, r.length ≤ 1099511627776) :
    Calls Try.prog 14 #[.slice A rows.length c] w fun e w' => e = .returned (.bool (vsB rows)) ∧ ∃ n, w' = w.drewN n := by
  have HC := Lib.hid (areStages_any A c rows w h hl hl2)
  go_enter Try.func14, Try.ntmps14
  go_wp2_with (go_at_call 34; refine HC.out.mono ?_; rintro e w1 ⟨rfl, m, rfl⟩)
  go_ret
  exact ⟨rfl, m, rfl⟩

set_option maxHeartbeats 800000 in
theorem validStages_any (A : Option Addr) (c : Nat) (rows : List (List Int)) (w : World) (h : RdR w A c rows) (hl : rows.length ≤ 1099511627776) (hl2 : ∀ r ∈ rows, r.length ≤ 1099511627776) :
    Calls Try.prog 32 #[.slice A rows.length c] w fun e w' => e = .returned (.bool (vsB rows)) ∧ ∃ n, w' = w.drewN n := by
  go_enter Try.func32, Try.ntmps32
  go_wp2
  go_loopw [3] (fun i wr => ∃ k n : Nat, k ≤ rows.length ∧ i = .int .i64 k ∧ wr = w.drewN n ∧ Hid (stTo rows k)) (fun i _ => rows.length - (intOf i).toNat)
  case atStart => exact ⟨0, 0, Nat.zero_le _, rfl, rfl, Lib.hid (stTo_zero rows)⟩
  case round =>
    obtain ⟨k, n, hk, rfl, rfl, HT⟩ := hrel
    by_cases hlt : k < rows.length
    · obtain ⟨b, off, r, A', c', rfl, hr, hc, hcap, hrd⟩ := h.at_ hlt
      have hrl : r.length ≤ 1099511627776 := hl2 r (List.mem_of_getElem? hr.out)
      have HC : Hid (∀ n, Calls Try.prog 55 #[.slice A' r.length c'] (w.drewN n) fun e w' => e = .returned (.bool (vW r)) ∧ w.drewN n = w') := Lib.hid (fun n => validWeights_any A' c' r (w.drewN n) (hrd.out.drewN n) hrl)
      rcases hbk : vW r with _ | _
      · have HE := Lib.hid (vs_no hr.out hbk)
        rw [hbk] at HC
        clear hbk hr hrd hrl
        go_wp2_with (go_at_call 55; refine (HC.out _).mono ?_; rintro e w1 ⟨rfl, rfl⟩)
        go_ret
        exact ⟨by rw [HE.out]; rfl, _, rfl⟩
      · have HT' := Lib.hid (stTo_step HT.out hr.out hbk)
        rw [hbk] at HC
        clear hbk hr hrd hrl
        go_wp2_with (go_at_call 55; refine (HC.out _).mono ?_; rintro e w1 ⟨rfl, rfl⟩)
        go_roundw
        case rel => exact ⟨k + 1, _, by omega, by go_num, rfl, HT'⟩
        case measure => simp [intOf]; omega
    · obtain rfl : k = rows.length := by omega
      have HE := Lib.hid (stTo_all HT.out)
      have HI := Lib.hid (fun w1 => inRange_any (rows.length : Int) 1 4 w1)
      go_wp2_with (go_at_call 45; refine (HI.out _).mono ?_; rintro e w1 ⟨rfl, rfl⟩)
      go_ret
      exact ⟨by rw [HE.out]; rfl, _, rfl⟩

set_option maxHeartbeats 400000 in
theorem SValidStages_any (A : Option Addr) (c : Nat) (rows : List (List Int)) (w : World) (h : RdR w A c rows) (hl : rows.length ≤ 1099511627776) (hl2 : ∀ r ∈ rows, r.length ≤ 1099511627776) :
    Calls Try.prog 12 #[.slice A rows.length c] w fun e w' => e = .returned (.bool (vsB rows)) ∧ ∃ n, w' = w.drewN n := by
  have HC := Lib.hid (validStages_any A c rows w h hl hl2)
  go_enter Try.func12, Try.ntmps12
  go_wp2_with (go_at_call 32; refine HC.out.mono ?_; rintro e w1 ⟨rfl, m, rfl⟩)
  go_ret
  exact ⟨rfl, m, rfl⟩
end Go.Proofs.Ytnojlapjkdihmab

/-
  Chapter 11, the program: a fraction divided, the ways below a value, BestSeen.
-/
namespace Go.Proofs.Ytnojlapjkdihmab
open Go.RowKit

set_option maxHeartbeats 600000 in
theorem over_any (a b k n m : Int) (w : World) (hq : FrIs (fq a (b * k)) n m) (h1 : -4611686018427387904 < a) (h2 : a ≤ 4611686018427387903) (h5 : 1 ≤ b * k) (h6 : b * k ≤ 4611686018427387903) :
    Calls Try.prog 49 #[frV a b, .int .i64 k] w fun e w' => e = .returned (frV n m) ∧ Below w.heap.size w w' := by
  have HC := Lib.hid (fun w => fracOf_any _ _ _ _ w hq h5 (by omega) (by omega) h6)
  clear hq
  unfold frV
  go_enter Try.func49, Try.ntmps49
  go_wp2_with fail
  refine (HC.out _).mono ?_
  rintro e w' ⟨rfl, hb⟩
  have hk := pair_in (B := w.heap.size + 1) hb (by simp)
  obtain ⟨c0, c1, f0, f1⟩ := pair_facts hk
  unfold frV
  go_wp2
  obtain ⟨e0, e1, _, _⟩ := pair_facts (pair_set (.int .i64 n) (.int .i64 m) hk)
  have hB := pair_below (.int .i64 n) (.int .i64 m) (B := w.heap.size + 1) hb (by simp)
  refine bodyPost_ret (v := frV n m) (by simp [results, Try.results49, go_sem, frV, e0, e1]) rfl ⟨rfl, ?_⟩
  exact below_up (below_al _ _) hB

theorem belowL_snoc (t : Nat) (xs : List (List Int)) (x : List Int) : belowL t (xs ++ [x]) = belowL t xs * (tailW x 0 - tailW x t) := by
  rw [belowL_app]; simp [belowL]
theorem belowL_step {t : Nat} {rows : List (List Int)} {k : Nat} {r : List Int} (hr : rows[k]? = some r) : belowL t (rows.take (k + 1)) = belowL t (rows.take k) * (tailW r 0 - tailW r t) := by
  rw [List.take_add_one, hr]; exact belowL_snoc t _ r
theorem VS.take {rows : List (List Int)} (h : VS rows) (k : Nat) : VS (rows.take k) := fun x hx => h x (List.mem_of_mem_take hx)
theorem ways_36 {rows : List (List Int)} (hv : VS rows) (hl : rows.length ≤ 4) : 1 ≤ waysL rows ∧ waysL rows ≤ 1679616 := by
  refine ⟨waysL_pos rows hv, Int.le_trans (waysL_le rows hv) ?_⟩
  have : rows.length = 0 ∨ rows.length = 1 ∨ rows.length = 2 ∨ rows.length = 3 ∨ rows.length = 4 := by omega
  rcases this with h | h | h | h | h <;> rw [h] <;> decide
theorem below_36 {rows : List (List Int)} (hv : VS rows) (hl : rows.length ≤ 4) (t : Nat) : 0 ≤ belowL t rows ∧ belowL t rows ≤ 1679616 := by
  have h1 := belowL_bd t rows hv
  have h2 := ways_36 hv hl
  omega

theorem calls_qs {P : Program} {f : FuncId} {args : Array Value} {w : World} {n : Nat} {v : Value} (h : Calls P f args (w.drewN n) fun e w' => e = .returned v ∧ w.drewN n = w') :
    Calls P f args (w.drewN n) fun e w'' => e = .returned v ∧ ∃ k, w'' = w.drewN k := h.mono fun _ _ ⟨he, hw⟩ => ⟨he, n, hw.symm⟩

set_option maxHeartbeats 1000000 in
theorem waysBelow_any (A : Option Addr) (c v : Nat) (rows : List (List Int)) (w : World) (h : RdR w A c rows) (hv : vsB rows = true) (hv6 : v ≤ 6) :
    Calls Try.prog 40 #[.slice A rows.length c, .int .i64 v] w fun e w' => e = .returned (.int .i64 (belowL v rows)) ∧ ∃ n, w' = w.drewN n := by
  have hl := (vs_is hv).1
  have HV := Lib.hid (vs_VS hv)
  have HM := Lib.hid (vs_is hv).2
  clear hv
  go_enter Try.func40, Try.ntmps40
  go_wp2
  go_loopw [5, 10] (fun s i wr => ∃ k n : Nat, k ≤ rows.length ∧ i = .int .i64 k ∧ (∃ t, s = .int .i64 t ∧ Hid (t = belowL v (rows.take k))) ∧ wr = w.drewN n) (fun _ i _ => rows.length - (intOf i).toNat)
  case atStart => exact ⟨0, 0, Nat.zero_le _, rfl, ⟨_, rfl, Lib.hid rfl⟩, rfl⟩
  case round =>
    obtain ⟨k, n, hk, rfl, ⟨t, rfl, HT⟩, rfl⟩ := hrel
    by_cases hlt : k < rows.length
    · obtain ⟨b, off, r, A', c', rfl, hr, hc, hcap, hrd⟩ := h.at_ hlt
      have hrv := HM.out r (List.mem_of_getElem? hr.out)
      obtain ⟨b', off', rfl⟩ := hrd.out.open1 (vW_le hrv).1
      have hrl := (vW_le hrv).2
      have H0 := Lib.hid (fun n => manyFrom_any b' off' c' r 0 (w.drewN n) (hrd.out.drewN n) hcap.out (by omega) (by omega) (vW_small hrv))
      have H1 := Lib.hid (fun n => manyFrom_any b' off' c' r v (w.drewN n) (hrd.out.drewN n) hcap.out (by omega) (by omega) (vW_small hrv))
      have hb := below_36 (HV.out.take k) (by rw [List.length_take]; omega) v
      rw [← HT.out] at hb
      have t0 := rev_b hrv 0
      have t1 := rev_b hrv v
      have HN : Hid (t * (tailW r 0 - tailW r v) = belowL v (rows.take (k + 1))) := Lib.hid (by rw [belowL_step hr.out, ← HT.out])
      have hb2 := below_36 (HV.out.take (k + 1)) (by rw [List.length_take]; omega) v
      rw [← HN.out] at hb2
      generalize tailW r 0 = y at *
      generalize tailW r v = z at *
      clear hr hrd hcap
      go_wp2_with fail
      refine (H0.out _).mono ?_
      rintro e w1 ⟨rfl, rfl⟩
      go_wp2_with fail
      refine (H1.out _).mono ?_
      rintro e w1 ⟨rfl, rfl⟩
      go_wp2
      go_roundw
      case rel => exact ⟨k + 1, _, by omega, by go_num, ⟨_, rfl, HN⟩, rfl⟩
      case measure => simp [intOf]; omega
    · obtain rfl : k = rows.length := by omega
      have HE : Hid (t = belowL v rows) := Lib.hid (by have := HT.out; rwa [List.take_length] at this)
      go_wp2
      go_ret
      exact ⟨by rw [HE.out]; rfl, _, rfl⟩

theorem PairAt.drew {w : World} {B : Nat} {x y : Int} (h : PairAt w B x y) : PairAt w.drew B x y := h
theorem PairAt.drewN {w : World} {B : Nat} {x y : Int} (h : PairAt w B x y) (n : Nat) : PairAt (w.drewN n) B x y := h

/-- A fraction and true, or the zero value and false. -/
def yesV (q : Rat) : Value := .tuple #[frV q.num (q.den : Int), .bool true]
def nayV : Value := .tuple #[frV 0 0, .bool false]
def stV (b : Bool) (q : Rat) : Value := if b = true then yesV q else nayV
theorem stV_yes {b : Bool} {q : Rat} (h : b = true) : stV b q = yesV q := by unfold stV; rw [if_pos h]
theorem stV_no {b : Bool} {q : Rat} (h : b = false) : stV b q = nayV := by unfold stV; rw [if_neg (by simp [h])]
end Go.Proofs.Ytnojlapjkdihmab
