/-
  Chapter 11, plain arithmetic: the greatest values in whole numbers, and what is had over one denominator.
-/
import Derived.Test.YtnojlapjkdihmaaG12
import Derived.Test.YtnojlapjkdihmaaG16
import Derived.Test.YtnojlapjkdihmaaG10
import Derived.Test.YtnojlapjkdihmaaG11
import Derived.Test.YtnojlapjkdihmaaG02
namespace Go.Proofs.Ytnojlapjkdihmaa

/-- The sum of whole numbers f over 0..n-1. -/
def sI (n : Nat) (f : Nat → Int) : Int := match n with
  | 0 => 0
  | n + 1 => sI n f + f n
theorem sI_congr {n : Nat} {f g : Nat → Int} (h : ∀ k, k < n → f k = g k) : sI n f = sI n g := by
  induction n with
  | zero => rfl
  | succ n ih => rw [sI, sI, ih (fun k hk => h k (by omega)), h n (by omega)]
theorem sI_le {n : Nat} {f g : Nat → Int} (h : ∀ k, k < n → f k ≤ g k) : sI n f ≤ sI n g := by
  induction n with
  | zero => exact Int.le_refl _
  | succ n ih => rw [sI, sI]; have h1 := ih (fun k hk => h k (by omega)); have h2 := h n (by omega); omega
theorem sI_add {n : Nat} {f g : Nat → Int} : sI n (fun k => f k + g k) = sI n f + sI n g := by
  induction n with
  | zero => rfl
  | succ n ih => rw [sI, sI, sI, ih]; omega
theorem sI_sub {n : Nat} {f g : Nat → Int} : sI n (fun k => f k - g k) = sI n f - sI n g := by
  induction n with
  | zero => rfl
  | succ n ih => rw [sI, sI, sI, ih]; omega
theorem sI_mul {n : Nat} {c : Int} {f : Nat → Int} : sI n (fun k => f k * c) = sI n f * c := by
  induction n with
  | zero => simp [sI]
  | succ n ih => rw [sI, sI, ih, Int.add_mul]
theorem sI_mul' {n : Nat} {c : Int} {f : Nat → Int} : sI n (fun k => c * f k) = c * sI n f := by
  induction n with
  | zero => simp [sI]
  | succ n ih => rw [sI, sI, ih, Int.mul_add]
theorem sI_zero {n : Nat} : sI n (fun _ => 0) = 0 := by
  induction n with
  | zero => rfl
  | succ n ih => rw [sI, ih]; rfl
theorem sI_nn {n : Nat} {f : Nat → Int} (h : ∀ k, k < n → 0 ≤ f k) : 0 ≤ sI n f := by
  have := sI_le (n := n) (f := fun _ => 0) (g := f) h
  rwa [sI_zero] at this
theorem sI_swap {m : Nat} {f : Nat → Nat → Int} : ∀ n, sI n (fun v => sI m (f v)) = sI m (fun t => sI n (fun v => f v t))
  | 0 => by simp only [sI]; exact sI_zero.symm
  | n + 1 => by simp only [sI]; rw [sI_swap n, ← sI_add]
theorem sI_cast (n : Nat) (f : Nat → Int) : ((sI n f : Int) : Rat) = sumR n (fun v => (f v : Rat)) := by
  induction n with
  | zero => rfl
  | succ n ih => rw [sI, sumR, Rat.intCast_add, ih]

/-- The weights below the value s. -/
theorem wt_below (w : List Int) (s : Nat) : sI w.length (fun v => if v < s then wt w v else 0) = tailW w 0 - tailW w s := by
  have key : ∀ n, sI n (fun v => if v < s then wt w v else 0) = tailW w 0 - tailW w (min n s) := by
    intro n
    induction n with
    | zero => simp [sI]
    | succ n ih =>
      rw [sI, ih]
      by_cases h : n < s
      · rw [if_pos h, Nat.min_eq_left (by omega), Nat.min_eq_left (by omega)]
        have := tailW_step w n
        omega
      · rw [if_neg h, Nat.min_eq_right (by omega), Nat.min_eq_right (by omega)]; omega
  rw [key]
  by_cases h : w.length ≤ s
  · rw [Nat.min_eq_left h, tailW_end w _ (Nat.le_refl _), tailW_end w s h]
  · rw [Nat.min_eq_right (by omega)]
theorem wt_all (w : List Int) : sI w.length (fun v => wt w v) = tailW w 0 := by
  have h := wt_below w w.length
  rw [tailW_end w _ (Nat.le_refl _), sI_congr (g := fun v => wt w v) (fun v hv => if_pos hv)] at h
  omega

/-- In how many ways all values come, and in how many all of them are below t. -/
def waysL : List (List Int) → Int
  | [] => 1
  | w :: ws => tailW w 0 * waysL ws
def belowL (t : Nat) : List (List Int) → Int
  | [] => 1
  | w :: ws => (tailW w 0 - tailW w t) * belowL t ws
/-- The sum of the greatest values with their weights. -/
def bestS : List (List Int) → Nat → Int
  | [], m => m
  | w :: ws, m => sI w.length (fun v => wt w v * bestS ws (max m v))
def seenN (rows : List (List Int)) : Int := sI 5 (fun t => waysL rows - belowL (t + 1) rows)

theorem waysL_pos : ∀ (ws : List (List Int)), VS ws → 1 ≤ waysL ws
  | [], _ => by simp [waysL]
  | w :: ws, hv => by
    have h1 := tot_pos hv.head
    have h2 := waysL_pos ws hv.tail
    rw [waysL]
    have := Int.mul_le_mul h1 h2 (by omega) (by omega)
    omega
theorem waysL_le : ∀ (ws : List (List Int)), VS ws → waysL ws ≤ 36 ^ ws.length
  | [], _ => by simp [waysL]
  | w :: ws, hv => by
    have h1 := tailW_36 hv.head 0
    have h2 := waysL_le ws hv.tail
    have h3 := waysL_pos ws hv.tail
    rw [waysL, List.length_cons, Int.pow_succ, Int.mul_comm]
    exact Int.mul_le_mul h2 h1 (by have := tot_pos hv.head; omega) (by omega)
theorem belowL_bd (t : Nat) : ∀ (ws : List (List Int)), VS ws → 0 ≤ belowL t ws ∧ belowL t ws ≤ waysL ws
  | [], _ => by simp [waysL, belowL]
  | w :: ws, hv => by
    obtain ⟨h1, h2⟩ := belowL_bd t ws hv.tail
    have t1 := tailW_nn hv.head t
    have t2 : tailW w t ≤ tailW w 0 := by
      rcases Nat.eq_zero_or_pos t with rfl | h
      · exact Int.le_refl _
      · by_cases hl : t ≤ w.length
        · have := tailW_lt hv.head h hl; omega
        · rw [tailW_end w t (by omega)]; exact tailW_nn hv.head 0
    rw [belowL, waysL]
    exact ⟨Int.mul_nonneg (by omega) h1, Int.mul_le_mul (by omega) h2 h1 (tailW_nn hv.head 0)⟩
theorem belowL_all : ∀ (ws : List (List Int)), VS ws → belowL 6 ws = waysL ws
  | [], _ => rfl
  | w :: ws, hv => by
    have := validW_len hv.head
    rw [belowL, waysL, belowL_all ws hv.tail, tailW_end w 6 this, Int.sub_zero]

/-- The sum of the greatest values by counting: once for each value from 1 on that it is at least. -/
theorem bestS_eq : ∀ (ws : List (List Int)) (m : Nat), VS ws → m ≤ 5 → bestS ws m = sI 5 (fun t => waysL ws - if m < t + 1 then belowL (t + 1) ws else 0)
  | [], m, _, h => by
    have : m = 0 ∨ m = 1 ∨ m = 2 ∨ m = 3 ∨ m = 4 ∨ m = 5 := by omega
    rcases this with rfl | rfl | rfl | rfl | rfl | rfl <;> simp [bestS, sI, waysL, belowL]
  | w :: ws, m, hv, h => by
    have hl := validW_len hv.head
    rw [bestS, sI_congr (g := fun v => sI 5 (fun t => wt w v * waysL ws - (if v < t + 1 then wt w v else 0) * (if m < t + 1 then belowL (t + 1) ws else 0))) fun v hv' => by
      rw [bestS_eq ws (max m v) hv.tail (by omega), ← sI_mul']
      refine sI_congr fun t _ => ?_
      rw [Int.mul_sub]
      congr 1
      by_cases c1 : v < t + 1
      · by_cases c2 : m < t + 1
        · rw [if_pos c1, if_pos c2, if_pos (by omega)]
        · rw [if_neg c2, if_neg (by omega), Int.mul_zero, Int.mul_zero]
      · rw [if_neg c1, if_neg (by omega), Int.mul_zero, Int.zero_mul]]
    rw [sI_swap]
    refine sI_congr fun t _ => ?_
    rw [sI_sub, sI_mul, sI_mul, wt_all, wt_below, waysL, belowL]
    split <;> simp
theorem bestS_seen {ws : List (List Int)} (hv : VS ws) : bestS ws 0 = seenN ws := by
  rw [bestS_eq ws 0 hv (by omega)]
  exact sI_congr fun t _ => by rw [if_pos (by omega)]
theorem bestS_bd {ws : List (List Int)} (hv : VS ws) {m : Nat} (hm : m ≤ 5) : 0 ≤ bestS ws m ∧ bestS ws m ≤ 5 * waysL ws := by
  rw [bestS_eq ws m hv hm]
  have h : ∀ t, 0 ≤ waysL ws - (if m < t + 1 then belowL (t + 1) ws else 0) ∧ waysL ws - (if m < t + 1 then belowL (t + 1) ws else 0) ≤ waysL ws := fun t => by
    obtain ⟨h1, h2⟩ := belowL_bd (t + 1) ws hv
    have := waysL_pos ws hv
    split <;> omega
  refine ⟨sI_nn fun t _ => (h t).1, ?_⟩
  have := sI_le (n := 5) (f := fun t => waysL ws - if m < t + 1 then belowL (t + 1) ws else 0) (g := fun _ => waysL ws) fun t _ => (h t).2
  refine Int.le_trans this ?_
  simp only [sI]; omega

/-- The mean of whole numbers over one denominator. -/
theorem mean_fq {w : List Int} (hw : validW w = true) {D : Int} (hD : 1 ≤ D) (z : Nat → Int) : meanV w (fun v => fq (z v) D) = fq (sI w.length (fun v => wt w v * z v)) (tailW w 0 * D) := by
  have h1 : (D : Rat) ≠ 0 := by have : (0 : Rat) < (D : Rat) := Rat.intCast_pos.2 (by omega); grind
  have h2 : (tailW w 0 : Rat) ≠ 0 := by have := tot_posQ hw; grind
  have h3 : ((tailW w 0 : Rat) * (D : Rat)) ≠ 0 := fun h => (Rat.mul_eq_zero.1 h).elim h2 h1
  unfold fq
  rw [Rat.intCast_mul]
  refine (div_eq h3 ?_).symm
  have e := meanV_tot hw (fun v => (z v : Rat) / (D : Rat))
  rw [← Rat.mul_assoc, e, sI_cast, Rat.mul_comm, ← sumR_mul]
  refine sumR_congr fun v _ => ?_
  rw [Rat.intCast_mul]
  have := Rat.div_mul_cancel (a := (z v : Rat)) h1
  grind
theorem fq_nat (v : Nat) {D : Int} (hD : 1 ≤ D) : ((v : Nat) : Rat) = fq (v * D) D := by
  have h := fq_scale (z := v) (d := 1) (k := D) (by decide) hD
  rw [Int.one_mul, fq_one] at h
  exact h.symm
theorem seen_fq : ∀ (ws : List (List Int)) (m : Nat), VS ws → seenQ ws m = fq (bestS ws m) (waysL ws)
  | [], m, _ => by rw [bestS, waysL, fq_one]; rfl
  | w :: ws, m, hv => by
    rw [seenQ, bestS, waysL, ← mean_fq hv.head (waysL_pos ws hv.tail)]
    exact meanV_congr fun v _ => seen_fq ws _ hv.tail

/-- What is had lies over one denominator. -/
def Had (D : Int) (q : Rat) : Prop := ∃ z : Int, q = fq z D ∧ 0 ≤ z ∧ z ≤ 5 * D
theorem Had.sc {D : Int} {q : Rat} (h : Had D q) : Sc D (5 * D) q := by
  obtain ⟨z, h1, h2, h3⟩ := h
  exact ⟨z, h1, by omega, h3⟩
theorem Had.nat (v : Nat) (hv : v ≤ 5) {D : Int} (hD : 1 ≤ D) : Had D (v : Rat) :=
  ⟨v * D, fq_nat v hD, Int.mul_nonneg (by omega) (by omega), Int.mul_le_mul_of_nonneg_right (by omega) (by omega)⟩
theorem Had.take {D : Int} {e r : Rat} (h : Had D r) (hD : 1 ≤ D) {v : Nat} (hv : v ≤ 5) : Had D (takeQ e r v) := by
  unfold takeQ; split
  · exact h
  · exact Had.nat v hv hD
theorem mean_had {w : List Int} (hw : validW w = true) {D : Int} (hD : 1 ≤ D) {f : Nat → Rat} (hf : ∀ v, v < w.length → Had D (f v)) : Had (tailW w 0 * D) (meanV w f) := by
  have hz : ∃ z : Nat → Int, ∀ v, v < w.length → f v = fq (z v) D ∧ 0 ≤ z v ∧ z v ≤ 5 * D := by
    refine ⟨fun v => if h : v < w.length then (hf v h).choose else 0, fun v h => ?_⟩
    simp only [h, dif_pos]
    exact (hf v h).choose_spec
  obtain ⟨z, hz⟩ := hz
  refine ⟨sI w.length (fun v => wt w v * z v), ?_, sI_nn fun v hv => Int.mul_nonneg (validW_nn hw v) (hz v hv).2.1, ?_⟩
  · rw [← mean_fq hw hD]
    exact meanV_congr fun v hv => (hz v hv).1
  · have := sI_le (n := w.length) (f := fun v => wt w v * z v) (g := fun v => wt w v * (5 * D)) fun v hv => Int.mul_le_mul_of_nonneg_left (hz v hv).2.2 (validW_nn hw v)
    rw [sI_mul, wt_all] at this
    rw [← Int.mul_assoc, Int.mul_comm 5, Int.mul_assoc]
    exact this
theorem by_had (e : Rat → Rat) : ∀ (ws : List (List Int)), VS ws → Had (waysL ws) (byQ e ws)
  | [], _ => ⟨0, by rw [waysL, fq_one]; rfl, by omega, by rw [waysL]; omega⟩
  | w :: ws, hv => mean_had hv.head (waysL_pos ws hv.tail) fun v hv' => (by_had e ws hv.tail).take (waysL_pos ws hv.tail) (by have := validW_len hv.head; omega)

/-- The other way round the same is seen. -/
theorem waysL_app (xs ys : List (List Int)) : waysL (xs ++ ys) = waysL xs * waysL ys := by
  induction xs with
  | nil => simp [waysL]
  | cons x xs ih => rw [List.cons_append, waysL, waysL, ih, Int.mul_assoc]
theorem belowL_app (t : Nat) (xs ys : List (List Int)) : belowL t (xs ++ ys) = belowL t xs * belowL t ys := by
  induction xs with
  | nil => simp [belowL]
  | cons x xs ih => rw [List.cons_append, belowL, belowL, ih, Int.mul_assoc]
theorem waysL_rev (xs : List (List Int)) : waysL xs.reverse = waysL xs := by
  induction xs with
  | nil => rfl
  | cons x xs ih => rw [List.reverse_cons, waysL_app, ih, waysL, waysL, waysL, Int.mul_one, Int.mul_comm]
theorem belowL_rev (t : Nat) (xs : List (List Int)) : belowL t xs.reverse = belowL t xs := by
  induction xs with
  | nil => rfl
  | cons x xs ih => rw [List.reverse_cons, belowL_app, ih, belowL, belowL, belowL, Int.mul_one, Int.mul_comm]
theorem seenN_rev (xs : List (List Int)) : seenN xs.reverse = seenN xs := by
  unfold seenN
  exact sI_congr fun t _ => by rw [waysL_rev, belowL_rev]
end Go.Proofs.Ytnojlapjkdihmaa

/-
  Chapter 11: ValidStages, of the program and of the model, at whatever rows.
-/
namespace Go.Proofs.Ytnojlapjkdihmaa
open Go.RowKit

/-- Stages. -/
def vsB (rows : List (List Int)) : Bool := inR rows.length 1 4 && rows.all vW
theorem vs_len {rows : List (List Int)} (h : ¬ (1 ≤ rows.length ∧ rows.length ≤ 4)) : vsB rows = false := by
  unfold vsB
  rw [inR_false.2 (by omega), Bool.false_and]
theorem vs_no {rows : List (List Int)} {k : Nat} {r : List Int} (hr : rows[k]? = some r) (h : vW r = false) : vsB rows = false := by
  unfold vsB
  rw [show rows.all vW = false by rw [List.all_eq_false]; exact ⟨r, List.mem_of_getElem? hr, by simp [h]⟩, Bool.and_false]
def stTo (rows : List (List Int)) (k : Nat) : Prop := (rows.take k).all vW = true
theorem stTo_zero (rows : List (List Int)) : stTo rows 0 := rfl
theorem stTo_step {rows : List (List Int)} {k : Nat} {r : List Int} (h : stTo rows k) (hr : rows[k]? = some r) (hb : vW r = true) : stTo rows (k + 1) := by
  unfold stTo at *
  rw [List.take_add_one, hr]; simp at h ⊢; exact ⟨h, hb⟩
theorem stTo_all {rows : List (List Int)} (h : stTo rows rows.length) : vsB rows = inR rows.length 1 4 := by
  unfold stTo at h
  rw [List.take_length] at h
  unfold vsB
  rw [h, Bool.and_true]
theorem vs_in {rows : List (List Int)} (h1 : 1 ≤ rows.length) (h4 : rows.length ≤ 4) (h : stTo rows rows.length) : vsB rows = true := by
  rw [stTo_all h, inR_true]; omega
theorem vs_is {rows : List (List Int)} (h : vsB rows = true) : (1 ≤ rows.length ∧ rows.length ≤ 4) ∧ ∀ r ∈ rows, vW r = true := by
  simp only [vsB, Bool.and_eq_true, inR_true, List.all_eq_true] at h
  exact ⟨by omega, h.2⟩
theorem vs_VS {rows : List (List Int)} (h : vsB rows = true) : VS rows := fun r hr => vW_valid ((vs_is h).2 r hr)

set_option maxHeartbeats 400000 in
/-- areAll at stages. -/
theorem areStages_any (A : Option Addr) (c : Nat) (rows : List (List Int)) (w : World) (h : RdR w A c rows) (hl : rows.length ≤ 1099511627776) (hl2 : ∀ r ∈ rows, r.length ≤ 1099511627776) :
    Calls Try.prog 101 #[.slice A rows.length c, .int .i64 4, .func (.func 102) #[] #[]] w fun e w' => e = .returned (.bool (vsB rows)) ∧ ∃ n, w' = w.drewN n := by
  by_cases h1 : rows.length < 1
  · have HE := Lib.hid (vs_len (rows := rows) (by omega))
    go_enter Try.func101, Try.ntmps101
    go_wp2
    go_ret
    exact ⟨by rw [HE.out]; rfl, 0, rfl⟩
  by_cases h4 : 4 < rows.length
  · have HE := Lib.hid (vs_len (rows := rows) (by omega))
    go_enter Try.func101, Try.ntmps101
    go_wp2
    go_ret
    exact ⟨by rw [HE.out]; rfl, 0, rfl⟩
  have h1' : 1 ≤ rows.length := by omega
  have h4' : rows.length ≤ 4 := by omega
  clear h1 h4
  go_enter Try.func101, Try.ntmps101
  go_wp2
  go_loopw [20] (fun i wr => ∃ k n : Nat, k ≤ rows.length ∧ i = .int .i64 k ∧ wr = w.drewN n ∧ Hid (stTo rows k)) (fun i _ => rows.length - (intOf i).toNat)
  case atStart => exact ⟨0, 0, Nat.zero_le _, rfl, rfl, Lib.hid (stTo_zero rows)⟩
  case round =>
    obtain ⟨k, n, hk, rfl, rfl, HT⟩ := hrel
    by_cases hlt : k < rows.length
    · obtain ⟨b, off, r, A', c', rfl, hr, hc, hcap, hrd⟩ := h.at_ hlt
      have hrl : r.length ≤ 1099511627776 := hl2 r (List.mem_of_getElem? hr.out)
      have HC : Hid (∀ n, Calls Try.prog 102 #[.slice A' r.length c'] (w.drewN n) fun e w' => e = .returned (.bool (vW r)) ∧ w.drewN n = w') := Lib.hid (fun n => ValidWeights_any A' c' r (w.drewN n) (hrd.out.drewN n) hrl)
      rcases hbk : vW r with _ | _
      · have HE := Lib.hid (vs_no hr.out hbk)
        rw [hbk] at HC
        clear hbk hr hrd hrl
        go_wp2_with (go_at_call 102; refine (HC.out _).mono ?_; rintro e w1 ⟨rfl, rfl⟩)
        go_ret
        exact ⟨by rw [HE.out]; rfl, _, rfl⟩
      · have HT' := Lib.hid (stTo_step HT.out hr.out hbk)
        rw [hbk] at HC
        clear hbk hr hrd hrl
        go_wp2_with (go_at_call 102; refine (HC.out _).mono ?_; rintro e w1 ⟨rfl, rfl⟩)
        go_roundw
        case rel => exact ⟨k + 1, _, by omega, by go_num, rfl, HT'⟩
        case measure => simp [intOf]; omega
    · obtain rfl : k = rows.length := by omega
      have HE := Lib.hid (vs_in h1' h4' HT.out)
      go_wp2
      go_ret
      exact ⟨by rw [HE.out]; rfl, _, rfl⟩

set_option maxHeartbeats 400000 in
theorem ValidStages_any (A : Option Addr) (c : Nat) (rows : List (List Int)) (w : World) (h : RdR w A c rows) (hl : rows.length ≤ 1099511627776) (hl2 : ∀ r ∈ rows, r.length ≤ 1099511627776) :
    Calls Try.prog 27 #[.slice A rows.length c] w fun e w' => e = .returned (.bool (vsB rows)) ∧ ∃ n, w' = w.drewN n := by
  have HC := Lib.hid (areStages_any A c rows w h hl hl2)
  go_enter Try.func27, Try.ntmps27
  go_wp2_with (go_at_call 101; refine HC.out.mono ?_; rintro e w1 ⟨rfl, m, rfl⟩)
  go_ret
  exact ⟨rfl, m, rfl⟩

set_option maxHeartbeats 800000 in
theorem validStages_any (A : Option Addr) (c : Nat) (rows : List (List Int)) (w : World) (h : RdR w A c rows) (hl : rows.length ≤ 1099511627776) (hl2 : ∀ r ∈ rows, r.length ≤ 1099511627776) :
    Calls Try.prog 103 #[.slice A rows.length c] w fun e w' => e = .returned (.bool (vsB rows)) ∧ ∃ n, w' = w.drewN n := by
  go_enter Try.func103, Try.ntmps103
  go_wp2
  go_loopw [3] (fun i wr => ∃ k n : Nat, k ≤ rows.length ∧ i = .int .i64 k ∧ wr = w.drewN n ∧ Hid (stTo rows k)) (fun i _ => rows.length - (intOf i).toNat)
  case atStart => exact ⟨0, 0, Nat.zero_le _, rfl, rfl, Lib.hid (stTo_zero rows)⟩
  case round =>
    obtain ⟨k, n, hk, rfl, rfl, HT⟩ := hrel
    by_cases hlt : k < rows.length
    · obtain ⟨b, off, r, A', c', rfl, hr, hc, hcap, hrd⟩ := h.at_ hlt
      have hrl : r.length ≤ 1099511627776 := hl2 r (List.mem_of_getElem? hr.out)
      have HC : Hid (∀ n, Calls Try.prog 162 #[.slice A' r.length c'] (w.drewN n) fun e w' => e = .returned (.bool (vW r)) ∧ w.drewN n = w') := Lib.hid (fun n => validWeights_any A' c' r (w.drewN n) (hrd.out.drewN n) hrl)
      rcases hbk : vW r with _ | _
      · have HE := Lib.hid (vs_no hr.out hbk)
        rw [hbk] at HC
        clear hbk hr hrd hrl
        go_wp2_with (go_at_call 162; refine (HC.out _).mono ?_; rintro e w1 ⟨rfl, rfl⟩)
        go_ret
        exact ⟨by rw [HE.out]; rfl, _, rfl⟩
      · have HT' := Lib.hid (stTo_step HT.out hr.out hbk)
        rw [hbk] at HC
        clear hbk hr hrd hrl
        go_wp2_with (go_at_call 162; refine (HC.out _).mono ?_; rintro e w1 ⟨rfl, rfl⟩)
        go_roundw
        case rel => exact ⟨k + 1, _, by omega, by go_num, rfl, HT'⟩
        case measure => simp [intOf]; omega
    · obtain rfl : k = rows.length := by omega
      have HE := Lib.hid (stTo_all HT.out)
      have HI := Lib.hid (fun w1 => inRange_any (rows.length : Int) 1 4 w1)
      go_wp2_with (go_at_call 116; refine (HI.out _).mono ?_; rintro e w1 ⟨rfl, rfl⟩)
      go_ret
      exact ⟨by rw [HE.out]; rfl, _, rfl⟩

set_option maxHeartbeats 400000 in
theorem SValidStages_any (A : Option Addr) (c : Nat) (rows : List (List Int)) (w : World) (h : RdR w A c rows) (hl : rows.length ≤ 1099511627776) (hl2 : ∀ r ∈ rows, r.length ≤ 1099511627776) :
    Calls Try.prog 28 #[.slice A rows.length c] w fun e w' => e = .returned (.bool (vsB rows)) ∧ ∃ n, w' = w.drewN n := by
  have HC := Lib.hid (validStages_any A c rows w h hl hl2)
  go_enter Try.func28, Try.ntmps28
  go_wp2_with (go_at_call 103; refine HC.out.mono ?_; rintro e w1 ⟨rfl, m, rfl⟩)
  go_ret
  exact ⟨rfl, m, rfl⟩
end Go.Proofs.Ytnojlapjkdihmaa

/-
  Chapter 2: the contracts of what reckons with fractions, of the program and of the model.
-/
namespace Go.Proofs.Ytnojlapjkdihmaa
open Go.RowKit

/-- The value of a fraction. -/
def frV (n d : Int) : Value := .agg #[.int .i64 n, .int .i64 d]

theorem gcd_step (a b : Nat) : Nat.gcd b (a % b) = Nat.gcd a b := by rw [Nat.gcd_comm a b, Nat.gcd_rec b a, Nat.gcd_comm]

set_option maxHeartbeats 400000 in
theorem commonFactor_any (a b : Nat) (w : World) (ha : a ≤ 4611686018427387903) (hb : b ≤ 4611686018427387903) :
    Calls Try.prog 164 #[.int .i64 a, .int .i64 b] w fun e w' => e = .returned (.int .i64 (Nat.gcd a b : Nat)) ∧ Below w.heap.size w w' := by
  go_enter Try.func164, Try.ntmps164
  go_wp2
  go_loopw [0, 1] (fun s i wr => ∃ x y : Nat, s = .int .i64 x ∧ i = .int .i64 y ∧ x ≤ 4611686018427387903 ∧ y ≤ 4611686018427387903 ∧ Hid (Nat.gcd x y = Nat.gcd a b) ∧ Below w.heap.size w wr) (fun _ i _ => (intOf i).toNat)
  case atStart => exact ⟨a, b, rfl, rfl, ha, hb, Lib.hid rfl, Below.refl _ _⟩
  case round =>
    obtain ⟨x, y, rfl, rfl, hx, hy, HG, hbel⟩ := hrel
    by_cases h0 : y = 0
    · subst h0
      have HE := Lib.hid (show x = Nat.gcd a b by rw [← HG.out]; simp)
      go_wp2
      go_ret
      exact ⟨by rw [HE.out]; rfl, hbel⟩
    · have h1 : (1 : Int) ≤ y := by omega
      have h2 : ((y : Int) != 0) = true := by simp; omega
      have hm : (x : Int) % (y : Int) = ((x % y : Nat) : Int) := by omega
      have hm2 : x % y < y := Nat.mod_lt _ (by omega)
      have HG2 := Lib.hid (show Nat.gcd y (x % y) = Nat.gcd a b by rw [gcd_step, HG.out])
      go_wp2
      go_quiet (fail)
      go_wp2
      go_roundw
      case rel => exact ⟨y, x % y, rfl, by go_num, by omega, by omega, HG2, below_drewN' hbel _⟩
      case measure => simp [intOf]; omega

set_option maxHeartbeats 400000 in
theorem gcd_any (a b : Int) (w : World) (ha0 : -4611686018427387903 ≤ a) (ha : a ≤ 4611686018427387903) (hb0 : -4611686018427387903 ≤ b) (hb : b ≤ 4611686018427387903) :
    Calls Try.prog 165 #[.int .i64 a, .int .i64 b] w fun e w' => e = .returned (.int .i64 (Nat.gcd a.natAbs b.natAbs : Nat)) ∧ Below w.heap.size w w' := by
  go_enter Try.func165, Try.ntmps165
  go_wp2
  go_loopw [0, 1] (fun s i wr => ∃ x y : Int, s = .int .i64 x ∧ i = .int .i64 y ∧ -4611686018427387903 ≤ x ∧ x ≤ 4611686018427387903 ∧ -4611686018427387903 ≤ y ∧ y ≤ 4611686018427387903 ∧ Hid (Nat.gcd x.natAbs y.natAbs = Nat.gcd a.natAbs b.natAbs) ∧ Below w.heap.size w wr) (fun _ i _ => (intOf i).natAbs)
  case atStart => exact ⟨a, b, rfl, rfl, ha0, ha, hb0, hb, Lib.hid rfl, Below.refl _ _⟩
  case round =>
    obtain ⟨x, y, rfl, rfl, hx0, hx, hy0, hy, HG, hbel⟩ := hrel
    by_cases h0 : y = 0
    · subst h0
      by_cases hs : 0 ≤ x
      · have HE := Lib.hid (show x = ((Nat.gcd a.natAbs b.natAbs : Nat) : Int) by rw [← HG.out]; simp; omega)
        have hm : max x (-x) = x := by omega
        go_wp2
        go_ret
        exact ⟨by rw [← HE.out]; simp; try omega, hbel⟩
      · have HE := Lib.hid (show -x = ((Nat.gcd a.natAbs b.natAbs : Nat) : Int) by rw [← HG.out]; simp; omega)
        have hm : max x (-x) = -x := by omega
        go_wp2
        go_ret
        exact ⟨by rw [← HE.out]; simp; try omega, hbel⟩
    · have h2 : (y != 0) = true := by simpa using h0
      have hm2 : (x.tmod y).natAbs < y.natAbs := by rw [Int.natAbs_tmod]; exact Nat.mod_lt _ (by omega)
      have HG2 := Lib.hid (show Nat.gcd y.natAbs (x.tmod y).natAbs = Nat.gcd a.natAbs b.natAbs by rw [Int.natAbs_tmod, gcd_step, HG.out])
      go_wp2
      go_roundw
      case rel => exact ⟨y, x.tmod y, rfl, by go_num, by omega, by omega, by omega, by omega, HG2, hbel⟩
      case measure => simp only [intOf]; first | exact hm2 | (simp; exact hm2)

set_option maxHeartbeats 400000 in
theorem divisor_any (a b : Int) (w : World) (ha0 : -4611686018427387903 ≤ a) (ha : a ≤ 4611686018427387903) (hb0 : -4611686018427387903 ≤ b) (hb : b ≤ 4611686018427387903) :
    Calls Try.prog 111 #[.int .i64 a, .int .i64 b] w fun e w' => e = .returned (.int .i64 (Nat.gcd a.natAbs b.natAbs : Nat)) ∧ Below w.heap.size w w' := by
  go_enter Try.func111, Try.ntmps111
  go_wp2
  go_loopw [0, 1] (fun s i wr => ∃ x y : Int, s = .int .i64 x ∧ i = .int .i64 y ∧ -4611686018427387903 ≤ x ∧ x ≤ 4611686018427387903 ∧ -4611686018427387903 ≤ y ∧ y ≤ 4611686018427387903 ∧ Hid (Nat.gcd x.natAbs y.natAbs = Nat.gcd a.natAbs b.natAbs) ∧ Below w.heap.size w wr) (fun _ i _ => (intOf i).natAbs)
  case atStart => exact ⟨a, b, rfl, rfl, ha0, ha, hb0, hb, Lib.hid rfl, Below.refl _ _⟩
  case round =>
    obtain ⟨x, y, rfl, rfl, hx0, hx, hy0, hy, HG, hbel⟩ := hrel
    by_cases h0 : y = 0
    · subst h0
      by_cases hs : 0 ≤ x
      · have HE := Lib.hid (show x = ((Nat.gcd a.natAbs b.natAbs : Nat) : Int) by rw [← HG.out]; simp; omega)
        have hm : max x (-x) = x := by omega
        go_wp2
        go_ret
        exact ⟨by rw [← HE.out]; simp; try omega, hbel⟩
      · have HE := Lib.hid (show -x = ((Nat.gcd a.natAbs b.natAbs : Nat) : Int) by rw [← HG.out]; simp; omega)
        have hm : max x (-x) = -x := by omega
        go_wp2
        go_ret
        exact ⟨by rw [← HE.out]; simp; try omega, hbel⟩
    · have h2 : (y != 0) = true := by simpa using h0
      have hm2 : (x.tmod y).natAbs < y.natAbs := by rw [Int.natAbs_tmod]; exact Nat.mod_lt _ (by omega)
      have HG2 := Lib.hid (show Nat.gcd y.natAbs (x.tmod y).natAbs = Nat.gcd a.natAbs b.natAbs by rw [Int.natAbs_tmod, gcd_step, HG.out])
      go_wp2
      go_roundw
      case rel => exact ⟨y, x.tmod y, rfl, by go_num, by omega, by omega, by omega, by omega, HG2, hbel⟩
      case measure => simp only [intOf]; first | exact hm2 | (simp; exact hm2)
end Go.Proofs.Ytnojlapjkdihmaa
