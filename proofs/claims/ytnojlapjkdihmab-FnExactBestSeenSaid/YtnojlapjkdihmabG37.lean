/-
  Chapter 11: ValidStages, of the program and of the model, at whatever rows.
-/
import Derived.Test.YtnojlapjkdihmabCa
import Derived.Test.YtnojlapjkdihmabG16
import Derived.Test.YtnojlapjkdihmabG04
import Derived.Test.YtnojlapjkdihmabHb
import Derived.Test.YtnojlapjkdihmabG18
namespace Go.Proofs.Ytnojlapjkdihmab
open Go.RowKit

/-- Stages. -/
def vsB (rows : List (List Int)) : Bool := inR rows.length 1 4 && rows.all vW
theorem vs_len {rows : List (List Int)} (h : ¬ (1 ≤ rows.length ∧ rows.length ≤ 4)) : vsB rows = false := by
  unfold vsB
  rw [inR_false.2 (by omega), Bool.false_and]
theorem vs_no {rows : List (List Int)} {k : Nat} {r : List Int} (hr : rows[k]? = some r) (h : vW r = false) : vsB rows = false := by
  unfold vsB
  rw [show rows.all vW = false by rw [List.all_eq_false]; exact ⟨r, List.mem_of_getElem? hr, by simp [h]⟩, Bool.and_false]
def stTo (rows : List (List Int)) (k : Nat) : Prop := (rows.take k).all vW = true
theorem stTo_zero (rows : List (List Int)) : stTo rows 0 := rfl
theorem stTo_step {rows : List (List Int)} {k : Nat} {r : List Int} (h : stTo rows k) (hr : rows[k]? = some r) (hb : vW r = true) : stTo rows (k + 1) := by
  unfold stTo at *
  rw [List.take_add_one, hr]; simp at h ⊢; exact ⟨h, hb⟩
theorem stTo_all {rows : List (List Int)} (h : stTo rows rows.length) : vsB rows = inR rows.length 1 4 := by
  unfold stTo at h
  rw [List.take_length] at h
  unfold vsB
  rw [h, Bool.and_true]
theorem vs_in {rows : List (List Int)} (h1 : 1 ≤ rows.length) (h4 : rows.length ≤ 4) (h : stTo rows rows.length) : vsB rows = true := by
  rw [stTo_all h, inR_true]; omega
theorem vs_is {rows : List (List Int)} (h : vsB rows = true) : (1 ≤ rows.length ∧ rows.length ≤ 4) ∧ ∀ r ∈ rows, vW r = true := by
  simp only [vsB, Bool.and_eq_true, inR_true, List.all_eq_true] at h
  exact ⟨by omega, h.2⟩
theorem vs_VS {rows : List (List Int)} (h : vsB rows = true) : VS rows := fun r hr => vW_valid ((vs_is h).2 r hr)

set_option maxHeartbeats 400000 in
/-- areAll at stages. -/
theorem areStages_any (A : Option Addr) (c : Nat) (rows : List (List Int)) (w : World) (h : RdR w A c rows) (hl : rows.length ≤ 1099511627776) (hl2 : ∀ r ∈ rows, r.length ≤ 1099511627776) :
    Calls Try.prog 34 #[.slice A rows.length c, .int .i64 4, .func (.func 35) #[] #[]] w fun e w' => e = .returned (.bool (vsB rows)) ∧ ∃ n, w' = w.drewN n := by
  by_cases h1 : rows.length < 1
  · have HE := Lib.hid (vs_len (rows := rows) (by omega))
    go_enter Try.func34, Try.ntmps34
    go_wp2
    go_ret
    exact ⟨by rw [HE.out]; rfl, 0, rfl⟩
  by_cases h4 : 4 < rows.length
  · have HE := Lib.hid (vs_len (rows := rows) (by omega))
    go_enter Try.func34, Try.ntmps34
    go_wp2
    go_ret
    exact ⟨by rw [HE.out]; rfl, 0, rfl⟩
  have h1' : 1 ≤ rows.length := by omega
  have h4' : rows.length ≤ 4 := by omega
  clear h1 h4
  go_enter Try.func34, Try.ntmps34
  go_wp2
  go_loopw [20] (fun i wr => ∃ k n : Nat, k ≤ rows.length ∧ i = .int .i64 k ∧ wr = w.drewN n ∧ Hid (stTo rows k)) (fun i _ => rows.length - (intOf i).toNat)
  case atStart => exact ⟨0, 0, Nat.zero_le _, rfl, rfl, Lib.hid (stTo_zero rows)⟩
  case round =>
    obtain ⟨k, n, hk, rfl, rfl, HT⟩ := hrel
    by_cases hlt : k < rows.length
    · obtain ⟨b, off, r, A', c', rfl, hr, hc, hcap, hrd⟩ := h.at_ hlt
      have hrl : r.length ≤ 1099511627776 := hl2 r (List.mem_of_getElem? hr.out)
      have HC : Hid (∀ n, Calls Try.prog 35 #[.slice A' r.length c'] (w.drewN n) fun e w' => e = .returned (.bool (vW r)) ∧ w.drewN n = w') := Lib.hid (fun n => ValidWeights_any A' c' r (w.drewN n) (hrd.out.drewN n) hrl)
      rcases hbk : vW r with _ | _
      · have HE := Lib.hid (vs_no hr.out hbk)
        rw [hbk] at HC
        clear hbk hr hrd hrl
        go_wp2_with (go_at_call 35; refine (HC.out _).mono ?_; rintro e w1 ⟨rfl, rfl⟩)
        go_ret
        exact ⟨by rw [HE.out]; rfl, _, rfl⟩
      · have HT' := Lib.hid (stTo_step HT.out hr.out hbk)
        rw [hbk] at HC
        clear hbk hr hrd hrl
        go_wp2_with (go_at_call 35; refine (HC.out _).mono ?_; rintro e w1 ⟨rfl, rfl⟩)
        go_roundw
        case rel => exact ⟨k + 1, _, by omega, by go_num, rfl, HT'⟩
        case measure => simp [intOf]; omega
    · obtain rfl : k = rows.length := by omega
      have HE := Lib.hid (vs_in h1' h4' HT.out)
      go_wp2
      go_ret
      exact ⟨by rw [HE.out]; rfl, _, rfl⟩

set_option maxHeartbeats 400000 in
theorem ValidStages_any (A : Option Addr) (c : Nat) (rows : List (List Int)) (w : World) (h : RdR w A c rows) (hl : rows.length ≤ 1099511627776) (hl2 : ∀ r ∈ rows, r.length ≤ 1099511627776) :
    Calls Try.prog 14 #[.slice A rows.length c] w fun e w' => e = .returned (.bool (vsB rows)) ∧ ∃ n, w' = w.drewN n := by
  have HC := Lib.hid (areStages_any A c rows w h hl hl2)
  go_enter Try.func14, Try.ntmps14
  go_wp2_with (go_at_call 34; refine HC.out.mono ?_; rintro e w1 ⟨rfl, m, rfl⟩)
  go_ret
  exact ⟨rfl, m, rfl⟩

set_option maxHeartbeats 800000 in
theorem validStages_any (A : Option Addr) (c : Nat) (rows : List (List Int)) (w : World) (h : RdR w A c rows) (hl : rows.length ≤ 1099511627776) (hl2 : ∀ r ∈ rows, r.length ≤ 1099511627776) :
    Calls Try.prog 32 #[.slice A rows.length c] w fun e w' => e = .returned (.bool (vsB rows)) ∧ ∃ n, w' = w.drewN n := by
  go_enter Try.func32, Try.ntmps32
  go_wp2
  go_loopw [3] (fun i wr => ∃ k n : Nat, k ≤ rows.length ∧ i = .int .i64 k ∧ wr = w.drewN n ∧ Hid (stTo rows k)) (fun i _ => rows.length - (intOf i).toNat)
  case atStart => exact ⟨0, 0, Nat.zero_le _, rfl, rfl, Lib.hid (stTo_zero rows)⟩
  case round =>
    obtain ⟨k, n, hk, rfl, rfl, HT⟩ := hrel
    by_cases hlt : k < rows.length
    · obtain ⟨b, off, r, A', c', rfl, hr, hc, hcap, hrd⟩ := h.at_ hlt
      have hrl : r.length ≤ 1099511627776 := hl2 r (List.mem_of_getElem? hr.out)
      have HC : Hid (∀ n, Calls Try.prog 55 #[.slice A' r.length c'] (w.drewN n) fun e w' => e = .returned (.bool (vW r)) ∧ w.drewN n = w') := Lib.hid (fun n => validWeights_any A' c' r (w.drewN n) (hrd.out.drewN n) hrl)
      rcases hbk : vW r with _ | _
      · have HE := Lib.hid (vs_no hr.out hbk)
        rw [hbk] at HC
        clear hbk hr hrd hrl
        go_wp2_with (go_at_call 55; refine (HC.out _).mono ?_; rintro e w1 ⟨rfl, rfl⟩)
        go_ret
        exact ⟨by rw [HE.out]; rfl, _, rfl⟩
      · have HT' := Lib.hid (stTo_step HT.out hr.out hbk)
        rw [hbk] at HC
        clear hbk hr hrd hrl
        go_wp2_with (go_at_call 55; refine (HC.out _).mono ?_; rintro e w1 ⟨rfl, rfl⟩)
        go_roundw
        case rel => exact ⟨k + 1, _, by omega, by go_num, rfl, HT'⟩
        case measure => simp [intOf]; omega
    · obtain rfl : k = rows.length := by omega
      have HE := Lib.hid (stTo_all HT.out)
      have HI := Lib.hid (fun w1 => inRange_any (rows.length : Int) 1 4 w1)
      go_wp2_with (go_at_call 45; refine (HI.out _).mono ?_; rintro e w1 ⟨rfl, rfl⟩)
      go_ret
      exact ⟨by rw [HE.out]; rfl, _, rfl⟩

set_option maxHeartbeats 400000 in
theorem SValidStages_any (A : Option Addr) (c : Nat) (rows : List (List Int)) (w : World) (h : RdR w A c rows) (hl : rows.length ≤ 1099511627776) (hl2 : ∀ r ∈ rows, r.length ≤ 1099511627776) :
    Calls Try.prog 12 #[.slice A rows.length c] w fun e w' => e = .returned (.bool (vsB rows)) ∧ ∃ n, w' = w.drewN n := by
  have HC := Lib.hid (validStages_any A c rows w h hl hl2)
  go_enter Try.func12, Try.ntmps12
  go_wp2_with (go_at_call 32; refine HC.out.mono ?_; rintro e w1 ⟨rfl, m, rfl⟩)
  go_ret
  exact ⟨rfl, m, rfl⟩
end Go.Proofs.Ytnojlapjkdihmab

/-
  Chapter 11, the program: a fraction divided, the ways below a value, BestSeen.
-/
namespace Go.Proofs.Ytnojlapjkdihmab
open Go.RowKit

set_option maxHeartbeats 600000 in
theorem over_any (a b k n m : Int) (w : World) (hq : FrIs (fq a (b * k)) n m) (h1 : -4611686018427387904 < a) (h2 : a ≤ 4611686018427387903) (h5 : 1 ≤ b * k) (h6 : b * k ≤ 4611686018427387903) :
    Calls Try.prog 49 #[frV a b, .int .i64 k] w fun e w' => e = .returned (frV n m) ∧ Below w.heap.size w w' := by
  have HC := Lib.hid (fun w => fracOf_any _ _ _ _ w hq h5 (by omega) (by omega) h6)
  clear hq
  unfold frV
  go_enter Try.func49, Try.ntmps49
  go_wp2_with fail
  refine (HC.out _).mono ?_
  rintro e w' ⟨rfl, hb⟩
  have hk := pair_in (B := w.heap.size + 1) hb (by simp)
  obtain ⟨c0, c1, f0, f1⟩ := pair_facts hk
  unfold frV
  go_wp2
  obtain ⟨e0, e1, _, _⟩ := pair_facts (pair_set (.int .i64 n) (.int .i64 m) hk)
  have hB := pair_below (.int .i64 n) (.int .i64 m) (B := w.heap.size + 1) hb (by simp)
  refine bodyPost_ret (v := frV n m) (by simp [results, Try.results49, go_sem, frV, e0, e1]) rfl ⟨rfl, ?_⟩
  exact below_up (below_al _ _) hB

theorem belowL_snoc (t : Nat) (xs : List (List Int)) (x : List Int) : belowL t (xs ++ [x]) = belowL t xs * (tailW x 0 - tailW x t) := by
  rw [belowL_app]; simp [belowL]
theorem belowL_step {t : Nat} {rows : List (List Int)} {k : Nat} {r : List Int} (hr : rows[k]? = some r) : belowL t (rows.take (k + 1)) = belowL t (rows.take k) * (tailW r 0 - tailW r t) := by
  rw [List.take_add_one, hr]; exact belowL_snoc t _ r
theorem VS.take {rows : List (List Int)} (h : VS rows) (k : Nat) : VS (rows.take k) := fun x hx => h x (List.mem_of_mem_take hx)
theorem ways_36 {rows : List (List Int)} (hv : VS rows) (hl : rows.length ≤ 4) : 1 ≤ waysL rows ∧ waysL rows ≤ 1679616 := by
  refine ⟨waysL_pos rows hv, Int.le_trans (waysL_le rows hv) ?_⟩
  have : rows.length = 0 ∨ rows.length = 1 ∨ rows.length = 2 ∨ rows.length = 3 ∨ rows.length = 4 := by omega
  rcases this with h | h | h | h | h <;> rw [h] <;> decide
theorem below_36 {rows : List (List Int)} (hv : VS rows) (hl : rows.length ≤ 4) (t : Nat) : 0 ≤ belowL t rows ∧ belowL t rows ≤ 1679616 := by
  have h1 := belowL_bd t rows hv
  have h2 := ways_36 hv hl
  omega

theorem calls_qs {P : Program} {f : FuncId} {args : Array Value} {w : World} {n : Nat} {v : Value} (h : Calls P f args (w.drewN n) fun e w' => e = .returned v ∧ w.drewN n = w') :
    Calls P f args (w.drewN n) fun e w'' => e = .returned v ∧ ∃ k, w'' = w.drewN k := h.mono fun _ _ ⟨he, hw⟩ => ⟨he, n, hw.symm⟩

set_option maxHeartbeats 1000000 in
theorem waysBelow_any (A : Option Addr) (c v : Nat) (rows : List (List Int)) (w : World) (h : RdR w A c rows) (hv : vsB rows = true) (hv6 : v ≤ 6) :
    Calls Try.prog 40 #[.slice A rows.length c, .int .i64 v] w fun e w' => e = .returned (.int .i64 (belowL v rows)) ∧ ∃ n, w' = w.drewN n := by
  have hl := (vs_is hv).1
  have HV := Lib.hid (vs_VS hv)
  have HM := Lib.hid (vs_is hv).2
  clear hv
  go_enter Try.func40, Try.ntmps40
  go_wp2
  go_loopw [5, 10] (fun s i wr => ∃ k n : Nat, k ≤ rows.length ∧ i = .int .i64 k ∧ (∃ t, s = .int .i64 t ∧ Hid (t = belowL v (rows.take k))) ∧ wr = w.drewN n) (fun _ i _ => rows.length - (intOf i).toNat)
  case atStart => exact ⟨0, 0, Nat.zero_le _, rfl, ⟨_, rfl, Lib.hid rfl⟩, rfl⟩
  case round =>
    obtain ⟨k, n, hk, rfl, ⟨t, rfl, HT⟩, rfl⟩ := hrel
    by_cases hlt : k < rows.length
    · obtain ⟨b, off, r, A', c', rfl, hr, hc, hcap, hrd⟩ := h.at_ hlt
      have hrv := HM.out r (List.mem_of_getElem? hr.out)
      obtain ⟨b', off', rfl⟩ := hrd.out.open1 (vW_le hrv).1
      have hrl := (vW_le hrv).2
      have H0 := Lib.hid (fun n => manyFrom_any b' off' c' r 0 (w.drewN n) (hrd.out.drewN n) hcap.out (by omega) (by omega) (vW_small hrv))
      have H1 := Lib.hid (fun n => manyFrom_any b' off' c' r v (w.drewN n) (hrd.out.drewN n) hcap.out (by omega) (by omega) (vW_small hrv))
      have hb := below_36 (HV.out.take k) (by rw [List.length_take]; omega) v
      rw [← HT.out] at hb
      have t0 := rev_b hrv 0
      have t1 := rev_b hrv v
      have HN : Hid (t * (tailW r 0 - tailW r v) = belowL v (rows.take (k + 1))) := Lib.hid (by rw [belowL_step hr.out, ← HT.out])
      have hb2 := below_36 (HV.out.take (k + 1)) (by rw [List.length_take]; omega) v
      rw [← HN.out] at hb2
      generalize tailW r 0 = y at *
      generalize tailW r v = z at *
      clear hr hrd hcap
      go_wp2_with fail
      refine (H0.out _).mono ?_
      rintro e w1 ⟨rfl, rfl⟩
      go_wp2_with fail
      refine (H1.out _).mono ?_
      rintro e w1 ⟨rfl, rfl⟩
      go_wp2
      go_roundw
      case rel => exact ⟨k + 1, _, by omega, by go_num, ⟨_, rfl, HN⟩, rfl⟩
      case measure => simp [intOf]; omega
    · obtain rfl : k = rows.length := by omega
      have HE : Hid (t = belowL v rows) := Lib.hid (by have := HT.out; rwa [List.take_length] at this)
      go_wp2
      go_ret
      exact ⟨by rw [HE.out]; rfl, _, rfl⟩

theorem PairAt.drew {w : World} {B : Nat} {x y : Int} (h : PairAt w B x y) : PairAt w.drew B x y := h
theorem PairAt.drewN {w : World} {B : Nat} {x y : Int} (h : PairAt w B x y) (n : Nat) : PairAt (w.drewN n) B x y := h

/-- A fraction and true, or the zero value and false. -/
def yesV (q : Rat) : Value := .tuple #[frV q.num (q.den : Int), .bool true]
def nayV : Value := .tuple #[frV 0 0, .bool false]
def stV (b : Bool) (q : Rat) : Value := if b = true then yesV q else nayV
theorem stV_yes {b : Bool} {q : Rat} (h : b = true) : stV b q = yesV q := by unfold stV; rw [if_pos h]
theorem stV_no {b : Bool} {q : Rat} (h : b = false) : stV b q = nayV := by unfold stV; rw [if_neg (by simp [h])]
end Go.Proofs.Ytnojlapjkdihmab
