/-
  Chapter 11, the model: the sum of the greatest values, all ways, BestSeen.
-/
import Derived.Test.YtnojlapjkdihmaaG30
import Derived.Deep.RegionHeld3
import Derived.Test.YtnojlapjkdihmaaG29
namespace Go.Proofs.Ytnojlapjkdihmaa
open Go.RowKit

theorem calls_ql {P : Program} {f : FuncId} {args : Array Value} {w : World} {n : Nat} {v : Value} (h : Calls P f args (w.drewN n) fun e w' => e = .returned v ∧ ∃ k, w' = (w.drewN n).drewN k) :
    Calls P f args (w.drewN n) fun e w'' => e = .returned v ∧ ∃ k, w'' = w.drewN k := h.mono fun _ _ ⟨he, k, hw⟩ => ⟨he, n + k, by rw [hw]; simp⟩
theorem sI_part {f : Nat → Int} {k n : Nat} (h : ∀ v, 0 ≤ f v) (hk : k ≤ n) : sI k f ≤ sI n f := by
  induction n with
  | zero => rw [show k = 0 by omega]; exact Int.le_refl _
  | succ n ih =>
    rcases Nat.lt_or_ge k (n + 1) with h1 | h1
    · rw [sI]; have := ih (by omega); have := h n; omega
    · rw [show k = n + 1 by omega]; exact Int.le_refl _
theorem bestS_8 {ws : List (List Int)} (hv : VS ws) (hl : ws.length ≤ 4) {m : Nat} (hm : m ≤ 5) : 0 ≤ bestS ws m ∧ bestS ws m ≤ 8398080 := by
  have h1 := bestS_bd hv hm
  have h2 := ways_36 hv hl
  omega

set_option maxRecDepth 100000 in
set_option maxHeartbeats 1000000 in
theorem bestSum_any : ∀ (rows : List (List Int)) (A : Option Addr) (c m : Nat) (w : World), RdR w A c rows → (∀ r ∈ rows, vW r = true) → rows.length ≤ 4 → m ≤ 5 →
    Calls Try.prog 107 #[.slice A rows.length c, .int .i64 (m : Int)] w fun e w' => e = .returned (.int .i64 (bestS rows m)) ∧ ∃ n, w' = w.drewN n := by
  intro rows
  induction rows with
  | nil =>
    intro A c m w h _ _ hm
    go_enter Try.func107, Try.ntmps107
    go_wp2
    go_ret
    exact ⟨rfl, 0, rfl⟩
  | cons d ds ih =>
    intro A c m w h hd hl4 hm
    have hvs : VS (d :: ds) := fun r hr => vW_valid (hd r hr)
    have hdv := hd d (by simp)
    have hd6 := vW_le hdv
    have HIH := Lib.hid (fun (A : Option Addr) (c m : Nat) (w : World) (h : RdR w A c ds) (hm : m ≤ 5) => ih A c m w h (fun t ht => hd t (by simp [ht])) (by simp at hl4; omega) hm)
    clear ih
    obtain ⟨b, off, hA, hcl, hrows⟩ := h.open_ (by simp)
    subst hA
    obtain ⟨A0, c0, hc0, hcap0, hrd0⟩ := hrows 0 d rfl
    rw [Nat.add_zero] at hc0
    obtain ⟨b1, off1, rfl⟩ := hrd0.open1 hd6.1
    have HRD0 := Lib.hid hrd0
    have HD := Lib.hid (fun (hc2 : 2 ≤ c) => (h.drop_ (c2 := c - 1) 1 (by simp; simp at hcl; omega) : RdR w (some ⟨b, off + 1, none⟩) (c - 1) ds))
    have HD1 := Lib.hid (fun (hc2 : c = 1) => show RdR w (some ⟨b, off, none⟩) 0 ds from by
      have : ds = [] := by have : ds.length = 0 := by simp at hcl; omega
                           exact List.eq_nil_of_length_eq_zero this
      rw [this]; exact ⟨by simp, .inl ⟨rfl, fun h => by cases h⟩⟩)
    have hc1 : 1 ≤ c := by simp at hcl; omega
    have hcl1 : ds.length + 1 ≤ c := by simpa using hcl
    have HPB : Hid (∀ k, k ≤ d.length → 0 ≤ sI k (fun v => wt d v * bestS ds (max m v)) ∧ sI k (fun v => wt d v * bestS ds (max m v)) ≤ 8398080) := Lib.hid (fun k hk => by
      have hv0 : ∀ v, 0 ≤ (if v < d.length then wt d v * bestS ds (max m v) else 0) := fun v => by
        split
        · exact Int.mul_nonneg (validW_nn hvs.head v) (bestS_bd hvs.tail (by omega)).1
        · omega
      have e : ∀ j, j ≤ d.length → sI j (fun v => wt d v * bestS ds (max m v)) = sI j (fun v => if v < d.length then wt d v * bestS ds (max m v) else 0) := fun j hj => sI_congr fun v hv => by rw [if_pos (by omega)]
      have h1 := bestS_8 hvs hl4 hm
      rw [bestS, e d.length (Nat.le_refl _)] at h1
      rw [e k hk]
      exact ⟨sI_nn fun v _ => hv0 v, Int.le_trans (sI_part hv0 hk) h1.2⟩)
    have HWB : Hid (∀ v, v < d.length → 1 ≤ wt d v ∧ wt d v ≤ 6) := Lib.hid (fun v hv => ⟨validW_lo hvs.head hv, validW_hi hvs.head v⟩)
    have HBB : Hid (∀ v, v < d.length → 0 ≤ bestS ds (max m v) ∧ bestS ds (max m v) ≤ 8398080) := Lib.hid (fun v hv => bestS_8 hvs.tail (by simp at hl4; omega) (by omega))
    have HE : Hid (bestS (d :: ds) m = sI d.length (fun v => wt d v * bestS ds (max m v))) := Lib.hid rfl
    have hdl : ds.length ≤ 3 := by simp at hl4; omega
    clear hd hl4 hrows hcap0 hrd0 h hcl hvs hdv
    rw [show (d :: ds).length = ds.length + 1 from rfl]
    have hne : ((ds.length : Int) + 1 == 0) = false := by simp; omega
    obtain ⟨LD, hLD⟩ : ∃ LD, LD = d.length := ⟨_, rfl⟩
    have HLD := Lib.hid hLD
    rw [← hLD] at hc0 hd6
    clear hLD
    go_enter Try.func107, Try.ntmps107
    go_wp2_with fail
    go_loopw [5, 6] (fun s iv wr => ∃ k n : Nat, k ≤ LD ∧ iv = .int .i64 (k : Int) ∧ (∃ x, s = .int .i64 x ∧ Hid (x = sI k (fun v => wt d v * bestS ds (max m v)))) ∧ wr = w.drewN n) (fun _ iv _ => LD - (intOf iv).toNat)
    case atStart => exact ⟨0, 0, by omega, rfl, ⟨_, rfl, Lib.hid rfl⟩, rfl⟩
    case round =>
      obtain ⟨k, n, hk, rfl, ⟨x, rfl, HX⟩, rfl⟩ := hrel
      by_cases hlt : k < LD
      · have hkd : k < d.length := by rw [← HLD.out]; exact hlt
        obtain ⟨b2, o2, y, e2, _, hy, hcy⟩ := HRD0.out.at_ (k := k) hkd
        injection e2 with e2
        injection e2 with e3 e4
        subst e3 e4
        have hyw : y = wt d k := by have := some_getD hkd; rw [hy.out] at this; exact Option.some.inj this
        have hw6 := HWB.out k hkd
        rw [← hyw] at hw6
        have hx0 := HPB.out k (by omega)
        have hx1 := HPB.out (k + 1) (by omega)
        have hbb := HBB.out k hkd
        obtain ⟨B, hB⟩ : ∃ B, B = bestS ds (max m k) := ⟨_, rfl⟩
        have HN : Hid (x + y * B = sI (k + 1) (fun v => wt d v * bestS ds (max m v))) := Lib.hid (by rw [sI, ← HX.out, hyw, hB])
        rw [← HX.out] at hx0
        rw [← HN.out] at hx1
        rw [← hB] at hbb
        have hyB := Int.mul_le_mul hw6.2 hbb.2 hbb.1 (by omega)
        have hyB0 := Int.mul_nonneg (show 0 ≤ y by omega) hbb.1
        have HC2 := Lib.hid (fun (hc2 : 2 ≤ c) => HIH.out (some ⟨b, off + 1, none⟩) (c - 1) (max m k) (w.drewN (n + 1)) (HD.out hc2) (by omega))
        have HC1 := Lib.hid (fun (hc2 : c = 1) => HIH.out (some ⟨b, off, none⟩) 0 (max m k) (w.drewN (n + 1)) (HD1.out hc2) (by omega))
        rw [← hB] at HC1 HC2
        have HMX : Hid ((if m < k then (k : Int) else (m : Int)) = ((max m k : Nat) : Int)) := Lib.hid (by split <;> omega)
        clear hyw hB hy hkd
        by_cases hc2 : 2 ≤ c
        · have HC := Lib.hid (HC2.out hc2)
          obtain ⟨e, rfl⟩ : ∃ e, c = e + 2 := ⟨c - 2, by omega⟩
          have hcq : ds.length + 1 ≤ e + 2 := hcl1
          have hcq1 : (ds.length : Int) + 1 ≤ (e : Int) + 2 := by omega
          have hcq2 : (1 : Int) ≤ (ds.length : Int) + 1 := by omega
          clear HC1 HC2 HIH HD HD1 hc2 hcl1
          go_wp2_with fail
          refine wp_region_noPanic ?_
          refine wp_region_held_drew (S := fun W' => W'.cell? ⟨b, off, none⟩ = some (.slice (some ⟨b1, off1, none⟩) LD c0) ∧ W'.cell? ⟨b1, off1 + k, none⟩ = some (.int .i64 y)) (by kernel_rfl) ⟨hc0, hcy⟩ (fun hHeld => ?_)
          refine wpAnyH_take (i := 0) (v := _) rfl (by kernel_rfl) (by kernel_rfl) (by kernel_rfl) (fun _ _ _ h => h) (Or.inl ⟨by rfl, fun w hSw => by (obtain ⟨s0, s1⟩ := hSw; go_simp; try rfl)⟩) (by assumption) ?_
          refine wpAnyH_take (i := 1) (v := _) rfl (by kernel_rfl) (by kernel_rfl) (by kernel_rfl) (fun _ _ _ h => h) (Or.inl ⟨by rfl, fun w hSw => by (obtain ⟨s0, s1⟩ := hSw; go_simp; try rfl)⟩) (by assumption) ?_
          refine wpAnyH_take (i := 2) (v := _) rfl (by kernel_rfl) (by kernel_rfl) (by kernel_rfl) (fun _ _ _ h => h) (Or.inl ⟨by rfl, fun w hSw => by (obtain ⟨s0, s1⟩ := hSw; go_simp; try rfl)⟩) (by assumption) ?_
          refine wpAnyH_take (i := 3) (v := _) rfl (by kernel_rfl) (by kernel_rfl) (by kernel_rfl) (fun _ _ _ h => h) (Or.inl ⟨by rfl, fun w hSw => by (obtain ⟨s0, s1⟩ := hSw; go_simp; try rfl)⟩) (by assumption) ?_
          refine wpAnyH_take (i := 4) (v := _) rfl (by kernel_rfl) (by kernel_rfl) (by kernel_rfl) (fun _ _ _ h => h) (Or.inl ⟨by rfl, fun w hSw => by (obtain ⟨s0, s1⟩ := hSw; go_simp; try rfl)⟩) (by assumption) ?_
          refine wpAnyH_take (i := 5) (v := _) rfl (by kernel_rfl) (by kernel_rfl) (by kernel_rfl) (fun _ _ _ h => h) (Or.inl ⟨by rfl, fun w hSw => by (obtain ⟨s0, s1⟩ := hSw; go_simp; try rfl)⟩) (by assumption) ?_
          refine wpAnyH_take (i := 6) (v := _) rfl (by kernel_rfl) (by kernel_rfl) (by kernel_rfl) (fun _ _ _ h => h) (Or.inl ⟨by rfl, fun w hSw => by (obtain ⟨s0, s1⟩ := hSw; go_simp; try rfl)⟩) (by assumption) ?_
          refine wpAnyH_take (i := 7) (v := _) rfl (by kernel_rfl) (by kernel_rfl) (by kernel_rfl) (fun _ _ _ h => h) (Or.inl ⟨by rfl, fun w hSw => by (obtain ⟨s0, s1⟩ := hSw; go_simp; try rfl)⟩) (by assumption) ?_
          refine wpAnyH_take (i := 8) (v := _) rfl (by kernel_rfl) (by kernel_rfl) (by kernel_rfl) (fun _ _ _ h => h) (Or.inl ⟨by rfl, fun w hSw => by (obtain ⟨s0, s1⟩ := hSw; go_simp; try rfl)⟩) (by assumption) ?_
          refine wpAnyH_take (i := 9) (v := _) rfl (by kernel_rfl) (by kernel_rfl) (by kernel_rfl) (fun _ _ _ h => h) (Or.inl ⟨by rfl, fun w hSw => by (obtain ⟨s0, s1⟩ := hSw; go_simp; try rfl)⟩) (by assumption) ?_
          refine wpAnyH_take (i := 10) (v := _) rfl (by kernel_rfl) (by kernel_rfl) (by kernel_rfl) (fun _ _ _ h => h) (Or.inl ⟨by rfl, fun w hSw => by (obtain ⟨s0, s1⟩ := hSw; go_simp; try rfl)⟩) (by assumption) ?_
          refine wpAnyH_take (i := 11) (v := _) rfl (by kernel_rfl) (by kernel_rfl) (by kernel_rfl) (fun _ _ _ h => h) (Or.inl ⟨by rfl, fun w hSw => by (obtain ⟨s0, s1⟩ := hSw; go_simp; try rfl)⟩) (by assumption) ?_
          refine wpAnyH_ready (rs := [12]) (by kernel_rfl) (by simp) ?_
          refine AllReadyH.cons rfl (fun K hK => ?_) AllReadyH.nil
          go_simp
          rw [HMX.out]
          refine HC.out.mono ?_
          rintro e1 w1 ⟨rfl, q1, rfl⟩
          refine hK.out _ _ ⟨hc0, hcy⟩ (fun hHeld => ?_)
          clear hK K
          refine wpAnyH_take (i := 13) (v := _) rfl (by kernel_rfl) (by kernel_rfl) (by kernel_rfl) (fun _ _ _ h => h) (Or.inl ⟨by rfl, fun w hSw => by (obtain ⟨s0, s1⟩ := hSw; go_simp; try rfl)⟩) (by assumption) ?_
          refine wpAnyH_take (i := 14) (v := _) rfl (by kernel_rfl) (by kernel_rfl) (by kernel_rfl) (fun _ _ _ h => h) (Or.inl ⟨by rfl, fun w hSw => by (obtain ⟨s0, s1⟩ := hSw; go_simp; try rfl)⟩) (by assumption) ?_
          refine wpAnyH_ready (rs := [15]) (by kernel_rfl) (by simp) ?_
          refine AllReadyH.cons rfl (fun K hK => ?_) AllReadyH.nil
          go_simp
          refine hK.out _ _ ⟨hc0, hcy⟩ (fun hHeld => ?_)
          clear hK K
          refine wpAnyH_done (by kernel_rfl) (NoPanic.normal ?_) _
          go_wp2
          rw [IntWalk.i64_in (y * B) (by omega), IntWalk.i64_in _ (by omega)]
          exact ⟨⟨k + 1, _, by omega, by go_num, ⟨_, rfl, HN⟩, rfl⟩, by simp [intOf]; omega⟩
        · obtain rfl : c = 1 := by omega
          have HC := Lib.hid (by have := HC1.out rfl; rw [show ds.length = 0 by omega] at this; exact this)
          have hcq : ds.length + 1 ≤ 1 := hcl1
          have hcq1 : (ds.length : Int) + 1 ≤ 1 := by omega
          have hcq2 : (1 : Int) ≤ (ds.length : Int) + 1 := by omega
          clear HC1 HC2 HIH HD HD1 hc2 hcl1
          go_wp2_with fail
          refine wp_region_noPanic ?_
          refine wp_region_held_drew (S := fun W' => W'.cell? ⟨b, off, none⟩ = some (.slice (some ⟨b1, off1, none⟩) LD c0) ∧ W'.cell? ⟨b1, off1 + k, none⟩ = some (.int .i64 y)) (by kernel_rfl) ⟨hc0, hcy⟩ (fun hHeld => ?_)
          refine wpAnyH_take (i := 0) (v := _) rfl (by kernel_rfl) (by kernel_rfl) (by kernel_rfl) (fun _ _ _ h => h) (Or.inl ⟨by rfl, fun w hSw => by (obtain ⟨s0, s1⟩ := hSw; go_simp; try rfl)⟩) (by assumption) ?_
          refine wpAnyH_take (i := 1) (v := _) rfl (by kernel_rfl) (by kernel_rfl) (by kernel_rfl) (fun _ _ _ h => h) (Or.inl ⟨by rfl, fun w hSw => by (obtain ⟨s0, s1⟩ := hSw; go_simp; try rfl)⟩) (by assumption) ?_
          refine wpAnyH_take (i := 2) (v := _) rfl (by kernel_rfl) (by kernel_rfl) (by kernel_rfl) (fun _ _ _ h => h) (Or.inl ⟨by rfl, fun w hSw => by (obtain ⟨s0, s1⟩ := hSw; go_simp; try rfl)⟩) (by assumption) ?_
          refine wpAnyH_take (i := 3) (v := _) rfl (by kernel_rfl) (by kernel_rfl) (by kernel_rfl) (fun _ _ _ h => h) (Or.inl ⟨by rfl, fun w hSw => by (obtain ⟨s0, s1⟩ := hSw; go_simp; try rfl)⟩) (by assumption) ?_
          refine wpAnyH_take (i := 4) (v := _) rfl (by kernel_rfl) (by kernel_rfl) (by kernel_rfl) (fun _ _ _ h => h) (Or.inl ⟨by rfl, fun w hSw => by (obtain ⟨s0, s1⟩ := hSw; go_simp; try rfl)⟩) (by assumption) ?_
          refine wpAnyH_take (i := 5) (v := _) rfl (by kernel_rfl) (by kernel_rfl) (by kernel_rfl) (fun _ _ _ h => h) (Or.inl ⟨by rfl, fun w hSw => by (obtain ⟨s0, s1⟩ := hSw; go_simp; try rfl)⟩) (by assumption) ?_
          refine wpAnyH_take (i := 6) (v := _) rfl (by kernel_rfl) (by kernel_rfl) (by kernel_rfl) (fun _ _ _ h => h) (Or.inl ⟨by rfl, fun w hSw => by (obtain ⟨s0, s1⟩ := hSw; go_simp; try rfl)⟩) (by assumption) ?_
          refine wpAnyH_take (i := 7) (v := _) rfl (by kernel_rfl) (by kernel_rfl) (by kernel_rfl) (fun _ _ _ h => h) (Or.inl ⟨by rfl, fun w hSw => by (obtain ⟨s0, s1⟩ := hSw; go_simp; try rfl)⟩) (by assumption) ?_
          refine wpAnyH_take (i := 8) (v := _) rfl (by kernel_rfl) (by kernel_rfl) (by kernel_rfl) (fun _ _ _ h => h) (Or.inl ⟨by rfl, fun w hSw => by (obtain ⟨s0, s1⟩ := hSw; go_simp; try rfl)⟩) (by assumption) ?_
          refine wpAnyH_take (i := 9) (v := _) rfl (by kernel_rfl) (by kernel_rfl) (by kernel_rfl) (fun _ _ _ h => h) (Or.inl ⟨by rfl, fun w hSw => by (obtain ⟨s0, s1⟩ := hSw; go_simp; try rfl)⟩) (by assumption) ?_
          refine wpAnyH_take (i := 10) (v := _) rfl (by kernel_rfl) (by kernel_rfl) (by kernel_rfl) (fun _ _ _ h => h) (Or.inl ⟨by rfl, fun w hSw => by (obtain ⟨s0, s1⟩ := hSw; go_simp; try rfl)⟩) (by assumption) ?_
          refine wpAnyH_take (i := 11) (v := _) rfl (by kernel_rfl) (by kernel_rfl) (by kernel_rfl) (fun _ _ _ h => h) (Or.inl ⟨by rfl, fun w hSw => by (obtain ⟨s0, s1⟩ := hSw; go_simp; try rfl)⟩) (by assumption) ?_
          refine wpAnyH_ready (rs := [12]) (by kernel_rfl) (by simp) ?_
          refine AllReadyH.cons rfl (fun K hK => ?_) AllReadyH.nil
          go_simp
          rw [HMX.out]
          refine HC.out.mono ?_
          rintro e1 w1 ⟨rfl, q1, rfl⟩
          refine hK.out _ _ ⟨hc0, hcy⟩ (fun hHeld => ?_)
          clear hK K
          refine wpAnyH_take (i := 13) (v := _) rfl (by kernel_rfl) (by kernel_rfl) (by kernel_rfl) (fun _ _ _ h => h) (Or.inl ⟨by rfl, fun w hSw => by (obtain ⟨s0, s1⟩ := hSw; go_simp; try rfl)⟩) (by assumption) ?_
          refine wpAnyH_take (i := 14) (v := _) rfl (by kernel_rfl) (by kernel_rfl) (by kernel_rfl) (fun _ _ _ h => h) (Or.inl ⟨by rfl, fun w hSw => by (obtain ⟨s0, s1⟩ := hSw; go_simp; try rfl)⟩) (by assumption) ?_
          refine wpAnyH_ready (rs := [15]) (by kernel_rfl) (by simp) ?_
          refine AllReadyH.cons rfl (fun K hK => ?_) AllReadyH.nil
          go_simp
          refine hK.out _ _ ⟨hc0, hcy⟩ (fun hHeld => ?_)
          clear hK K
          refine wpAnyH_done (by kernel_rfl) (NoPanic.normal ?_) _
          go_wp2
          rw [IntWalk.i64_in (y * B) (by omega), IntWalk.i64_in _ (by omega)]
          exact ⟨⟨k + 1, _, by omega, by go_num, ⟨_, rfl, HN⟩, rfl⟩, by simp [intOf]; omega⟩
      · obtain rfl : k = LD := by omega
        have HE2 : Hid (bestS (d :: ds) m = x) := Lib.hid (by rw [HE.out, ← HLD.out]; exact HX.out.symm)
        go_wp2
        go_ret
        exact ⟨by rw [HE2.out]; rfl, _, rfl⟩

theorem sum_tail (xs : List Int) : xs.sum = tailW xs 0 := by unfold tailW; rw [List.drop_zero]

set_option maxHeartbeats 1000000 in
theorem Stotal_any (A : Option Addr) (c : Nat) (xs : List Int) (w : World) (h : Rd w A c xs) (hv : vW xs = true) :
    Calls Try.prog 166 #[.slice A xs.length c] w fun e w' => e = .returned (.int .i64 (tailW xs 0)) ∧ w = w' := by
  have hl := (vW_le hv).2
  have HM := Lib.hid (vW_mem hv)
  have HB : Hid (∀ k, k ≤ 6 → 0 ≤ (xs.take k).sum ∧ (xs.take k).sum ≤ 6 * (k : Int)) := Lib.hid (fun k _ => by
    induction k with
    | zero => simp
    | succ k ih =>
      rcases Nat.lt_or_ge k xs.length with hk | hk
      · have hx : xs[k]? = some xs[k] := List.getElem?_eq_getElem hk
        have := HM.out _ (List.mem_of_getElem? hx)
        rw [sum_step hx]
        have := ih (by omega)
        omega
      · rw [List.take_of_length_le (by omega)]
        rw [List.take_of_length_le hk] at ih
        have := ih (by omega)
        omega)
  clear hv
  go_enter Try.func166, Try.ntmps166
  go_wp2
  go_loop [3, 4] (fun s i => ∃ k : Nat, k ≤ xs.length ∧ i = .int .i64 k ∧ (∃ x, s = .int .i64 x ∧ Hid (x = (xs.take k).sum))) (fun _ i => xs.length - (intOf i).toNat)
  case atStart => exact ⟨0, by omega, rfl, ⟨_, rfl, Lib.hid rfl⟩⟩
  case round =>
    obtain ⟨k, hk, rfl, ⟨x, rfl, HX⟩⟩ := hrel
    by_cases hlt : k < xs.length
    · obtain ⟨b, off, y, rfl, _, hy, hc⟩ := h.at_ hlt
      have hx0 := HB.out k (by omega)
      have hx1 := HB.out (k + 1) (by omega)
      have HN : Hid (x + y = (xs.take (k + 1)).sum) := Lib.hid (by rw [sum_step hy.out, HX.out])
      rw [← HX.out] at hx0
      rw [← HN.out] at hx1
      go_wp2
      go_round
      case rel => exact ⟨k + 1, by omega, by go_num, ⟨_, rfl, HN⟩⟩
      case measure => simp [intOf]; omega
    · obtain rfl : k = xs.length := by omega
      have HE : Hid (x = tailW xs 0) := Lib.hid (by rw [HX.out, List.take_length, sum_tail])
      go_wp2
      go_ret
      exact ⟨by rw [← HE.out]; rfl, rfl⟩

theorem waysL_snoc (xs : List (List Int)) (x : List Int) : waysL (xs ++ [x]) = waysL xs * tailW x 0 := by
  rw [waysL_app]; simp [waysL]
theorem waysL_step {rows : List (List Int)} {k : Nat} {r : List Int} (hr : rows[k]? = some r) : waysL (rows.take (k + 1)) = waysL (rows.take k) * tailW r 0 := by
  rw [List.take_add_one, hr]; exact waysL_snoc _ r

set_option maxHeartbeats 1000000 in
theorem ways_any (A : Option Addr) (c : Nat) (rows : List (List Int)) (w : World) (h : RdR w A c rows) (hv : vsB rows = true) :
    Calls Try.prog 108 #[.slice A rows.length c] w fun e w' => e = .returned (.int .i64 (waysL rows)) ∧ ∃ n, w' = w.drewN n := by
  have hl := (vs_is hv).1
  have HV := Lib.hid (vs_VS hv)
  have HM := Lib.hid (vs_is hv).2
  clear hv
  go_enter Try.func108, Try.ntmps108
  go_wp2
  go_loopw [3, 4] (fun s i wr => ∃ k n : Nat, k ≤ rows.length ∧ i = .int .i64 k ∧ (∃ t, s = .int .i64 t ∧ Hid (t = waysL (rows.take k))) ∧ wr = w.drewN n) (fun _ i _ => rows.length - (intOf i).toNat)
  case atStart => exact ⟨0, 0, Nat.zero_le _, rfl, ⟨_, rfl, Lib.hid rfl⟩, rfl⟩
  case round =>
    obtain ⟨k, n, hk, rfl, ⟨t, rfl, HT⟩, rfl⟩ := hrel
    by_cases hlt : k < rows.length
    · obtain ⟨b, off, r, A', c', rfl, hr, hc, hcap, hrd⟩ := h.at_ hlt
      have hrv := HM.out r (List.mem_of_getElem? hr.out)
      have H0 := Lib.hid (fun w1 h1 => Stotal_any A' c' r w1 h1 hrv)
      have hb := ways_36 (HV.out.take k) (by rw [List.length_take]; omega)
      rw [← HT.out] at hb
      have t0 := rev_b hrv 0
      have HN : Hid (t * tailW r 0 = waysL (rows.take (k + 1))) := Lib.hid (by rw [waysL_step hr.out, ← HT.out])
      have hb2 := ways_36 (HV.out.take (k + 1)) (by rw [List.length_take]; omega)
      rw [← HN.out] at hb2
      generalize tailW r 0 = y at *
      have hrw := Lib.hid (hrd.out.drewN n)
      clear hr hrd hcap
      go_wp2_with fail
      refine (H0.out _ hrw.out).mono ?_
      rintro e w1 ⟨rfl, rfl⟩
      go_wp2
      go_roundw
      case rel => exact ⟨k + 1, _, by omega, by go_num, ⟨_, rfl, HN⟩, rfl⟩
      case measure => simp [intOf]; omega
    · obtain rfl : k = rows.length := by omega
      have HE : Hid (t = waysL rows) := Lib.hid (by have := HT.out; rwa [List.take_length] at this)
      go_wp2
      go_ret
      exact ⟨by rw [HE.out]; rfl, _, rfl⟩

set_option maxHeartbeats 1000000 in
theorem SBestSeen_any (A : Option Addr) (c : Nat) (rows : List (List Int)) (w : World) (h : RdR w A c rows) (hl : rows.length ≤ 1099511627776) (hl2 : ∀ r ∈ rows, r.length ≤ 1099511627776) :
    Calls Try.prog 31 #[.slice A rows.length c] w fun e w' => e = .returned (stV (vsB rows) (fq (seenN rows) (waysL rows))) ∧ Below w.heap.size w w' := by
  obtain ⟨q, hq⟩ : ∃ q, q = fq (seenN rows) (waysL rows) := ⟨_, rfl⟩
  rw [← hq]
  have HQ := Lib.hid hq
  clear hq
  have hB : Below w.heap.size w (w.alloc (.cells #[.int .i64 0, .int .i64 0] 36)) := below_al w _
  have h' := h.below hB
  have hk := PairAt.new (w := w) (x := 0) (y := 0)
  have HV := Lib.hid (validStages_any A c rows _ h' hl hl2)
  obtain ⟨c0, c1, f0, f1⟩ := hk.facts
  cases hv : vsB rows with
  | false =>
    have HE := Lib.hid (stV_no (q := q) hv)
    rw [hv] at HV HE
    clear hv
    go_enter Try.func31, Try.ntmps31
    go_wp2_with fail
    refine HV.out.mono ?_
    rintro e w1 ⟨rfl, m, rfl⟩
    go_wp2
    obtain ⟨e0, e1, _, _⟩ := (PairAt.set_ (w := (w.alloc (.cells #[.int .i64 0, .int .i64 0] 36)).drewN m) hk 0 0).facts
    have hB7 := below_set2 (B := w.heap.size) (below_drewN' hB m) (Nat.le_refl _) (.int .i64 0) (.int .i64 0)
    refine bodyPost_ret (v := nayV) (by simp [results, Try.results31, go_sem, nayV, frV, e0, e1]) rfl ⟨by rw [HE.out], hB7⟩
  | true =>
    have HE := Lib.hid (stV_yes (q := q) hv)
    have hvs := vs_VS hv
    have hl4 := (vs_is hv).1.2
    have hww := ways_36 hvs hl4
    have hss := bestS_8 hvs hl4 (m := 0) (by omega)
    have HS := Lib.hid (fun w1 h1 => bestSum_any rows A c 0 w1 h1 (vs_is hv).2 hl4 (by omega))
    have HW := Lib.hid (fun w1 h1 => ways_any A c rows w1 h1 hv)
    have HF := Lib.hid (fun w => Sfrac_any (bestS rows 0) (waysL rows) q.num q.den w (by rw [bestS_seen hvs, ← HQ.out]; exact FrIs.self _) hww.1 (by omega) (by omega) (by omega))
    rw [hv] at HV HE
    have HK := Lib.hid hk
    have HBB := Lib.hid hB
    have HH := Lib.hid h'
    clear hv hvs hk hB h' hww hss
    go_enter Try.func31, Try.ntmps31
    go_wp2_with fail
    refine HV.out.mono ?_
    rintro e w1 ⟨rfl, m, rfl⟩
    have HH1 := Lib.hid (HH.out.drewN m)
    go_wp2_with fail
    refine (HS.out _ HH1.out).mono ?_
    rintro e w2 ⟨rfl, m2, rfl⟩
    go_wp2_with fail
    refine (HW.out _ (HH.out.drewN (m + m2))).mono ?_
    rintro e w3 ⟨rfl, m3, rfl⟩
    go_wp2_with fail
    refine (HF.out _).mono ?_
    rintro e w5 ⟨rfl, hb5⟩
    have hk5 := (HK.out.drewN (m + m2 + m3)).below hb5
    have hB4 := below_drewN' HBB.out (m + m2 + m3)
    have hB5 := hB4.trans (hb5.mono hB4.size)
    obtain ⟨d0, d1, g0, g1⟩ := hk5.facts
    unfold frV
    go_wp2
    obtain ⟨e0, e1, _, _⟩ := (hk5.set_ q.num (q.den : Int)).facts
    have hB7 := below_set2 hB5 (Nat.le_refl _) (.int .i64 q.num) (.int .i64 (q.den : Int))
    refine bodyPost_ret (v := yesV q) (by simp [results, Try.results31, go_sem, yesV, frV, e0, e1]) rfl ⟨by rw [HE.out], hB7⟩
end Go.Proofs.Ytnojlapjkdihmaa

/-
  Chapter 11, the model: what is had from stages on.
-/
namespace Go.Proofs.Ytnojlapjkdihmaa
open Go.RowKit

set_option maxHeartbeats 600000 in
theorem larger_any (a b c d n m : Int) (p q : Rat) (w : World) (hp : FrIs p a b) (hq : FrIs q c d) (h : FrIs (if p < q then q else p) n m) (h1 : -4611686018427387904 ≤ a * d) (h2 : a * d ≤ 4611686018427387903) (h3 : -4611686018427387904 ≤ c * b) (h4 : c * b ≤ 4611686018427387903) :
    Calls Try.prog 172 #[frV a b, frV c d] w fun e w' => e = .returned (frV n m) ∧ Below w.heap.size w w' := by
  have hl := lessF_is hp hq
  have HL := Lib.hid (fun l w hl => Sless_any a b c d l w hl h1 h2 h3 h4)
  have hB : Below w.heap.size w (((w.alloc (.cells #[.int .i64 a, .int .i64 b] 36)).alloc (.cells #[.int .i64 c, .int .i64 d] 36)).alloc (.cells #[.int .i64 0, .int .i64 0] 36)) :=
    (((Below.refl _ w).alloc (Nat.le_refl _) _).alloc (by simp) _).alloc (by simp; omega) _
  have kA : PairAt (((w.alloc (.cells #[.int .i64 a, .int .i64 b] 36)).alloc (.cells #[.int .i64 c, .int .i64 d] 36)).alloc (.cells #[.int .i64 0, .int .i64 0] 36)) w.heap.size a b := (PairAt.new.old _).old _
  have kB : PairAt (((w.alloc (.cells #[.int .i64 a, .int .i64 b] 36)).alloc (.cells #[.int .i64 c, .int .i64 d] 36)).alloc (.cells #[.int .i64 0, .int .i64 0] 36)) (w.heap.size + 1) c d := by
    have := (PairAt.new (w := w.alloc (.cells #[.int .i64 a, .int .i64 b] 36)) (x := c) (y := d)).old (.cells #[.int .i64 0, .int .i64 0] 36)
    rw [World.size_alloc] at this
    exact this
  have kO : PairAt (((w.alloc (.cells #[.int .i64 a, .int .i64 b] 36)).alloc (.cells #[.int .i64 c, .int .i64 d] 36)).alloc (.cells #[.int .i64 0, .int .i64 0] 36)) (w.heap.size + 1 + 1) 0 0 := by
    have := PairAt.new (w := (w.alloc (.cells #[.int .i64 a, .int .i64 b] 36)).alloc (.cells #[.int .i64 c, .int .i64 d] 36)) (x := 0) (y := 0)
    rw [World.size_alloc, World.size_alloc] at this
    exact this
  obtain ⟨cA0, cA1, _, _⟩ := kA.facts
  obtain ⟨cB0, cB1, _, _⟩ := kB.facts
  by_cases hc : p < q
  · rw [if_pos hc] at h
    obtain ⟨rfl, rfl⟩ := h.same hq
    have HLL := Lib.hid (fun w => HL.out true w (by rw [hl]; exact decide_eq_true hc))
    clear hl hp hq h hc HL
    unfold frV
    go_enter Try.func172, Try.ntmps172
    go_wp2_with fail
    refine (HLL.out _).mono ?_
    rintro e w1 ⟨rfl, b1⟩
    have k1 := kB.below b1
    have kO1 := kO.below b1
    obtain ⟨c0, c1, _, _⟩ := k1.facts
    obtain ⟨d0, d1, g0, g1⟩ := kO1.facts
    have B1 := hB.trans (b1.mono hB.size)
    go_wp2
    obtain ⟨e0, e1, _, _⟩ := (kO1.set_ n m).facts
    have hB7 := below_set2 (B := w.heap.size + 1 + 1) B1 (by omega) (.int .i64 n) (.int .i64 m)
    refine bodyPost_ret (v := frV n m) (by simp [results, Try.results172, go_sem, frV, e0, e1]) rfl ⟨rfl, hB7⟩
  · rw [if_neg hc] at h
    obtain ⟨rfl, rfl⟩ := h.same hp
    have HLL := Lib.hid (fun w => HL.out false w (by rw [hl]; exact decide_eq_false hc))
    clear hl hp hq h hc HL
    unfold frV
    go_enter Try.func172, Try.ntmps172
    go_wp2_with fail
    refine (HLL.out _).mono ?_
    rintro e w1 ⟨rfl, b1⟩
    have k1 := kA.below b1
    have kO1 := kO.below b1
    obtain ⟨c0, c1, _, _⟩ := k1.facts
    obtain ⟨d0, d1, g0, g1⟩ := kO1.facts
    have B1 := hB.trans (b1.mono hB.size)
    go_wp2
    obtain ⟨e0, e1, _, _⟩ := (kO1.set_ n m).facts
    have hB7 := below_set2 (B := w.heap.size + 1 + 1) B1 (by omega) (.int .i64 n) (.int .i64 m)
    refine bodyPost_ret (v := frV n m) (by simp [results, Try.results172, go_sem, frV, e0, e1]) rfl ⟨rfl, hB7⟩

theorem drop_at {rows : List (List Int)} {k : Nat} {r : List Int} (h : rows[k]? = some r) : rows.drop k = r :: rows.drop (k + 1) := by
  obtain ⟨hk, rfl⟩ := List.getElem?_eq_some_iff.1 h
  exact List.drop_eq_getElem_cons hk
theorem VS.drop {rows : List (List Int)} (h : VS rows) (k : Nat) : VS (rows.drop k) := fun x hx => h x (List.mem_of_mem_drop hx)
theorem fr_times' {p : Rat} {k a b n m : Int} (hp : FrIs p a b) (h : FrIs ((k : Rat) * p) n m) : FrIs (fq (k * a) (1 * b)) n m := by
  rw [Int.mul_comm k a, Int.one_mul]; exact fr_times hp h
theorem mul_den {a d A : Int} (h1 : -A ≤ a) (h2 : a ≤ A) (hd : 1 ≤ d) (hd2 : d ≤ 46656) (hA : 0 ≤ A) : -(A * 46656) ≤ a * d ∧ a * d ≤ A * 46656 := by
  have h3 : a * d ≤ A * d := Int.mul_le_mul_of_nonneg_right h2 (by omega)
  have h4 : -A * d ≤ a * d := Int.mul_le_mul_of_nonneg_right h1 (by omega)
  have h5 : A * d ≤ A * 46656 := Int.mul_le_mul_of_nonneg_left hd2 hA
  rw [Int.neg_mul] at h4
  omega

/-- What one value adds at a stage. -/
structure StepIs (xs : List Int) (e q : Rat) (j : Nat) (x y tn td pn pd sn sd wx : Int) : Prop where
  take : FrIs (takeQ e q j) tn td
  term : FrIs (((wx : Int) : Rat) * takeQ e q j) pn pd
  times : FrIs (fq (wx * tn) (1 * td)) pn pd
  sum : FrIs (sumQ ((termL xs e q).take (j + 1))) sn sd
  plus : FrIs (fq (x * pd + pn * y) (y * pd)) sn sd
  t1 : -2305843009213693951 ≤ wx * tn
  t2 : wx * tn ≤ 2305843009213693951
  t3 : 1 ≤ 1 * td
  t4 : 1 * td ≤ 4611686018427387903
  p1 : -2305843009213693951 ≤ x * pd
  p2 : x * pd ≤ 2305843009213693951
  p3 : -2305843009213693951 ≤ pn * y
  p4 : pn * y ≤ 2305843009213693951
  p5 : 1 ≤ y * pd
  p6 : y * pd ≤ 4611686018427387903
theorem step_is {xs : List Int} {e q : Rat} {j : Nat} {x y D : Int} (hv : vW xs = true) (hj : j < xs.length) (hD1 : 1 ≤ D) (hD : D ≤ 46656) (hr : Had D q) (hs : FrIs (sumQ ((termL xs e q).take j)) x y) :
    ∃ tn td pn pd sn sd, StepIs xs e q j x y tn td pn pd sn sd (wt xs j) := by
  have hvw := vW_valid hv
  have hl6 := vW_le hv
  have w1 := validW_lo hvw hj
  have w6 := validW_hi hvw j
  have htk := hr.take (e := e) hD1 (show j ≤ 5 by omega)
  have hts : ∀ u ∈ termL xs e q, Sc D 2176782336 u := fun u hu => by
    obtain ⟨v, hv1, rfl⟩ := List.mem_map.1 hu
    have hlt := List.mem_range.1 hv1
    exact term_sc hr hD1 hD (by omega) (by have := validW_lo hvw hlt; omega) (validW_hi hvw v)
  have hst := sumQ_step (termL_at (e := e) (r := q) hj)
  have b1 := htk.sc.bd hD1 (FrIs.self _)
  have b2 := (hts _ (List.mem_of_getElem? (termL_at hj))).bd hD1 (FrIs.self _)
  have b3 := (sumQ_sc (D := D) (B := 2176782336) (by decide) ((termL xs e q).take j) (fun u hu => hts u (List.mem_of_mem_take hu))).bd hD1 hs
  have hlt : ((List.take j (termL xs e q)).length : Int) ≤ 6 := by rw [List.length_take, termL_len]; omega
  have m1 := mul_six (a := (takeQ e q j).num) (k := wt xs j) b1.1 b1.2.1 (by omega) w6
  have m2 := mul_den (A := 13060694016) (a := x) (d := (((wt xs j : Int) : Rat) * takeQ e q j).den) (by omega) (by omega) b2.2.2.1 (by omega) (by omega)
  have m3 := mul_den (A := 2176782336) (a := (((wt xs j : Int) : Rat) * takeQ e q j).num) (d := y) b2.1 b2.2.1 b3.2.2.1 (by omega) (by omega)
  have m4 := Int.mul_le_mul b3.2.2.1 b2.2.2.1 (by omega) (by omega)
  have m5 := Int.mul_le_mul (Int.le_trans b3.2.2.2 hD) (Int.le_trans b2.2.2.2 hD) (by omega) (by omega)
  refine ⟨(takeQ e q j).num, (takeQ e q j).den, (((wt xs j : Int) : Rat) * takeQ e q j).num, (((wt xs j : Int) : Rat) * takeQ e q j).den, (sumQ ((termL xs e q).take (j + 1))).num, (sumQ ((termL xs e q).take (j + 1))).den,
    FrIs.self _, FrIs.self _, fr_times' (FrIs.self _) (FrIs.self _), FrIs.self _, ?_, ?_, ?_, ?_, ?_, ?_, ?_, ?_, ?_, ?_, ?_⟩
  · refine fr_add hs (FrIs.self _) ?_
    rw [← hst]; exact FrIs.self _
  · rw [Int.mul_comm]; omega
  · rw [Int.mul_comm]; omega
  all_goals omega
end Go.Proofs.Ytnojlapjkdihmaa
