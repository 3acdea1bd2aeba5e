/-
  A region that draws its order, whose last store writes what the region loads: loads are taken first, and what is held need not be shown behind that store.
-/
import Derived.Test.YtnojlapjkdihmaaProg
import Derived.Deep.RegionHeld
import Derived.Test.YtnojlapjkdihmaaG19
namespace Go.Proofs.Ytnojlapjkdihmaa

section
variable {P : Program} {ops : Array Oper} {Q : Exit → Act → World → Prop} {md : Region.Mode} {S : World → Prop} {z : Nat}

/-- Whatever order is picked from here on, and S holds behind every operation but number z. -/
def wpAnyL (P : Program) (md : Region.Mode) (ops : Array Oper) (Q : Exit → Act → World → Prop) (S : World → Prop) (z : Nat) : Nat → Array Bool → Act → World → Prop
  | 0, listed, a, w => Region.ready md ops listed = [] ∧ Q .normal a w
  | fuel + 1, listed, a, w =>
    (Region.ready md ops listed = [] → Q .normal a w) ∧
    ∀ i ∈ Region.ready md ops listed, wpOp P ops Q i (fun a' w' => (i ≠ z → S w') ∧ wpAnyL P md ops Q S z fuel (listed.setIfInBounds i true) a' w') a w

theorem wpAny_of_last : ∀ (fuel : Nat) (listed : Array Bool) (a : Act) (w : World), wpAnyL P md ops Q S z fuel listed a w → wpAny P md ops Q fuel listed a w
  | 0, _, _, _, h => h
  | fuel + 1, _, _, _, h => ⟨h.1, fun i hi => wpOp_mono (fun a' w' h' => wpAny_of_last fuel _ a' w' h'.2) (h.2 i hi)⟩

theorem wpAnyL_first {i : Nat} {oi oz : Oper} {v : Value} (hi : ops[i]? = some oi) (hsel : ∀ (j : Nat) (o : Oper) cs b, ops[j]? = some o → o.op ≠ .select cs b)
    (hQ : ∀ c a w, Q (.panic c) (a.put oi.dst v) w → Q (.panic c) a w) (hz : ops[z]? = some oz) (hza : oz.after.any (fun e => Region.binds md e && e.on == i) = true) :
    ∀ (fuel : Nat) (listed : Array Bool) (a : Act) (w : World),
      (∀ j oj, ops[j]? = some oj → j ≠ i → listed.getD j true = false → (∀ e ∈ oj.after, Region.binds md e = true → e.on ≠ i) → oi.apart ops oj = true) →
      i ∈ Region.ready md ops listed → YieldsIf P ops S oi v a → S w →
      wpAnyL P md ops Q S z fuel (listed.setIfInBounds i true) (a.put oi.dst v) w → wpAnyL P md ops Q S z (fuel + 1) listed a w := by
  intro fuel
  induction fuel with
  | zero =>
    intro listed a w _ hr hy hS H
    refine ⟨fun h => (by rw [h] at hr; cases hr), fun j hj => ?_⟩
    by_cases hji : j = i
    · subst hji; exact hy.wpOp hi hS ⟨fun _ => hS, H⟩
    · have := ready_mono hj hji
      rw [H.1] at this
      cases this
  | succ fuel ih =>
    intro listed a w hfree hr hy hS H
    refine ⟨fun h => (by rw [h] at hr; cases hr), fun j hj => ?_⟩
    by_cases hji : j = i
    · subst hji; exact hy.wpOp hi hS ⟨fun _ => hS, H⟩
    · have h1 := H.2 j (ready_mono hj hji)
      obtain ⟨hjun, oj, hoj, hall⟩ := mem_ready.1 hj
      have hnot : ∀ e ∈ oj.after, Region.binds md e = true → e.on ≠ i := fun e he hb heq => by
        have h1 := hall e he hb
        have h0 := (mem_ready.1 hr).1
        rw [heq] at h1
        rcases Nat.lt_or_ge i listed.size with h' | h'
        · simp [h'] at h0 h1; rw [h0] at h1; cases h1
        · simp [Array.getElem?_eq_none h'] at h1
      have hjz : j ≠ z := by
        rintro rfl
        rw [hz] at hoj
        injection hoj with hoj
        subst hoj
        obtain ⟨e, he, hb⟩ := Array.any_eq_true'.1 hza
        simp only [Bool.and_eq_true, beq_iff_eq] at hb
        exact hnot e he hb.1 hb.2
      have h2 := wpOp_putIf hoj (hfree j oj hoj hji hjun hnot) (fun cs b => hsel i oi cs b hi) (fun cs b => hsel j oj cs b hoj) hQ hy h1
      have hfree' : ∀ k ok, ops[k]? = some ok → k ≠ i → (listed.setIfInBounds j true).getD k true = false →
          (∀ e ∈ ok.after, Region.binds md e = true → e.on ≠ i) → oi.apart ops ok = true := fun k ok hk hki hun hno => by
        refine hfree k ok hk hki ?_ hno
        by_cases hjk : j = k
        · subst hjk; exact hjun
        · rw [getD_set_ne true hjk] at hun; exact hun
      refine wpOp_mono (fun a' w' h3 => ⟨fun _ => h3.2.1 hjz, ih (listed.setIfInBounds j true) a' w' hfree' (ready_mono hr (Ne.symm hji)) h3.1 (h3.2.1 hjz) ?_⟩) h2
      rw [Array.setIfInBounds_comm _ _ hji]
      exact h3.2.2

theorem wpAnyL_take {i : Nat} {oi oz : Oper} {v : Value} {fuel : Nat} {listed : Array Bool} {a : Act} {w : World} (hi : ops[i]? = some oi) (hz : ops[z]? = some oz)
    (hza : oz.after.any (fun e => Region.binds md e && e.on == i) = true)
    (hs : Region.noSelect ops = true) (hf : Region.free md ops listed i = true) (hr : (Region.ready md ops listed).contains i = true)
    (hQ : ∀ c a w, Q (.panic c) (a.put oi.dst v) w → Q (.panic c) a w) (hy : YieldsIf P ops S oi v a) (hS : S w)
    (h : wpAnyL P md ops Q S z fuel (listed.setIfInBounds i true) (a.put oi.dst v) w) : wpAnyL P md ops Q S z (fuel + 1) listed a w :=
  wpAnyL_first hi (Region.noSelect_spec hs) hQ hz hza fuel listed a w (Region.free_spec hi hf) (by simpa using hr) hy hS h

theorem wpAnyL_done {listed : Array Bool} {a : Act} {w : World} (hr : Region.ready md ops listed = []) (h : Q .normal a w) :
    ∀ fuel, wpAnyL P md ops Q S z fuel listed a w
  | 0 => ⟨hr, h⟩
  | _ + 1 => ⟨fun _ => h, by rw [hr]; simp⟩

/-- Only operation i may come up next; behind it S holds. -/
theorem wpAnyL_one {fuel : Nat} {listed : Array Bool} {a : Act} {w : World} {i : Nat} {o : Oper} (hr : Region.ready md ops listed = [i]) (ho : ops[i]? = some o)
    (h : ∀ K' : Act → World → Prop, Shut (∀ a w, S w → (S w → wpAnyL P md ops Q S z fuel (listed.setIfInBounds i true) a w) → K' a w) → if Region.wanted o (yielded ops a.tmps) = true then Oper.wp P o a w K' Q else K' (a.put o.dst undef) w) :
    wpAnyL P md ops Q S z (fuel + 1) listed a w := by
  refine ⟨fun h0 => (by rw [hr] at h0; cases h0), fun j hj => ?_⟩
  rw [hr] at hj
  rcases List.mem_cons.1 hj with rfl | hj
  · exact wpOp_step ho (fun K' hK => h K' (fun a w hS hW => hK a w ⟨fun _ => hS, hW hS⟩))
  · cases hj
/-- The last operation comes up. -/
theorem wpAnyL_last {fuel : Nat} {listed : Array Bool} {a : Act} {w : World} {o : Oper} (hr : Region.ready md ops listed = [z]) (ho : ops[z]? = some o)
    (h : ∀ K' : Act → World → Prop, Shut (∀ a w, wpAnyL P md ops Q S z fuel (listed.setIfInBounds z true) a w → K' a w) → if Region.wanted o (yielded ops a.tmps) = true then Oper.wp P o a w K' Q else K' (a.put o.dst undef) w) :
    wpAnyL P md ops Q S z (fuel + 1) listed a w := by
  refine ⟨fun h0 => (by rw [hr] at h0; cases h0), fun j hj => ?_⟩
  rw [hr] at hj
  rcases List.mem_cons.1 hj with rfl | hj
  · exact wpOp_step ho (fun K' hK => h K' (fun a w hW => hK a w ⟨fun h => absurd rfl h, hW⟩))
  · cases hj

/-- The beginning. -/
theorem wp_region_last {id : Nat} {a : Act} {w : World} (z : Nat) (S : World → Prop) (hm : P.follows .mixedOrders = true) (hS : S w.drew)
    (h : S w.drew → wpAnyL P .any ops Q S z ops.size (Array.replicate ops.size false) a w.drew) : (Code.region id ops true).wp P Q a w :=
  wp_region_any hm (wpAny_of_last _ _ _ _ (h hS))
end
end Go.Proofs.Ytnojlapjkdihmaa

/-
  Chapter 11, the program: BestSeen.
-/
namespace Go.Proofs.Ytnojlapjkdihmaa
open Go.RowKit

theorem seenN_step {rows : List (List Int)} (v : Nat) : sI (v + 1) (fun t => waysL rows - belowL (t + 1) rows) = sI v (fun t => waysL rows - belowL (t + 1) rows) + (waysL rows - belowL (v + 1) rows) := rfl
theorem seenTo_bd {rows : List (List Int)} (hv : VS rows) (hl : rows.length ≤ 4) (v : Nat) (h5 : v ≤ 5) : 0 ≤ sI v (fun t => waysL rows - belowL (t + 1) rows) ∧ sI v (fun t => waysL rows - belowL (t + 1) rows) ≤ 8398080 := by
  have hw := ways_36 hv hl
  have h : ∀ t, 0 ≤ waysL rows - belowL (t + 1) rows ∧ waysL rows - belowL (t + 1) rows ≤ 1679616 := fun t => by
    have := belowL_bd (t + 1) rows hv
    omega
  refine ⟨sI_nn fun t _ => (h t).1, ?_⟩
  have h1 := sI_le (n := v) (f := fun t => waysL rows - belowL (t + 1) rows) (g := fun _ => 1679616) fun t _ => (h t).2
  have : v = 0 ∨ v = 1 ∨ v = 2 ∨ v = 3 ∨ v = 4 ∨ v = 5 := by omega
  refine Int.le_trans h1 ?_
  rcases this with rfl | rfl | rfl | rfl | rfl | rfl <;> simp [sI]

set_option maxHeartbeats 1000000 in
theorem BestSeen_any (A : Option Addr) (c : Nat) (rows : List (List Int)) (w : World) (h : RdR w A c rows) (hl : rows.length ≤ 1099511627776) (hl2 : ∀ r ∈ rows, r.length ≤ 1099511627776) :
    Calls Try.prog 30 #[.slice A rows.length c] w fun e w' => e = .returned (stV (vsB rows) (fq (seenN rows) (waysL rows))) ∧ Below w.heap.size w w' := by
  obtain ⟨q, hq⟩ : ∃ q, q = fq (seenN rows) (waysL rows) := ⟨_, rfl⟩
  rw [← hq]
  have HQ := Lib.hid hq
  clear hq
  have hB : Below w.heap.size w (w.alloc (.cells #[.int .i64 0, .int .i64 0] 36)) := below_al w _
  have h' := h.below hB
  have hk := PairAt.new (w := w) (x := 0) (y := 0)
  obtain ⟨W, hW⟩ : ∃ W, W = w.alloc (.cells #[.int .i64 0, .int .i64 0] 36) := ⟨_, rfl⟩
  have HV := Lib.hid (ValidStages_any A c rows _ h' hl hl2)
  obtain ⟨c0, c1, f0, f1⟩ := hk.facts
  cases hv : vsB rows with
  | false =>
    have HE := Lib.hid (stV_no (q := q) hv)
    rw [hv] at HV HE
    clear hv hW
    go_enter Try.func30, Try.ntmps30
    go_wp2_with fail
    refine HV.out.mono ?_
    rintro e w1 ⟨rfl, m, rfl⟩
    go_wp2
    obtain ⟨e0, e1, _, _⟩ := (PairAt.set_ (w := (w.alloc (.cells #[.int .i64 0, .int .i64 0] 36)).drewN m) hk 0 0).facts
    have hB7 := below_set2 (B := w.heap.size) (below_drewN' hB m) (Nat.le_refl _) (.int .i64 0) (.int .i64 0)
    refine bodyPost_ret (v := nayV) (by simp [results, Try.results30, go_sem, nayV, frV, e0, e1]) rfl ⟨by rw [HE.out], hB7⟩
  | true =>
    have HE := Lib.hid (stV_yes (q := q) hv)
    have hvs := vs_VS hv
    have hl4 := (vs_is hv).1.2
    have hww := ways_36 hvs hl4
    have HB6 := Lib.hid (belowL_all rows hvs)
    have HBD : Hid (∀ v, v ≤ 6 → 0 ≤ belowL v rows ∧ belowL v rows ≤ waysL rows) := Lib.hid (fun v _ => belowL_bd v rows hvs)
    have HSD : Hid (∀ v, v ≤ 5 → 0 ≤ sI v (fun t => waysL rows - belowL (t + 1) rows) ∧ sI v (fun t => waysL rows - belowL (t + 1) rows) ≤ 8398080) := Lib.hid (fun v hv => seenTo_bd hvs hl4 v hv)
    have HWB : Hid (∀ (v n : Nat), v ≤ 6 → Calls Try.prog 104 #[.slice A rows.length c, .int .i64 v] (W.drewN n) fun e w' => e = .returned (.int .i64 (belowL v rows)) ∧ ∃ m, w' = (W.drewN n).drewN m) :=
      Lib.hid (fun v n h6 => waysBelow_any A c v rows _ (by rw [hW]; exact h'.drewN n) hv h6)
    have HWL : Hid (waysL rows = sI 0 (fun t => waysL rows - belowL (t + 1) rows) + waysL rows) := Lib.hid (by simp [sI])
    have HBB : Hid (Below w.heap.size w W) := Lib.hid (hW ▸ hB)
    rw [hv] at HV HE
    rw [← hW] at HV hk c0 c1 f0 f1
    have HK := Lib.hid hk
    have HWW := Lib.hid hW
    clear hv hvs h' hB hk hW
    go_enter Try.func30, Try.ntmps30
    go_wp2_with fail
    rw [← HWW.out]
    refine HV.out.mono ?_
    rintro e w1 ⟨rfl, m, rfl⟩
    go_wp2_with fail
    refine (HWB.out 6 m (by decide)).mono ?_
    rintro e w1 ⟨rfl, m2, rfl⟩
    rw [HB6.out]
    go_wp2_with fail
    go_loopw [5, 6] (fun s i wr => ∃ v n : Nat, v ≤ 5 ∧ i = .int .i64 ((v + 1 : Nat) : Int) ∧ (∃ x, s = .int .i64 x ∧ Hid (x = sI v (fun t => waysL rows - belowL (t + 1) rows))) ∧ wr = W.drewN n) (fun _ i _ => 7 - (intOf i).toNat)
    case atStart => exact ⟨0, _, by omega, rfl, ⟨_, rfl, Lib.hid rfl⟩, rfl⟩
    case round =>
      obtain ⟨v, n, hv5, rfl, ⟨x, rfl, HX⟩, rfl⟩ := hrel
      by_cases hlt : v < 5
      · have hb := HBD.out (v + 1) (by omega)
        have hs := HSD.out v (by omega)
        have hs2 := HSD.out (v + 1) (by omega)
        have HN : Hid (x + (waysL rows - belowL (v + 1) rows) = sI (v + 1) (fun t => waysL rows - belowL (t + 1) rows)) := Lib.hid (by rw [seenN_step, ← HX.out])
        have HC := Lib.hid (HWB.out (v + 1) n (by omega))
        rw [← HX.out] at hs
        rw [← HN.out] at hs2
        have hvv : ((v + 1 : Nat) : Int) < 6 := by omega
        generalize belowL (v + 1) rows = z at *
        have hvl : ((v : Int) + 1) < 6 := by omega
        go_wp2_with (go_at_call 104; refine HC.out.mono ?_; rintro e w1 ⟨rfl, m3, rfl⟩)
        exact ⟨⟨v + 1, _, by omega, by go_num, ⟨_, rfl, HN⟩, rfl⟩, by simp [intOf]; omega⟩
      · obtain rfl : v = 5 := by omega
        have hs := HSD.out 5 (by omega)
        have e5 : x = seenN rows := HX.out
        rw [← HX.out] at hs
        have HF := Lib.hid (fun w => fracOf_any x (waysL rows) q.num q.den w (by rw [e5, ← HQ.out]; exact FrIs.self _) hww.1 (by omega) (by omega) (by omega))
        clear e5
        go_wp2_with fail
        refine (HF.out _).mono ?_
        rintro e w5 ⟨rfl, hb5⟩
        have hk5 := (HK.out.drewN n).below hb5
        have hB5 := (below_drewN' HBB.out n).trans (hb5.mono HBB.out.size)
        obtain ⟨d0, d1, g0, g1⟩ := hk5.facts
        unfold frV
        go_wp2
        obtain ⟨e0, e1, _, _⟩ := (hk5.set_ q.num (q.den : Int)).facts
        have hB7 := below_set2 hB5 (Nat.le_refl _) (.int .i64 q.num) (.int .i64 (q.den : Int))
        refine bodyPost_ret (v := yesV q) (by simp [results, Try.results30, go_sem, yesV, frV, e0, e1]) rfl ⟨by rw [HE.out], hB7⟩
end Go.Proofs.Ytnojlapjkdihmaa
