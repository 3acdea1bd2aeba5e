/-
  Chapter 10, the program: the contracts of manyAhead and TradeGain.
-/
import Derived.Test.YtpildecpabeanaaEl
namespace Go.Proofs.Ytpildecpabeanaa
open Go.RowKit

set_option maxHeartbeats 400000 in
theorem manyAhead_any (b off c : Nat) (xs : List Int) (i : Nat) (w : World) (h : Rd w (some ⟨b, off, none⟩) c xs) (hi : i < xs.length) (hx : Bd xs) (hc : xs.length ≤ c) :
    Calls Try.prog 68 #[.slice (some ⟨b, off, none⟩) xs.length c, .int .i64 i] w fun e w' => e = .returned (.int .i64 (posF xs i)) ∧ ∃ q, w' = w.drewN q := by
  obtain ⟨x, hxi⟩ := at_some hi
  obtain ⟨n, hn⟩ : ∃ n, n = xs.length := ⟨_, rfl⟩
  have hcx : w.cell? ⟨b, off + i, none⟩ = some (.int .i64 x) := by
    rcases h with ⟨rfl, _⟩ | ⟨b', off', hA, hcell⟩
    · simp at hi
    · injection hA with hA; injection hA with e1 e2; subst e1 e2
      rw [hcell i hi, hxi]; rfl
  have hxb := hx.2 x (List.mem_of_getElem? hxi)
  obtain ⟨q1, e1⟩ : ∃ q, q = abv (xs.take i) (x - 1) := ⟨_, rfl⟩
  obtain ⟨q2, e2⟩ : ∃ q, q = abv (xs.drop (i + 1)) x := ⟨_, rfl⟩
  have hE : posF xs i = q1 + q2 := by unfold posF; rw [getD_of hxi, e1, e2]
  have h6 := hx.1.2
  have hq1 : q1 ≤ 6 := by have := abv_le (xs.take i) (x - 1); rw [List.length_take] at this; omega
  have hq2 : q2 ≤ 6 := by have := abv_le (xs.drop (i + 1)) x; rw [List.length_drop] at this; omega
  have hl1 : (xs.take i).length = i := by rw [List.length_take]; omega
  have hl2 : (xs.drop (i + 1)).length = n - (i + 1) := by rw [List.length_drop, hn]
  have H1 := Lib.hid (fun (m : Nat) => (by
    have := manyAbove_is (some ⟨b, off, none⟩) c (xs.take i) (x - 1) (w.drewN m) e1 ((h.take_ (c2 := c) i).drewN m) (by omega)
    rwa [hl1] at this : Calls Try.prog 118 #[.slice (some ⟨b, off, none⟩) i c, .int .i64 (x - 1)] (w.drewN m) fun e w' => e = .returned (.int .i64 q1) ∧ w.drewN m = w'))
  have H2 := Lib.hid (fun (m : Nat) => (by
    have := manyAbove_is (if c = i + 1 then some ⟨b, off, none⟩ else some ⟨b, off + (i + 1), none⟩) (c - (i + 1)) (xs.drop (i + 1)) x (w.drewN m) e2 (by
      split
      · exact .inl ⟨List.drop_eq_nil_of_le (by omega), fun h => by cases h⟩
      · exact (h.drop_ (c2 := c - (i + 1)) (i + 1)).drewN m) (by omega)
    rwa [hl2] at this : Calls Try.prog 118 #[.slice (if c = i + 1 then some ⟨b, off, none⟩ else some ⟨b, off + (i + 1), none⟩) (n - (i + 1)) (c - (i + 1)), .int .i64 x] (w.drewN m) fun e w' => e = .returned (.int .i64 q2) ∧ w.drewN m = w'))
  rw [hE, ← hn]
  have hw0 : IntKind.i64.wrap ((i : Int) + 1) = (i : Int) + 1 := IntWalk.i64_in _ (by omega)
  have hw1 : IntKind.i64.wrap (x - 1) = x - 1 := IntWalk.i64_in _ (by omega)
  have hw2 : IntKind.i64.wrap ((q1 : Int) + (q2 : Int)) = (q1 : Int) + (q2 : Int) := IntWalk.i64_in _ (by omega)
  have hic : i ≤ c := by omega
  have hi1 : i + 1 ≤ n := by omega
  have hnc : n ≤ c := by omega
  have hin : i < n := by omega
  have h00 : (0 : Int) ≤ (i : Int) := by omega
  have h01 : (i : Int) ≤ (c : Int) := by omega
  have h02 : (0 : Int) ≤ (i : Int) + 1 := by omega
  have h03 : (i : Int) + 1 ≤ (n : Int) := by omega
  have h04 : (n : Int) ≤ (c : Int) := by omega
  have h05 : ((i : Int) + 1).toNat = i + 1 := by omega
  have H1q := Lib.hid (fun (m : Nat) => ((H1.out m).mono (R' := fun e w' => e = .returned (.int .i64 q1) ∧ ∃ k, w' = w.drewN k) (fun _ _ h => ⟨h.1, m, h.2.symm⟩)))
  have H2q := Lib.hid (fun (m : Nat) => ((H2.out m).mono (R' := fun e w' => e = .returned (.int .i64 q2) ∧ ∃ k, w' = w.drewN k) (fun _ _ h => ⟨h.1, m, h.2.symm⟩)))
  clear e1 e2 hE hl1 hl2 hn hxi hx h hc hi
  go_enter Try.func68, Try.ntmps68
  go_wp2_with fail
  go_quiet ((go_at_call 118; first | (with_reducible exact H1q.out _) | (with_reducible exact H2q.out _)))
  go_wp2
  all_goals
    go_ret
    exact ⟨rfl, _, rfl⟩

theorem said_vB {b : List Int} {i : Nat} {t : Int} (hb : vB b = true) (ht0 : 0 ≤ t) (ht1 : t ≤ 30) : vB (b.set i t) = true := by
  simp only [vB, Bool.and_eq_true, List.all_eq_true] at hb ⊢
  refine ⟨by rw [List.length_set]; exact hb.1, fun x hx => ?_⟩
  rcases List.mem_or_eq_of_mem_set hx with h | rfl
  · exact hb.2 x h
  · exact inR_true.2 ⟨ht0, ht1⟩

set_option maxHeartbeats 2000000 in
theorem TradeGain_yes (A A2 : Option Addr) (c c2 : Nat) (b s : List Int) (i : Nat) (t v : Int) (w : World) (h : Rd w A c b) (h2 : Rd w A2 c2 s) (hb : vB b = true) (hs : vB s = true) (hv : b[i]? = some v) (ht : inR t 0 30 = true) :
    Calls Try.prog 24 #[.slice A b.length c, .slice A2 s.length c2, .int .i64 i, .int .i64 t] w (TwoIs w (tgF (b.set i t) s i v) true) := by
  have HB := Lib.hid (vB_Bd hb)
  have HS := Lib.hid (vB_Bd hs)
  have hi := (List.getElem?_eq_some_iff.1 hv).1
  have ht' := inR_true.1 ht
  obtain ⟨d, hd⟩ : ∃ d, d = b.set i t := ⟨_, rfl⟩
  have hdv : vB d = true := by rw [hd]; exact said_vB hb ht'.1 ht'.2
  have HDB := Lib.hid (vB_Bd hdv)
  have hdl : d.length = b.length := by rw [hd, List.length_set]
  have hvb := HB.out.2 v (List.mem_of_getElem? hv)
  have h6 := HB.out.1.2
  obtain ⟨bb, ob, rfl, hcell⟩ := h.open_ HB.out.1.1
  have hcv := hcell i v hv
  have HWB := Lib.hid ((isBidder_any _ c b i w h (by omega)).mono (R' := fun e w' => e = .returned (.bool true) ∧ w = w') (by rw [wB_yes hb (by omega) (by omega)]; exact fun _ _ h => h))
  have HVS := Lib.hid ((ValidBids_any A2 c2 s w h2 (by have := HS.out.1; omega)).mono (R' := fun e w' => e = .returned (.bool true) ∧ w = w') (by rw [hs]; exact fun _ _ h => h))
  have HIB := Lib.hid ((isBid_any t w).mono (R' := fun e w' => e = .returned (.bool true) ∧ w = w') (by rw [ht]; exact fun _ _ h => h))
  have HCL := Lib.hid (Clone_any bb ob c b w h (by omega))
  obtain ⟨n, hn⟩ : ∃ n, n = (tlF d s).1 := ⟨_, rfl⟩
  obtain ⟨y, hy⟩ : ∃ y, y = (tlF d s).2.1 := ⟨_, rfl⟩
  obtain ⟨z, hz⟩ : ∃ z, z = (tlF d s).2.2 := ⟨_, rfl⟩
  obtain ⟨q, hq⟩ : ∃ q, q = posF d i := ⟨_, rfl⟩
  have HTL := Lib.hid (fun (A : Option Addr) (c : Nat) (w1 : World) (hb1 : Below w.heap.size w w1) (h1 : Rd w1 A c d) => (by
    have := TradeLess_yes A A2 c c2 d s w1 h1 (h2.below hb1) hdv hs
    rwa [← hn, ← hy, ← hz, hdl] at this : Calls Try.prog 21 #[.slice A b.length c, .slice A2 s.length c2] w1 (TripIs w1 (n : Int) y z)))
  have HMA := Lib.hid (fun (g c : Nat) (w1 : World) (hc : b.length ≤ c) (h1 : Rd w1 (some ⟨g, 0, none⟩) c d) => (by
    have := manyAhead_any g 0 c d i w1 h1 (by rw [hdl]; exact hi) HDB.out (by rw [hdl]; exact hc)
    rwa [← hq, hdl] at this : Calls Try.prog 68 #[.slice (some ⟨g, 0, none⟩) b.length c, .int .i64 i] w1 fun e w' => e = .returned (.int .i64 q) ∧ ∃ q, w' = w1.drewN q))
  have HG : Hid (tgF d s i v = if q < n then v - y else 0) := Lib.hid (by
    unfold tgF
    rw [← hq, hn, hy]
    unfold tlF
    by_cases h0 : trOf d s = 0
    · rw [h0]; simp
    · rw [if_neg h0])
  have HYB : Hid (0 ≤ y ∧ y ≤ 30) := Lib.hid (by
    rw [hy]; unfold tlF
    split
    · simp
    · rename_i h0
      obtain ⟨x1, y1, _, hx1, _, hle, h01, h30⟩ := deals_at HDB.out HS.out (show trOf d s - 1 < trOf d s by omega)
      show 0 ≤ (dnL d).getD _ 0 ∧ (dnL d).getD _ 0 ≤ 30
      rw [List.getD_eq_getElem?_getD, hx1, Option.getD_some]; omega)
  have HD := Lib.hid hd
  rw [← hd]
  obtain ⟨x0, hx0⟩ := at_some hi
  have HX0 := Lib.hid hx0
  have hw : IntKind.i64.wrap (v - y) = v - y := IntWalk.i64_in _ (by have := HYB.out; omega)
  clear h h2 hb hs hv ht ht' hd hdv hdl hcell hn hy hz hq HB HS HDB HYB hx0
  go_enter Try.func24, Try.ntmps24
  go_wp2_with fail
  refine HWB.out.mono ?_
  rintro e w1 ⟨rfl, rfl⟩
  go_wp2_with fail
  refine HVS.out.mono ?_
  rintro e w1 ⟨rfl, rfl⟩
  go_wp2_with fail
  refine HIB.out.mono ?_
  rintro e w1 ⟨rfl, rfl⟩
  go_wp2_with fail
  refine HCL.out.mono ?_
  rintro e w1 ⟨g, c1, rfl, o1, b1⟩
  have hc1 := o1.cell HX0.out
  have hf1 := o1.free i
  have hcap := o1.cap.1
  have HO2 := Lib.hid (by have := o1.set_ i t; rwa [← HD.out] at this : Own _ _ _ c1 d)
  have HB2 := Lib.hid (b1.setCell o1.ge (p := ⟨g, i, none⟩) (.int .i64 t))
  clear o1
  go_wp2_with fail
  refine (HTL.out _ _ _ HB2.out HO2.out.rd).mono ?_
  rintro e w3 ⟨rfl, b3⟩
  have HB3 := Lib.hid (HB2.out.trans (b3.mono HB2.out.size))
  have HR3 := Lib.hid (HO2.out.rd.below b3)
  have hcv3 := (HB3.out.cell (p := ⟨bb, ob + i, none⟩) (World.block_lt_of_cell? w _ hcv)).trans hcv
  clear b3
  go_wp2_with fail
  refine (HMA.out _ _ _ hcap HR3.out).mono ?_
  rintro e w4 ⟨rfl, m, rfl⟩
  by_cases hqn : q < n
  · have HE : Hid (tgF d s i v = v - y) := Lib.hid (by rw [HG.out, if_pos hqn])
    have hge : ¬ (n : Int) ≤ (q : Int) := by omega
    clear hqn HG
    go_wp2
    go_ret2
    exact ⟨by rw [HE.out]; rfl, below_drewN' HB3.out m⟩
  · have HE : Hid (tgF d s i v = 0) := Lib.hid (by rw [HG.out, if_neg hqn])
    have hge : (n : Int) ≤ (q : Int) := by omega
    clear hqn HG
    go_wp2
    go_ret2
    exact ⟨by rw [HE.out]; rfl, below_drewN' HB3.out m⟩

theorem TradeGain_no {wb sb tb : Bool} (A A2 : Option Addr) (c c2 : Nat) (b s : List Int) (i t : Int) (w : World) (h : Rd w A c b) (h2 : Rd w A2 c2 s) (hl : b.length ≤ 1048576) (hl2 : s.length ≤ 1048576)
    (hw : wB b i = wb) (hs : vB s = sb) (ht : inR t 0 30 = tb) (hno : (wb && (sb && tb)) = false) :
    Calls Try.prog 24 #[.slice A b.length c, .slice A2 s.length c2, .int .i64 i, .int .i64 t] w (TwoIs w 0 false) := by
  have HW := Lib.hid ((isBidder_any A c b i w h hl).mono (R' := fun e w' => e = .returned (.bool wb) ∧ w = w') (by rw [hw]; exact fun _ _ h => h))
  have HS := Lib.hid ((ValidBids_any A2 c2 s w h2 (by omega)).mono (R' := fun e w' => e = .returned (.bool sb) ∧ w = w') (by rw [hs]; exact fun _ _ h => h))
  have HI := Lib.hid ((isBid_any t w).mono (R' := fun e w' => e = .returned (.bool tb) ∧ w = w') (by rw [ht]; exact fun _ _ h => h))
  clear hw hs ht h h2
  cases wb <;> cases sb <;> cases tb <;> first
    | (exact absurd hno (by decide))
    | (clear hno
       go_enter Try.func24, Try.ntmps24
       go_wp2_with (first
         | (go_at_call 64; refine HW.out.mono ?_; rintro e w1 ⟨rfl, rfl⟩)
         | (go_at_call 65; refine HS.out.mono ?_; rintro e w1 ⟨rfl, rfl⟩)
         | (go_at_call 66; refine HI.out.mono ?_; rintro e w1 ⟨rfl, rfl⟩))
       go_ret2
       exact ⟨rfl, Below.refl _ _⟩)

end Go.Proofs.Ytpildecpabeanaa
