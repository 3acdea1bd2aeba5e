/-
  Chapter 6: the program's KeepsDemand; both sides.
-/
import Derived.Test.YtfjncipekjnbjabJt
import Derived.Test.YtfjncipekjnbjabJm
import Derived.Test.YtfjncipekjnbjabLz
import Derived.WalkMore
import Derived.Deep.RegionLaw
import Derived.Deep.RegionHeld3
import Derived.Deep.LoopGhost
namespace Go.Proofs.Ytfjncipekjnbjab
open Go.RowKit

/-- The greater prices are the others just if none of these is less. -/
theorem mx_up {p q : List Int} (h : UpTo p q 3) {i : Nat} (hi : i < 3) : T (mxP p q 3) i = T q i := by
  rw [mxP_end p q hi]
  have := h i hi
  split <;> omega
theorem mx_no {p q : List Int} (h : ¬ UpTo p q 3) : ∃ i, i < 3 ∧ T (mxP p q 3) i ≠ T q i := by
  by_cases h0 : T p 0 ≤ T q 0
  · by_cases h1 : T p 1 ≤ T q 1
    · by_cases h2 : T p 2 ≤ T q 2
      · exact absurd (fun i hi => by rcases nat3 hi with rfl | rfl | rfl <;> assumption) h
      · exact ⟨2, by omega, by rw [mxP_end p q (by omega)]; split <;> omega⟩
    · exact ⟨1, by omega, by rw [mxP_end p q (by omega)]; split <;> omega⟩
  · exact ⟨0, by omega, by rw [mxP_end p q (by omega)]; split <;> omega⟩

/-- A region that draws its order, all ways of which end alike, but for two blocks and what lies in them. -/
theorem wp_alike2 {P : Program} {c : Code} {K : Act → World → Prop} {Q : Exit → Act → World → Prop} {a : Act} {w : World} (a0 : Nat → Nat → Act) (R : Nat → Nat → World → Prop) (h : ∀ K1 : Act → World → Prop, (∀ M N w', R M N w' → K1 (a0 M N) w') → c.wp P (Exit.then K1 Q) a w) (hk : ∀ M N w', R M N w' → K (a0 M N) w') : c.wp P (Exit.then K Q) a w := h K hk
/-- Two blocks hold the prices p and q. -/
def TwoAt (w0 : World) (p q : List Int) (M N : Nat) (w' : World) : Prop := Below w0.heap.size w0 w' ∧ Pr3 w' M p ∧ Pr3 w' N q

set_option pp.maxSteps 1000000 in
set_option maxRecDepth 100000 in
set_option maxHeartbeats 400000 in
theorem KeepsDemand_yes (A B C : Option Addr) (c d f : Nat) (t p q : List Int) (w : World) (h : Rd w A c t) (g : Rd w B d p) (r : Rd w C f q) (hv : VT t) (hp : VP p) (hq : VP q) :
    Calls Try.prog 50 #[.slice A t.length c, .slice B p.length d, .slice C q.length f] w fun e w' => e = .returned (.bool (kdB t p q)) ∧ Below w.heap.size w w' := by
  have HI := Lib.hid (isPriced_any A B c d t p w h g (by rw [hv.1]; omega))
  have HQ := Lib.hid (fun w1 (g : Rd w1 C f q) => arePrices_any C f q w1 g)
  rw [vt_true hv, vp_true hp] at HI
  rw [vp_true hq] at HQ
  have h3 := hp.1
  have q3 := hq.1
  have h8 := hv.1
  have HD1 := Lib.hid (fun w1 (h : Rd w1 A c t) (g : Rd w1 B d p) => DemandAt_any A B c d t p w1 h g (by rw [h8]; omega))
  have HD2 := Lib.hid (fun w1 (h : Rd w1 A c t) (g : Rd w1 C f q) => DemandAt_any A C c f t q w1 h g (by rw [h8]; omega))
  rw [show dmB t p = dm t p by unfold dmB; rw [vt_true hv, vp_true hp]; rfl] at HD1
  rw [show dmB t q = dm t q by unfold dmB; rw [vt_true hv, vp_true hq]; rfl] at HD2
  have HX0 := fun w1 => dearerOf_any p q w1 h3
  have HS0 := fun w1 => sameIn_any p q w1
  unfold ag3 at HX0 HS0
  have HX := Lib.hid HX0
  have HS := Lib.hid HS0
  have HNU := Lib.hid (fun (hn : ¬ UpTo p q 3) => kdB_false (t := t) (p := p) (q := q) (fun hh => hn (fun k hk => hh.2.2.2.1 k hk)))
  have HYE := Lib.hid (fun (hu : UpTo p q 3) (ha : allTo (sm p q) (dm t q) (dm t p) (dm t p).length = true) => kdB_true (t := t) (p := p) (q := q) ⟨hv, hp, hq, hu, kd_all.1 ha⟩)
  have HNO := Lib.hid (fun (ha : allTo (sm p q) (dm t q) (dm t p) (dm t p).length = false) => kdB_false (t := t) (p := p) (q := q) (fun hh => by rw [kd_all.2 hh.2.2.2.2] at ha; cases ha))
  obtain ⟨b1, off1, rfl⟩ := g.some3 h3
  obtain ⟨b2, off2, rfl⟩ := r.some3 q3
  have hap1 := arr3_ptr b1 off1 d
  have hap2 := arr3_ptr b2 off2 f
  rw [h8] at HI HD1 HD2 ⊢
  rw [h3] at HI HD1 ⊢
  rw [q3] at HQ HD2 ⊢
  clear hv hp hq HX0 HS0
  go_enter Try.func50, Try.ntmps50
  go_wp2_with fail
  go_step3
  go_wp2_with fail
  refine HI.out.mono ?_
  rintro e w1 ⟨rfl, bb1⟩
  go_wp2_with fail
  refine (HQ.out _ (r.below bb1)).mono ?_
  rintro e w2 ⟨rfl, rfl⟩
  have hS0 : Hid (∀ W : World, Below w1.heap.size w1 W → (fun W : World => W.cell? ⟨b1, off1, none⟩ = some (.int .i64 (T p 0)) ∧ W.cell? ⟨b1, off1 + 1, none⟩ = some (.int .i64 (T p 1)) ∧ W.cell? ⟨b1, off1 + 2, none⟩ = some (.int .i64 (T p 2)) ∧ W.cell? ⟨b2, off2, none⟩ = some (.int .i64 (T q 0)) ∧ W.cell? ⟨b2, off2 + 1, none⟩ = some (.int .i64 (T q 1)) ∧ W.cell? ⟨b2, off2 + 2, none⟩ = some (.int .i64 (T q 2))) W) := Lib.hid (fun W hb => by
    obtain ⟨g0, g1, g2⟩ := ((g.below bb1).below hb).three h3
    obtain ⟨r0, r1, r2⟩ := ((r.below bb1).below hb).three q3
    exact ⟨g0, g1, g2, r0, r1, r2⟩)
  have hbd : Below w1.heap.size w1 w1.drew := (Below.refl _ w1).drew
  have zz0 : Pr3 ((w1.alloc (.cells #[.int .i64 0, .int .i64 0, .int .i64 0] 69)).alloc (.cells #[.int .i64 0, .int .i64 0, .int .i64 0] 69)) w1.heap.size [0, 0, 0] := (Pr3.new w1 [0, 0, 0]).alloc _
  have zz1 : Pr3 ((w1.alloc (.cells #[.int .i64 0, .int .i64 0, .int .i64 0] 69)).alloc (.cells #[.int .i64 0, .int .i64 0, .int .i64 0] 69)) (w1.heap.size + 1) [0, 0, 0] := by
    have := Pr3.new (w1.alloc (.cells #[.int .i64 0, .int .i64 0, .int .i64 0] 69)) [0, 0, 0]
    rw [World.size_alloc] at this
    exact this
  go_wp2_with fail
  refine wp_alike2 (fun M N => ⟨#[.slice A 8 c, .slice (some ⟨b1, off1, none⟩) 3 d, .slice (some ⟨b2, off2, none⟩) 3 f, undef, undef, undef, .bool false, .pointer (some ⟨M, 0, none⟩), .pointer (some ⟨N, 0, none⟩), undef, undef, undef, undef, undef, undef, .slice A 8 c, .slice (some ⟨b1, off1, none⟩) 3 d, .bool true, .bool false, .bool false, .slice (some ⟨b2, off2, none⟩) 3 f, .bool true, .bool false, .bool false, .slice (some ⟨b1, off1, none⟩) 3 d, .pointer (some ⟨b1, off1, none⟩), .agg #[.int .i64 (T p 0), .int .i64 (T p 1), .int .i64 (T p 2)], .slice (some ⟨b2, off2, none⟩) 3 f, .pointer (some ⟨b2, off2, none⟩), .agg #[.int .i64 (T q 0), .int .i64 (T q 1), .int .i64 (T q 2)], undef, undef, undef, undef, undef, undef, undef, undef, undef, undef, undef, undef, undef, undef, undef, undef, undef, undef, undef, undef, undef, undef, undef, undef, undef, undef, undef, undef, undef, undef, undef, undef, undef], []⟩) (TwoAt w1 p q) (fun K1 h1 => ?first) ?rest
  case first =>
    refine wp_region_noPanic ?_
    refine wp_region_held_drew (S := fun W : World => W.cell? ⟨b1, off1, none⟩ = some (.int .i64 (T p 0)) ∧ W.cell? ⟨b1, off1 + 1, none⟩ = some (.int .i64 (T p 1)) ∧ W.cell? ⟨b1, off1 + 2, none⟩ = some (.int .i64 (T p 2)) ∧ W.cell? ⟨b2, off2, none⟩ = some (.int .i64 (T q 0)) ∧ W.cell? ⟨b2, off2 + 1, none⟩ = some (.int .i64 (T q 1)) ∧ W.cell? ⟨b2, off2 + 2, none⟩ = some (.int .i64 (T q 2))) (by kernel_rfl) (hS0.out _ hbd) (fun hHeld => ?_)
    refine wpAnyH_take (i := 0) (v := _) rfl (by kernel_rfl) (by kernel_rfl) (by kernel_rfl) (fun _ _ _ h => h) (Or.inl ⟨by rfl, fun w hSw => by (obtain ⟨s0, s1, s2, s3, s4, s5⟩ := hSw; go_simp; try rfl)⟩) (by assumption) ?_
    refine wpAnyH_take (i := 1) (v := _) rfl (by kernel_rfl) (by kernel_rfl) (by kernel_rfl) (fun _ _ _ h => h) (Or.inl ⟨by rfl, fun w hSw => by (obtain ⟨s0, s1, s2, s3, s4, s5⟩ := hSw; go_simp; try rfl)⟩) (by assumption) ?_
    refine wpAnyH_take (i := 2) (v := _) rfl (by kernel_rfl) (by kernel_rfl) (by kernel_rfl) (fun _ _ _ h => h) (Or.inl ⟨by rfl, fun w hSw => by (obtain ⟨s0, s1, s2, s3, s4, s5⟩ := hSw; go_simp; try rfl)⟩) (by assumption) ?_
    refine wpAnyH_take (i := 3) (v := _) rfl (by kernel_rfl) (by kernel_rfl) (by kernel_rfl) (fun _ _ _ h => h) (Or.inl ⟨by rfl, fun w hSw => by (obtain ⟨s0, s1, s2, s3, s4, s5⟩ := hSw; go_simp; try rfl)⟩) (by assumption) ?_
    refine wpAnyH_take (i := 4) (v := _) rfl (by kernel_rfl) (by kernel_rfl) (by kernel_rfl) (fun _ _ _ h => h) (Or.inl ⟨by rfl, fun w hSw => by (obtain ⟨s0, s1, s2, s3, s4, s5⟩ := hSw; go_simp; try rfl)⟩) (by assumption) ?_
    refine wpAnyH_take (i := 5) (v := _) rfl (by kernel_rfl) (by kernel_rfl) (by kernel_rfl) (fun _ _ _ h => h) (Or.inl ⟨by rfl, fun w hSw => by (obtain ⟨s0, s1, s2, s3, s4, s5⟩ := hSw; go_simp; try rfl)⟩) (by assumption) ?_
    refine wpAnyH_ready (rs := [6, 7]) (by kernel_rfl) (by simp) ?_
    refine AllReadyH.cons rfl (fun K hK => ?_) (AllReadyH.cons rfl (fun K hK => ?_) AllReadyH.nil)
    · go_simp
      refine hK.out _ _ (hS0.out _ ?_) (fun hHeld => ?_)
      · exact ((Below.refl _ w1).alloc (Nat.le_refl _) _).drew
      clear hK K
      refine wpAnyH_ready (rs := [7]) (by kernel_rfl) (by simp) ?_
      refine AllReadyH.cons rfl (fun K hK => ?_) AllReadyH.nil
      go_simp
      refine hK.out _ _ (hS0.out _ ?_) (fun hHeld => ?_)
      · exact (((Below.refl _ w1).alloc (Nat.le_refl _) _).alloc (by simp) _).drew
      clear hK K
      obtain ⟨M, N, w3, hM, hN, hw3⟩ : ∃ M N w3, M = w1.heap.size ∧ N = w1.heap.size + 1 ∧ w3 = ((w1.alloc (.cells #[.int .i64 0, .int .i64 0, .int .i64 0] 69)).alloc (.cells #[.int .i64 0, .int .i64 0, .int .i64 0] 69)).drew := ⟨_, _, _, rfl, rfl, rfl⟩
      have B3 : Below w1.heap.size w1 w3 := by rw [hw3]; exact (((Below.refl _ w1).alloc (Nat.le_refl _) _).alloc (by simp) _).drew
      have zM : Pr3 w3 M [0, 0, 0] := by rw [hw3, hM]; exact zz0.keep rfl
      have zN : Pr3 w3 N [0, 0, 0] := by rw [hw3, hN]; exact zz1.keep rfl
      have hMN : M ≠ N := by omega
      have hM1 : w1.heap.size ≤ M := by omega
      have hN1 : w1.heap.size ≤ N := by omega
      rw [← hw3, ← hN, ← hM]
      clear hw3 hM hN hHeld
      have zc0 : w3.cell? ⟨M, 0, none⟩ = some (.int .i64 0) := zM.cell (k := 0) (by omega)
      have zc1 : w3.cell? ⟨M, 1, none⟩ = some (.int .i64 0) := zM.cell (k := 1) (by omega)
      have zc2 : w3.cell? ⟨M, 2, none⟩ = some (.int .i64 0) := zM.cell (k := 2) (by omega)
      have zf0 := zM.free 0
      have zf1 := zM.free 1
      have zf2 := zM.free 2
      refine wpAnyH_ready (rs := [8]) (by kernel_rfl) (by simp) ?_
      refine AllReadyH.cons rfl (fun K hK => ?_) AllReadyH.nil
      go_simp
      have B4 : Below w1.heap.size w1 (((w3.setCell ⟨M, 0, none⟩ (.int .i64 (T p 0))).setCell ⟨M, 1, none⟩ (.int .i64 (T p 1))).setCell ⟨M, 2, none⟩ (.int .i64 (T p 2))) := ((B3.setCell hM1 _).setCell hM1 _).setCell hM1 _
      refine hK.out _ _ (hS0.out _ B4) (fun hHeld => ?_)
      clear hK K
      have yM : Pr3 (((w3.setCell ⟨M, 0, none⟩ (.int .i64 (T p 0))).setCell ⟨M, 1, none⟩ (.int .i64 (T p 1))).setCell ⟨M, 2, none⟩ (.int .i64 (T p 2))) M p := ((zM.set_ rfl (k := 0) (by omega) (T p 0)).set_ rfl (k := 1) (by omega) (T p 1)).set_ rfl (k := 2) (by omega) (T p 2)
      have yN : Pr3 (((w3.setCell ⟨M, 0, none⟩ (.int .i64 (T p 0))).setCell ⟨M, 1, none⟩ (.int .i64 (T p 1))).setCell ⟨M, 2, none⟩ (.int .i64 (T p 2))) N [0, 0, 0] := ((zN.other hMN.symm).other hMN.symm).other hMN.symm
      obtain ⟨w4, hw4⟩ : ∃ w4, w4 = (((w3.setCell ⟨M, 0, none⟩ (.int .i64 (T p 0))).setCell ⟨M, 1, none⟩ (.int .i64 (T p 1))).setCell ⟨M, 2, none⟩ (.int .i64 (T p 2))) := ⟨_, rfl⟩
      rw [← hw4] at B4 yM yN ⊢
      clear hw4 zc0 zc1 zc2 zf0 zf1 zf2 zM zN B3 hHeld
      have zc0 : w4.cell? ⟨N, 0, none⟩ = some (.int .i64 0) := yN.cell (k := 0) (by omega)
      have zc1 : w4.cell? ⟨N, 1, none⟩ = some (.int .i64 0) := yN.cell (k := 1) (by omega)
      have zc2 : w4.cell? ⟨N, 2, none⟩ = some (.int .i64 0) := yN.cell (k := 2) (by omega)
      have zf0 := yN.free 0
      have zf1 := yN.free 1
      have zf2 := yN.free 2
      refine wpAnyH_ready (rs := [9]) (by kernel_rfl) (by simp) ?_
      refine AllReadyH.cons rfl (fun K hK => ?_) AllReadyH.nil
      go_simp
      have B5 : Below w1.heap.size w1 (((w4.setCell ⟨N, 0, none⟩ (.int .i64 (T q 0))).setCell ⟨N, 1, none⟩ (.int .i64 (T q 1))).setCell ⟨N, 2, none⟩ (.int .i64 (T q 2))) := ((B4.setCell hN1 _).setCell hN1 _).setCell hN1 _
      refine hK.out _ _ (hS0.out _ B5) (fun hHeld => ?_)
      clear hK K
      refine wpAnyH_done (by kernel_rfl) (NoPanic.normal ?_) _
      exact exit_normal (h1 M N _ ⟨B5, ((yM.other hMN).other hMN).other hMN, ((yN.set_ rfl (k := 0) (by omega) (T q 0)).set_ rfl (k := 1) (by omega) (T q 1)).set_ rfl (k := 2) (by omega) (T q 2)⟩)
    · go_simp
      refine hK.out _ _ (hS0.out _ ?_) (fun hHeld => ?_)
      · exact ((Below.refl _ w1).alloc (Nat.le_refl _) _).drew
      clear hK K
      refine wpAnyH_ready (rs := [6]) (by kernel_rfl) (by simp) ?_
      refine AllReadyH.cons rfl (fun K hK => ?_) AllReadyH.nil
      go_simp
      refine hK.out _ _ (hS0.out _ ?_) (fun hHeld => ?_)
      · exact (((Below.refl _ w1).alloc (Nat.le_refl _) _).alloc (by simp) _).drew
      clear hK K
      obtain ⟨M, N, w3, hM, hN, hw3⟩ : ∃ M N w3, M = w1.heap.size + 1 ∧ N = w1.heap.size ∧ w3 = ((w1.alloc (.cells #[.int .i64 0, .int .i64 0, .int .i64 0] 69)).alloc (.cells #[.int .i64 0, .int .i64 0, .int .i64 0] 69)).drew := ⟨_, _, _, rfl, rfl, rfl⟩
      have B3 : Below w1.heap.size w1 w3 := by rw [hw3]; exact (((Below.refl _ w1).alloc (Nat.le_refl _) _).alloc (by simp) _).drew
      have zM : Pr3 w3 M [0, 0, 0] := by rw [hw3, hM]; exact zz1.keep rfl
      have zN : Pr3 w3 N [0, 0, 0] := by rw [hw3, hN]; exact zz0.keep rfl
      have hMN : M ≠ N := by omega
      have hM1 : w1.heap.size ≤ M := by omega
      have hN1 : w1.heap.size ≤ N := by omega
      rw [← hw3, ← hM, ← hN]
      clear hw3 hM hN hHeld
      have zc0 : w3.cell? ⟨M, 0, none⟩ = some (.int .i64 0) := zM.cell (k := 0) (by omega)
      have zc1 : w3.cell? ⟨M, 1, none⟩ = some (.int .i64 0) := zM.cell (k := 1) (by omega)
      have zc2 : w3.cell? ⟨M, 2, none⟩ = some (.int .i64 0) := zM.cell (k := 2) (by omega)
      have zf0 := zM.free 0
      have zf1 := zM.free 1
      have zf2 := zM.free 2
      refine wpAnyH_ready (rs := [8]) (by kernel_rfl) (by simp) ?_
      refine AllReadyH.cons rfl (fun K hK => ?_) AllReadyH.nil
      go_simp
      have B4 : Below w1.heap.size w1 (((w3.setCell ⟨M, 0, none⟩ (.int .i64 (T p 0))).setCell ⟨M, 1, none⟩ (.int .i64 (T p 1))).setCell ⟨M, 2, none⟩ (.int .i64 (T p 2))) := ((B3.setCell hM1 _).setCell hM1 _).setCell hM1 _
      refine hK.out _ _ (hS0.out _ B4) (fun hHeld => ?_)
      clear hK K
      have yM : Pr3 (((w3.setCell ⟨M, 0, none⟩ (.int .i64 (T p 0))).setCell ⟨M, 1, none⟩ (.int .i64 (T p 1))).setCell ⟨M, 2, none⟩ (.int .i64 (T p 2))) M p := ((zM.set_ rfl (k := 0) (by omega) (T p 0)).set_ rfl (k := 1) (by omega) (T p 1)).set_ rfl (k := 2) (by omega) (T p 2)
      have yN : Pr3 (((w3.setCell ⟨M, 0, none⟩ (.int .i64 (T p 0))).setCell ⟨M, 1, none⟩ (.int .i64 (T p 1))).setCell ⟨M, 2, none⟩ (.int .i64 (T p 2))) N [0, 0, 0] := ((zN.other hMN.symm).other hMN.symm).other hMN.symm
      obtain ⟨w4, hw4⟩ : ∃ w4, w4 = (((w3.setCell ⟨M, 0, none⟩ (.int .i64 (T p 0))).setCell ⟨M, 1, none⟩ (.int .i64 (T p 1))).setCell ⟨M, 2, none⟩ (.int .i64 (T p 2))) := ⟨_, rfl⟩
      rw [← hw4] at B4 yM yN ⊢
      clear hw4 zc0 zc1 zc2 zf0 zf1 zf2 zM zN B3 hHeld
      have zc0 : w4.cell? ⟨N, 0, none⟩ = some (.int .i64 0) := yN.cell (k := 0) (by omega)
      have zc1 : w4.cell? ⟨N, 1, none⟩ = some (.int .i64 0) := yN.cell (k := 1) (by omega)
      have zc2 : w4.cell? ⟨N, 2, none⟩ = some (.int .i64 0) := yN.cell (k := 2) (by omega)
      have zf0 := yN.free 0
      have zf1 := yN.free 1
      have zf2 := yN.free 2
      refine wpAnyH_ready (rs := [9]) (by kernel_rfl) (by simp) ?_
      refine AllReadyH.cons rfl (fun K hK => ?_) AllReadyH.nil
      go_simp
      have B5 : Below w1.heap.size w1 (((w4.setCell ⟨N, 0, none⟩ (.int .i64 (T q 0))).setCell ⟨N, 1, none⟩ (.int .i64 (T q 1))).setCell ⟨N, 2, none⟩ (.int .i64 (T q 2))) := ((B4.setCell hN1 _).setCell hN1 _).setCell hN1 _
      refine hK.out _ _ (hS0.out _ B5) (fun hHeld => ?_)
      clear hK K
      refine wpAnyH_done (by kernel_rfl) (NoPanic.normal ?_) _
      exact exit_normal (h1 M N _ ⟨B5, ((yM.other hMN).other hMN).other hMN, ((yN.set_ rfl (k := 0) (by omega) (T q 0)).set_ rfl (k := 1) (by omega) (T q 1)).set_ rfl (k := 2) (by omega) (T q 2)⟩)
  case rest =>
    rintro M N w2 ⟨hB2, pM, pN⟩
    have m0 := pM.cell (k := 0) (by omega)
    have m1 := pM.cell (k := 1) (by omega)
    have m2 := pM.cell (k := 2) (by omega)
    have n0 := pN.cell (k := 0) (by omega)
    have n1 := pN.cell (k := 1) (by omega)
    have n2 := pN.cell (k := 2) (by omega)
    have hS1 : Hid (∀ W : World, Below w2.heap.size w2 W → (W.cell? ⟨M, 0, none⟩ = some (.int .i64 (T p 0)) ∧ W.cell? ⟨M, 1, none⟩ = some (.int .i64 (T p 1)) ∧ W.cell? ⟨M, 2, none⟩ = some (.int .i64 (T p 2)) ∧ W.cell? ⟨N, 0, none⟩ = some (.int .i64 (T q 0)) ∧ W.cell? ⟨N, 1, none⟩ = some (.int .i64 (T q 1)) ∧ W.cell? ⟨N, 2, none⟩ = some (.int .i64 (T q 2)))) := Lib.hid (fun W hb => by
      have pM := pM.keep (hb.block _ pM.lt)
      have pN := pN.keep (hb.block _ pN.lt)
      exact ⟨pM.cell (by omega), pM.cell (by omega), pM.cell (by omega), pN.cell (by omega), pN.cell (by omega), pN.cell (by omega)⟩)
    have hbd2 : Below w2.heap.size w2 w2.drew := (Below.refl _ w2).drew
    by_cases hu : UpTo p q 3
    · have hx0 := mx_up hu (i := 0) (by omega)
      have hx1 := mx_up hu (i := 1) (by omega)
      have hx2 := mx_up hu (i := 2) (by omega)
      rw [hx0, hx1, hx2] at HX
      go_wp2_with fail
      refine wp_region_noPanic ?_
      refine wp_region_held_drew (S := fun W => W.cell? ⟨M, 0, none⟩ = some (.int .i64 (T p 0)) ∧ W.cell? ⟨M, 1, none⟩ = some (.int .i64 (T p 1)) ∧ W.cell? ⟨M, 2, none⟩ = some (.int .i64 (T p 2)) ∧ W.cell? ⟨N, 0, none⟩ = some (.int .i64 (T q 0)) ∧ W.cell? ⟨N, 1, none⟩ = some (.int .i64 (T q 1)) ∧ W.cell? ⟨N, 2, none⟩ = some (.int .i64 (T q 2))) (by kernel_rfl) (hS1.out _ hbd2) (fun hHeld => ?_)
      refine wpAnyH_take (i := 0) (v := _) rfl (by kernel_rfl) (by kernel_rfl) (by kernel_rfl) (fun _ _ _ h => h) (Or.inl ⟨by rfl, fun w hSw => by (obtain ⟨s0, s1, s2, s3, s4, s5⟩ := hSw; go_simp; try rfl)⟩) (by assumption) ?_
      refine wpAnyH_take (i := 1) (v := _) rfl (by kernel_rfl) (by kernel_rfl) (by kernel_rfl) (fun _ _ _ h => h) (Or.inl ⟨by rfl, fun w hSw => by (obtain ⟨s0, s1, s2, s3, s4, s5⟩ := hSw; go_simp; try rfl)⟩) (by assumption) ?_
      refine wpAnyH_take (i := 3) (v := _) rfl (by kernel_rfl) (by kernel_rfl) (by kernel_rfl) (fun _ _ _ h => h) (Or.inl ⟨by rfl, fun w hSw => by (obtain ⟨s0, s1, s2, s3, s4, s5⟩ := hSw; go_simp; try rfl)⟩) (by assumption) ?_
      refine wpAnyH_ready (rs := [2]) (by kernel_rfl) (by simp) ?_
      refine AllReadyH.cons rfl (fun K hK => ?_) AllReadyH.nil
      go_simp
      go_at_call 115
      refine (HX.out _).mono ?_
      rintro e w3 ⟨rfl, b3⟩
      have B3 := below_then hbd2 b3
      refine hK.out _ _ (hS1.out _ B3) (fun hHeld => ?_)
      clear hK K
      refine wpAnyH_ready (rs := [4]) (by kernel_rfl) (by simp) ?_
      refine AllReadyH.cons rfl (fun K hK => ?_) AllReadyH.nil
      have hee := run_eq3 q q w3
      go_simp
      refine hK.out _ _ hHeld (fun hHeld => ?_)
      clear hK K hee
      refine wpAnyH_done (by kernel_rfl) (NoPanic.normal ?_) _
      clear hHeld
      obtain ⟨m0, m1, m2, n0, n1, n2⟩ := hS1.out _ B3
      have hhb := h.below (below_then bb1 (below_then hB2 B3))
      have ggb := g.below (below_then bb1 (below_then hB2 B3))
      have rrb := r.below (below_then bb1 (below_then hB2 B3))
      have BB3 := below_then bb1 (below_then hB2 B3)
      clear hS1 hbd2 hB2 pM pN hx0 hx1 hx2 B3 b3
      go_wp2_with fail
      refine (HS.out _).mono ?_
      rintro e w4 ⟨rfl, b4⟩
      go_wp2_with fail
      refine (HD2.out _ (hhb.below b4) (rrb.below b4)).mono ?_
      rintro e w5 ⟨A5, c5, rfl, o5, b5⟩
      go_wp2_with fail
      go_step3
      go_wp2_with fail
      refine (HD1.out _ ((hhb.below b4).below b5) ((ggb.below b4).below b5)).mono ?_
      rintro e w6 ⟨A6, c6, rfl, o6, b6⟩
      have h5 : Hid (Rd w6 A5 c5 (dm t q)) := Lib.hid (o5.below b6).rd
      have h6 : Hid (Rd w6 A6 c6 (dm t p)) := Lib.hid o6.rd
      have HBF : Hid (Below w.heap.size w w6) := Lib.hid (below_then (below_then (below_then BB3 b4) b5) b6)
      have hM8 : sm p q < 8 := sm_lt p q
      have HL8 := Lib.hid (fun (k : Nat) (x : Int) (h : (dm t q)[k]? = some x) => dm_at h)
      have HO8 := Lib.hid (fun (k : Nat) (x : Int) (h : (dm t p)[k]? = some x) => dm_at h)
      have hol := dm_len t p
      have hll := dm_len t q
      have HYE2 := Lib.hid (HYE.out hu)
      have HNO2 := HNO
      obtain ⟨m, hm⟩ : ∃ m, m = sm p q := ⟨_, rfl⟩
      rw [← hm] at HNO2 HYE2 hM8 ⊢
      obtain ⟨O, hO⟩ : ∃ O, O = dm t p := ⟨_, rfl⟩
      obtain ⟨L, hL⟩ : ∃ L, L = dm t q := ⟨_, rfl⟩
      rw [← hO] at HNO2 HYE2 HO8 h6 hol ⊢
      rw [← hL] at HNO2 HYE2 HL8 h5 hll ⊢
      obtain ⟨LO, hLO⟩ : ∃ LO, LO = O.length := ⟨_, rfl⟩
      obtain ⟨LL, hLL⟩ : ∃ LL, LL = L.length := ⟨_, rfl⟩
      have HLO := Lib.hid hLO
      have HLL := Lib.hid hLL
      rw [← hLO] at HYE2 hol ⊢
      rw [← hLL] at hll ⊢
      clear hm hO hL hLO hLL HYE HNO HNU HI HQ HD1 HD2 HX HS m0 m1 m2 n0 n1 n2 hhb ggb rrb BB3 b4 b5 b6 o5 o6 hu h3 q3 h8 h g r
      go_wp2_with fail
      go_loopg [45] LO (fun g iv wx => ∃ k n : Nat, k + g = LO ∧ iv = .int .i64 (k : Int) ∧ wx = w6.drewN n ∧ Hid (allTo m L O k = true))
      case atStart => exact ⟨0, 0, by omega, rfl, rfl, Lib.hid (allTo_zero m L O)⟩
      case round =>
        obtain ⟨k, n, hkg, rfl, rfl, HA⟩ := hrel
        cases gk with
        | zero =>
          obtain rfl : k = LO := by omega
          have HE := Lib.hid (HYE2.out HA.out)
          have hn : ¬ (k : Int) < (k : Int) := by omega
          go_wp2
          try rw [Exit.noGoto_ret]
          go_ret
          exact ⟨by rw [HE.out]; rfl, below_drewN' HBF.out n⟩
        | succ g =>
          have hlt : (k : Int) < (LO : Int) := by omega
          obtain ⟨ba, offa, x, rfl, _, hx, hcx⟩ := h6.out.at_ (k := k) (by rw [← HLO.out]; omega)
          obtain ⟨s, rfl, hs8⟩ := HO8.out k x hx.out
          have HST := Lib.hid (allTo_step (m := m) (L := L) hx.out)
          have HNX := Lib.hid (fun hn => HNO2.out (allTo_no (m := m) (L := L) hx.out hn))
          clear hx
          go_wp2_with fail
          go_loopg [51] LL (fun g2 iv wx => ∃ j n2 : Nat, j + g2 = LL ∧ iv = .int .i64 (j : Int) ∧ wx = w6.drewN n2 ∧ Hid (anyTo m (s : Int) L j = false))
          case atStart => exact ⟨0, n, by omega, rfl, rfl, Lib.hid (anyTo_zero _ _ _)⟩
          case round =>
            obtain ⟨j, n2, hjg, rfl, rfl, HB⟩ := hrel
            cases gk with
            | zero =>
              obtain rfl : j = LL := by omega
              have HE := Lib.hid (HNX.out (by rw [← anyTo_all, ← HLL.out]; exact HB.out))
              have hn : ¬ (j : Int) < (j : Int) := by omega
              go_wp2
              try rw [Exit.noGoto_ret]
              go_ret
              exact ⟨by rw [HE.out]; rfl, below_drewN' HBF.out n2⟩
            | succ g2 =>
              have hjl : (j : Int) < (LL : Int) := by omega
              obtain ⟨bb, offb, y, rfl, _, hy, hcy⟩ := h5.out.at_ (k := j) (by rw [← HLL.out]; omega)
              obtain ⟨z, rfl, hz8⟩ := HL8.out j y hy.out
              obtain ⟨e1, e2⟩ := cov_bits hs8 hM8 hz8
              have HAN := Lib.hid (anyTo_step (m := m) (s := (s : Int)) hy.out)
              have HCE := Lib.hid (covB_eq m s z)
              have HCA : Hid (covB m (s : Int) (z : Int) = true → L.any (covB m (s : Int)) = true) := Lib.hid (fun h => List.any_eq_true.2 ⟨_, List.mem_of_getElem? hy.out, h⟩)
              obtain ⟨X, hX⟩ : ∃ X, X = s &&& m := ⟨_, rfl⟩
              rw [← hX] at e1 e2 HCE
              obtain ⟨Y, hY⟩ : ∃ Y, Y = X - (X &&& z) := ⟨_, rfl⟩
              rw [← hY] at e2 HCE
              clear hX hY hy
              rcases hF : covB m (s : Int) (z : Int) with _ | _
              · have hq2 : ((Y : Int) == 0) = false := by rw [← HCE.out]; exact hF
                have HB' : Hid (anyTo m (s : Int) L (j + 1) = false) := Lib.hid (by rw [HAN.out, HB.out, hF]; rfl)
                have hj1 : j + 1 + g2 = LL := by omega
                clear hF HCE HAN HCA
                go_wp2
                go_roundg g2
                case rel => exact ⟨j + 1, _, hj1, by go_num, rfl, HB'⟩
                case measure => omega
              · have hq2 : ((Y : Int) == 0) = true := by rw [← HCE.out]; exact hF
                have HA' : Hid (allTo m L O (k + 1) = true) := Lib.hid (by rw [HST.out, HA.out, HCA.out hF]; rfl)
                have hk1 : k + 1 + g = LO := by omega
                clear hF HCE HAN HCA
                go_wp2
                go_roundg g
                case rel => exact ⟨k + 1, _, hk1, by go_num, rfl, HA'⟩
                case measure => omega
    · have hne : (T (mxP p q 3) 0 == T q 0 && (T (mxP p q 3) 1 == T q 1 && T (mxP p q 3) 2 == T q 2)) = false := by
        obtain ⟨i, hi, hn⟩ := mx_no hu
        rcases nat3 hi with rfl | rfl | rfl <;> simp [hn]
      have HE := Lib.hid (HNU.out hu)
      have hqe := fun w3 => run_eq3 (mxP p q 3) q w3
      rw [hne] at hqe
      clear hne hu HYE HNO HNU
      go_wp2_with fail
      refine wp_region_noPanic ?_
      refine wp_region_held_drew (S := fun W => W.cell? ⟨M, 0, none⟩ = some (.int .i64 (T p 0)) ∧ W.cell? ⟨M, 1, none⟩ = some (.int .i64 (T p 1)) ∧ W.cell? ⟨M, 2, none⟩ = some (.int .i64 (T p 2)) ∧ W.cell? ⟨N, 0, none⟩ = some (.int .i64 (T q 0)) ∧ W.cell? ⟨N, 1, none⟩ = some (.int .i64 (T q 1)) ∧ W.cell? ⟨N, 2, none⟩ = some (.int .i64 (T q 2))) (by kernel_rfl) (hS1.out _ hbd2) (fun hHeld => ?_)
      refine wpAnyH_take (i := 0) (v := _) rfl (by kernel_rfl) (by kernel_rfl) (by kernel_rfl) (fun _ _ _ h => h) (Or.inl ⟨by rfl, fun w hSw => by (obtain ⟨s0, s1, s2, s3, s4, s5⟩ := hSw; go_simp; try rfl)⟩) (by assumption) ?_
      refine wpAnyH_take (i := 1) (v := _) rfl (by kernel_rfl) (by kernel_rfl) (by kernel_rfl) (fun _ _ _ h => h) (Or.inl ⟨by rfl, fun w hSw => by (obtain ⟨s0, s1, s2, s3, s4, s5⟩ := hSw; go_simp; try rfl)⟩) (by assumption) ?_
      refine wpAnyH_take (i := 3) (v := _) rfl (by kernel_rfl) (by kernel_rfl) (by kernel_rfl) (fun _ _ _ h => h) (Or.inl ⟨by rfl, fun w hSw => by (obtain ⟨s0, s1, s2, s3, s4, s5⟩ := hSw; go_simp; try rfl)⟩) (by assumption) ?_
      refine wpAnyH_ready (rs := [2]) (by kernel_rfl) (by simp) ?_
      refine AllReadyH.cons rfl (fun K hK => ?_) AllReadyH.nil
      go_simp
      go_at_call 115
      refine (HX.out _).mono ?_
      rintro e w3 ⟨rfl, b3⟩
      have B3 := below_then hbd2 b3
      refine hK.out _ _ (hS1.out _ B3) (fun hHeld => ?_)
      clear hK K
      refine wpAnyH_ready (rs := [4]) (by kernel_rfl) (by simp) ?_
      refine AllReadyH.cons rfl (fun K hK => ?_) AllReadyH.nil
      have hee := hqe w3
      go_simp
      refine hK.out _ _ hHeld (fun hHeld => ?_)
      clear hK K hee hqe
      refine wpAnyH_done (by kernel_rfl) (NoPanic.normal ?_) _
      have BB3 := below_then bb1 (below_then hB2 B3)
      clear hHeld m0 m1 m2 n0 n1 n2 hS1 hbd2 hB2 pM pN b3 B3
      go_wp2
      try rw [Exit.noGoto_ret]
      go_ret
      exact ⟨by rw [HE.out]; rfl, BB3⟩

end Go.Proofs.Ytfjncipekjnbjab
