/-
  Chapter 10, the model: the contracts of lessTrade, TradeLess, TradeGain.
-/
import Derived.Test.YtpildecpabeanaaEg
import Derived.Test.YtpildecpabeanaaEm
import Derived.Deep.RegionHeld3
namespace Go.Proofs.Ytpildecpabeanaa
open Go.RowKit

theorem inOrder_dnI {n : Nat} (A : Option Addr) (c : Nat) (xs : List Int) (w : World) (hn : xs.length = n) (h : Rd w A c xs) (hl : n ≤ 6) :
    Calls Try.prog 71 #[.slice A n c, .bool true] w (OrdIs w (ordF (fun j => xs.getD j 0) xs.length) n) := by
  subst hn; exact inOrder_dn A c xs _ w rfl h hl

/-- S may say more behind a call than ahead of it. -/
theorem wpAnyH_monoE {P : Program} {md : Region.Mode} {ops : Array Oper} {Q : Exit → Act → World → Prop} {S S' : World → Prop} (h : ∀ w, S' w → S w) : ∀ (fuel : Nat) (listed : Array Bool) (a : Act) (w : World), wpAnyH P md ops Q S' fuel listed a w → wpAnyH P md ops Q S fuel listed a w
  | 0, _, _, _, hh => hh
  | fuel + 1, _, _, _, hh => ⟨hh.1, fun i hi => wpOp_mono (fun a w hw => ⟨h w hw.1, wpAnyH_monoE h fuel _ a w hw.2⟩) (hh.2 i hi)⟩

set_option maxHeartbeats 2000000 in
theorem SlessTrade_any (A A2 : Option Addr) (c c2 : Nat) (b s : List Int) (w : World) (h : Rd w A c b) (h2 : Rd w A2 c2 s) (hb : Bd b) (hs : Bd s) :
    Calls Try.prog 61 #[.slice A b.length c, .slice A2 s.length c2] w (TripIs w ((tlF b s).1 : Int) (tlF b s).2.1 (tlF b s).2.2) := by
  have hbl := hb.1.2
  have hsl := hs.1.2
  have HT := Lib.hid (Strades_any A A2 c c2 b s w h h2 hb hs)
  obtain ⟨n, hn⟩ : ∃ n, n = trOf b s := ⟨_, rfl⟩
  obtain ⟨gg, hg⟩ : ∃ g, g = gnOf b s := ⟨_, rfl⟩
  rw [← hn, ← hg] at HT
  have hn6 : n ≤ 6 := by have := (trOf_le b s).1; omega
  by_cases hn0 : n = 0
  · have HE : Hid (tlF b s = (0, 0, 0)) := Lib.hid (by unfold tlF; rw [if_pos (by rw [← hn]; exact hn0)])
    subst hn0
    rw [HE.out]
    clear h h2 hb hs hn hg
    go_enter Try.func61, Try.ntmps61
    go_wp2_with fail
    refine HT.out.mono ?_
    rintro e w1 ⟨rfl, b1⟩
    go_wp2
    go_ret3
    exact ⟨rfl, b1⟩
  · obtain ⟨m, hm⟩ : ∃ m, n = m + 1 := ⟨n - 1, by omega⟩
    obtain ⟨x, y, hds, hx, hy, hle, hy0, hx30⟩ := deals_at hb hs (show m < trOf b s by omega)
    have hmb : m < b.length := by have := (List.getElem?_eq_some_iff.1 hx).1; rwa [dnL_len] at this
    have hms : m < s.length := by have := (List.getElem?_eq_some_iff.1 hy).1; rwa [upL_len] at this
    obtain ⟨j, x', hj, hjl, hxj, hdx⟩ := dn_place hmb
    obtain ⟨j2, y', hj2, hjl2, hyj, huy⟩ := up_place hms
    obtain rfl : x' = x := by rw [hx] at hdx; exact (Option.some.inj hdx).symm
    obtain rfl : y' = y := by rw [hy] at huy; exact (Option.some.inj huy).symm
    have HE : Hid (tlF b s = (m, x', y')) := Lib.hid (by unfold tlF; rw [if_neg (by rw [← hn]; exact hn0), ← hn, hm, Nat.add_sub_cancel, List.getD_eq_getElem?_getD, List.getD_eq_getElem?_getD, hx, hy]; rfl)
    rw [HE.out]
    obtain ⟨br, ofr, x2, rfl, _, hx2, hcx⟩ := h.at_ hjl
    obtain rfl : x2 = x' := by have := hx2.out; rw [hxj] at this; exact (Option.some.inj this).symm
    obtain ⟨br2, ofr2, y2, rfl, _, hy2, hcy⟩ := h2.at_ hjl2
    obtain rfl : y2 = y' := by have := hy2.out; rw [hyj] at this; exact (Option.some.inj this).symm
    have hnn : ((n : Int) == 0) = false := by simp; omega
    have hw1 : IntKind.i64.wrap ((n : Int) - 1) = (m : Int) := by rw [show (n : Int) - 1 = (m : Int) by omega]; exact IntWalk.i64_in _ (by omega)
    have HO1 := Lib.hid (fun (w1 : World) (hb : Below w.heap.size w w1) => inOrder_dn _ c b _ w1 rfl (h.below hb) hbl)
    have HO2 := Lib.hid (fun (w1 : World) (hb : Below w.heap.size w w1) => inOrder_up _ c2 s _ w1 rfl (h2.below hb) hsl)
    have HKC := Lib.hid (fun (w1 : World) (hb : Below w.heap.size w w1) => And.intro ((hb.cell (p := ⟨br, ofr + j, none⟩) (World.block_lt_of_cell? w _ hcx)).trans hcx) ((hb.cell (p := ⟨br2, ofr2 + j2, none⟩) (World.block_lt_of_cell? w _ hcy)).trans hcy))
    have HJ := Lib.hid (lstN_at hj)
    have HJ2 := Lib.hid (lstN_at hj2)
    clear hb hs hn hg hds hx hy hm hn0 hj hj2 hxj hdx hyj huy hx2 hy2 hle hy0 hx30
    go_enter Try.func61, Try.ntmps61
    go_wp2_with fail
    refine HT.out.mono ?_
    rintro e w1 ⟨rfl, b1⟩
    have hbd : Below w.heap.size w w1.drew := below_drewN' b1 1
    go_wp2_with fail
    refine wp_region_noPanic ?_
    refine wp_region_held_drew (S := fun W : World => W.cell? ⟨br, ofr + j, none⟩ = some (.int .i64 x2) ∧ W.cell? ⟨br2, ofr2 + j2, none⟩ = some (.int .i64 y2)) (by kernel_rfl) (HKC.out _ hbd) (fun hHeld => ?_)
    refine wpAnyH_take (i := 0) (v := _) rfl (by kernel_rfl) (by kernel_rfl) (by kernel_rfl) (fun _ _ _ h => h) (Or.inl ⟨by rfl, fun w hSw => by (obtain ⟨s0, s1⟩ := hSw; go_simp; try rfl)⟩) (by assumption) ?_
    refine wpAnyH_take (i := 1) (v := _) rfl (by kernel_rfl) (by kernel_rfl) (by kernel_rfl) (fun _ _ _ h => h) (Or.inl ⟨by rfl, fun w hSw => by (obtain ⟨s0, s1⟩ := hSw; go_simp; try rfl)⟩) (by assumption) ?_
    refine wpAnyH_take (i := 2) (v := _) rfl (by kernel_rfl) (by kernel_rfl) (by kernel_rfl) (fun _ _ _ h => h) (Or.inl ⟨by rfl, fun w hSw => by (obtain ⟨s0, s1⟩ := hSw; go_simp; try rfl)⟩) (by assumption) ?_
    refine wpAnyH_take (i := 3) (v := _) rfl (by kernel_rfl) (by kernel_rfl) (by kernel_rfl) (fun _ _ _ h => h) (Or.inl ⟨by rfl, fun w hSw => by (obtain ⟨s0, s1⟩ := hSw; go_simp; try rfl)⟩) (by assumption) ?_
    refine wpAnyH_take (i := 5) (v := _) rfl (by kernel_rfl) (by kernel_rfl) (by kernel_rfl) (fun _ _ _ h => h) (Or.inl ⟨by rfl, fun w hSw => by (obtain ⟨s0, s1⟩ := hSw; go_simp; try rfl)⟩) (by assumption) ?_
    refine wpAnyH_take (i := 6) (v := _) rfl (by kernel_rfl) (by kernel_rfl) (by kernel_rfl) (fun _ _ _ h => h) (Or.inl ⟨by rfl, fun w hSw => by (obtain ⟨s0, s1⟩ := hSw; go_simp; try rfl)⟩) (by assumption) ?_
    refine wpAnyH_take (i := 11) (v := _) rfl (by kernel_rfl) (by kernel_rfl) (by kernel_rfl) (fun _ _ _ h => h) (Or.inl ⟨by rfl, fun w hSw => by (obtain ⟨s0, s1⟩ := hSw; go_simp; try rfl)⟩) (by assumption) ?_
    refine wpAnyH_take (i := 12) (v := _) rfl (by kernel_rfl) (by kernel_rfl) (by kernel_rfl) (fun _ _ _ h => h) (Or.inl ⟨by rfl, fun w hSw => by (obtain ⟨s0, s1⟩ := hSw; go_simp; try rfl)⟩) (by assumption) ?_
    refine wpAnyH_take (i := 14) (v := _) rfl (by kernel_rfl) (by kernel_rfl) (by kernel_rfl) (fun _ _ _ h => h) (Or.inl ⟨by rfl, fun w hSw => by (obtain ⟨s0, s1⟩ := hSw; go_simp; try rfl)⟩) (by assumption) ?_
    refine wpAnyH_take (i := 15) (v := _) rfl (by kernel_rfl) (by kernel_rfl) (by kernel_rfl) (fun _ _ _ h => h) (Or.inl ⟨by rfl, fun w hSw => by (obtain ⟨s0, s1⟩ := hSw; go_simp; try rfl)⟩) (by assumption) ?_
    refine wpAnyH_ready (rs := [4]) (by kernel_rfl) (by simp) ?_
    refine AllReadyH.cons rfl (fun K hK => ?_) AllReadyH.nil
    go_simp
    refine (HO1.out _ hbd).mono ?_
    rintro e w5 ⟨g5, c5, rfl, o5, b5⟩
    have B5 := hbd.trans (b5.mono hbd.size)
    have hs5 := o5.cell HJ.out
    clear b5
    refine hK.out _ _ (HKC.out w5 B5) (fun hHeld => ?_)
    clear hK K
    refine wpAnyH_monoE (S' := fun W : World => W.cell? ⟨br, ofr + j, none⟩ = some (.int .i64 x2) ∧ W.cell? ⟨br2, ofr2 + j2, none⟩ = some (.int .i64 y2) ∧ W.cell? ⟨g5, m, none⟩ = some (.int .i64 (j : Int))) (fun _ h => ⟨h.1, h.2.1⟩) _ _ _ _ ?_
    have hHeld := (⟨(HKC.out w5 B5).1, (HKC.out w5 B5).2, hs5⟩ : (fun W : World => W.cell? ⟨br, ofr + j, none⟩ = some (.int .i64 x2) ∧ W.cell? ⟨br2, ofr2 + j2, none⟩ = some (.int .i64 y2) ∧ W.cell? ⟨g5, m, none⟩ = some (.int .i64 (j : Int))) w5)
    refine wpAnyH_take (i := 7) (v := _) rfl (by kernel_rfl) (by kernel_rfl) (by kernel_rfl) (fun _ _ _ h => h) (Or.inl ⟨by rfl, fun w hSw => by (obtain ⟨s0, s1, s2⟩ := hSw; go_simp; try rfl)⟩) (by assumption) ?_
    refine wpAnyH_take (i := 8) (v := _) rfl (by kernel_rfl) (by kernel_rfl) (by kernel_rfl) (fun _ _ _ h => h) (Or.inl ⟨by rfl, fun w hSw => by (obtain ⟨s0, s1, s2⟩ := hSw; go_simp; try rfl)⟩) (by assumption) ?_
    refine wpAnyH_take (i := 9) (v := _) rfl (by kernel_rfl) (by kernel_rfl) (by kernel_rfl) (fun _ _ _ h => h) (Or.inl ⟨by rfl, fun w hSw => by (obtain ⟨s0, s1, s2⟩ := hSw; go_simp; try rfl)⟩) (by assumption) ?_
    refine wpAnyH_take (i := 10) (v := _) rfl (by kernel_rfl) (by kernel_rfl) (by kernel_rfl) (fun _ _ _ h => h) (Or.inl ⟨by rfl, fun w hSw => by (obtain ⟨s0, s1, s2⟩ := hSw; go_simp; try rfl)⟩) (by assumption) ?_
    refine wpAnyH_ready (rs := [13]) (by kernel_rfl) (by simp) ?_
    refine AllReadyH.cons rfl (fun K hK => ?_) AllReadyH.nil
    go_simp
    refine (HO2.out _ B5).mono ?_
    rintro e w6 ⟨g6, c6, rfl, o6, b6⟩
    have B6 := B5.trans (b6.mono B5.size)
    have hs6 := o6.cell HJ2.out
    have hs5' := (o5.below b6).cell HJ.out
    clear b6
    refine hK.out _ _ ⟨(HKC.out w6 B6).1, (HKC.out w6 B6).2, hs5'⟩ (fun hHeld => ?_)
    clear hK K
    refine wpAnyH_monoE (S' := fun W : World => W.cell? ⟨br, ofr + j, none⟩ = some (.int .i64 x2) ∧ W.cell? ⟨br2, ofr2 + j2, none⟩ = some (.int .i64 y2) ∧ W.cell? ⟨g5, m, none⟩ = some (.int .i64 (j : Int)) ∧ W.cell? ⟨g6, m, none⟩ = some (.int .i64 (j2 : Int))) (fun _ h => ⟨h.1, h.2.1, h.2.2.1⟩) _ _ _ _ ?_
    have hHeld := (⟨(HKC.out w6 B6).1, (HKC.out w6 B6).2, hs5', hs6⟩ : (fun W : World => W.cell? ⟨br, ofr + j, none⟩ = some (.int .i64 x2) ∧ W.cell? ⟨br2, ofr2 + j2, none⟩ = some (.int .i64 y2) ∧ W.cell? ⟨g5, m, none⟩ = some (.int .i64 (j : Int)) ∧ W.cell? ⟨g6, m, none⟩ = some (.int .i64 (j2 : Int))) w6)
    refine wpAnyH_take (i := 16) (v := _) rfl (by kernel_rfl) (by kernel_rfl) (by kernel_rfl) (fun _ _ _ h => h) (Or.inl ⟨by rfl, fun w hSw => by (obtain ⟨s0, s1, s2, s3⟩ := hSw; go_simp; try rfl)⟩) (by assumption) ?_
    refine wpAnyH_take (i := 17) (v := _) rfl (by kernel_rfl) (by kernel_rfl) (by kernel_rfl) (fun _ _ _ h => h) (Or.inl ⟨by rfl, fun w hSw => by (obtain ⟨s0, s1, s2, s3⟩ := hSw; go_simp; try rfl)⟩) (by assumption) ?_
    refine wpAnyH_take (i := 18) (v := _) rfl (by kernel_rfl) (by kernel_rfl) (by kernel_rfl) (fun _ _ _ h => h) (Or.inl ⟨by rfl, fun w hSw => by (obtain ⟨s0, s1, s2, s3⟩ := hSw; go_simp; try rfl)⟩) (by assumption) ?_
    refine wpAnyH_take (i := 19) (v := _) rfl (by kernel_rfl) (by kernel_rfl) (by kernel_rfl) (fun _ _ _ h => h) (Or.inl ⟨by rfl, fun w hSw => by (obtain ⟨s0, s1, s2, s3⟩ := hSw; go_simp; try rfl)⟩) (by assumption) ?_
    refine wpAnyH_ready (rs := [20]) (by kernel_rfl) (by simp) ?_
    refine AllReadyH.cons rfl (fun K hK => ?_) AllReadyH.nil
    go_simp
    refine hK.out _ _ hHeld (fun hHeld => ?_)
    clear hK K
    refine wpAnyH_ready (rs := [21]) (by kernel_rfl) (by simp) ?_
    refine AllReadyH.cons rfl (fun K hK => ?_) AllReadyH.nil
    go_simp
    refine hK.out _ _ hHeld (fun hHeld => ?_)
    clear hK K
    refine wpAnyH_ready (rs := [22]) (by kernel_rfl) (by simp) ?_
    refine AllReadyH.cons rfl (fun K hK => ?_) AllReadyH.nil
    go_simp
    refine hK.out _ _ hHeld (fun hHeld => ?_)
    clear hK K
    refine wpAnyH_done (by kernel_rfl) (NoPanic.normal ?_) _
    go_wp2
    go_ret3
    exact ⟨rfl, B6⟩

end Go.Proofs.Ytpildecpabeanaa
