/-
  Chapter 5, the program: the contracts of worthWithout, PivotPays, AddsOf.
-/
import Derived.Test.YtdbpjlconbifpabZe
import Derived.Test.YtdbpjlconbifpabZd
import Derived.Test.YtdbpjlconbifpabWz
import Derived.Test.YtdbpjlconbifpabUx
namespace Go.Proofs.Ytdbpjlconbifpab
open Go.RowKit

theorem own_block_at {w : World} {B g n : Nat} {vs : List Value} (h : w.ownsRow B 24 1 (.slice (some ⟨g, 0, none⟩) n n) n vs) : ∃ cur : List Value, cur.length = n ∧ w.heap[g]? = some (.cells cur.toArray 24 (0, 0)) := by
  rcases h.2 with ⟨h0, _⟩ | ⟨g', cap, cur, hv, _, hh, _, _, hs, _⟩
  · cases h0
  · injection hv with hA _ hc
    injection hA with hA
    injection hA with hA
    subst hA hc
    exact ⟨cur.toList, by simp; omega, by simpa using hh⟩

/-- What worthWithout hands back. -/
def WwIs (W0 w : World) (b off c m : Nat) (vs : List Value) (ts : List (List Int)) (e : Ending) (w' : World) : Prop :=
  ∃ p q g, e = .returned (.func (.func 51) #[] #[.pointer (some ⟨p, 0, none⟩), .pointer (some ⟨q, 0, none⟩)]) ∧ WoAt W0 b off c m p q g vs ts w' ∧ Below w.heap.size w w' ∧
    (w.heap.size ≤ p ∧ w.heap.size ≤ q ∧ w.heap.size ≤ g) ∧ p < w'.heap.size ∧ q < w'.heap.size ∧ g < w'.heap.size

set_option maxHeartbeats 400000 in
theorem worthWithout_any (W0 : World) (b off c m : Nat) (vs : List Value) (ts : List (List Int)) (w : World) (hm : m ≤ 3) (hv : RowsV W0 vs ts) (hc : ∀ (k : Nat) (v : Value), vs[k]? = some v → W0.cell? ⟨b, off + k, none⟩ = some v) (hb0 : Below W0.heap.size W0 w) :
    Calls Try.prog 31 #[.slice (some ⟨b, off, none⟩) (m + 1) c] w (WwIs W0 w b off c m vs ts) := by
  have e1 : IntKind.i64.wrap ((m : Int) + 1 - 1) = (m : Int) := by rw [show (m : Int) + 1 - 1 = (m : Int) by omega]; exact IntWalk.i64_in _ (by omega)
  have HV := Lib.hid hv
  have HC := Lib.hid hc
  have HB0 := Lib.hid hb0
  clear hv hc hb0
  go_enter Try.func31, Try.ntmps31
  go_wp2_with (at_make; refine wpList_make_rows rfl _ _ rfl (w.heap.size + 1) m rfl rfl (by omega) (by simp) ?_; intro w1 ho hb)
  go_ret
  have hs1 : (w.alloc (.cells #[.slice (some ⟨b, off, none⟩) (m + 1) c] 22)).heap.size = w.heap.size + 1 := by simp
  rw [hs1] at ho
  have hg := World.ownsRow.lt ho (w.heap.size + 1) rfl
  have hal := (Below.refl w1.heap.size w1).alloc (Nat.le_refl _) (.cells #[.slice (some ⟨w.heap.size + 1, 0, none⟩) m m] 22)
  have hB1 : Below w.heap.size w w1 := ((Below.refl w.heap.size w).alloc (Nat.le_refl _) (.cells #[.slice (some ⟨b, off, none⟩) (m + 1) c] 22)).trans (hb.mono (by omega))
  have hB2 := hB1.trans (hal.mono hB1.size)
  obtain ⟨cur, hcl, hcc⟩ := own_block_at ho
  have hw0 := HB0.out.size
  have hq1 : w1.cell? ⟨w.heap.size, 0, none⟩ = some (.slice (some ⟨b, off, none⟩) (m + 1) c) := (hb.cell (p := ⟨w.heap.size, 0, none⟩) (by show w.heap.size < w.heap.size + 1; omega)).trans (by simp)
  have hsz : (w1.alloc (.cells #[.slice (some ⟨w.heap.size + 1, 0, none⟩) m m] 22)).heap.size = w1.heap.size + 1 := by simp
  refine ⟨w1.heap.size, w.heap.size, w.heap.size + 1, rfl, ⟨HV.out, HB0.out.trans (hB2.mono hw0), by omega, by omega, by omega, by simp, ?_, HC.out, cur, hcl, ?_⟩, hB2, ⟨by omega, by omega, by omega⟩, by omega, by omega, by omega⟩
  · exact (hal.cell (p := ⟨w.heap.size, 0, none⟩) (World.block_lt_of_cell? w1 _ hq1)).trans hq1
  · exact (hal.block (w.heap.size + 1) (by omega)).trans hcc

set_option maxHeartbeats 2000000 in
theorem PivotPays_yes (A : Option Addr) (c n : Nat) (ts : List (List Int)) (w : World) (hn : ts.length = n) (hR : RdR w A c ts) (hl2 : ∀ r ∈ ts, r.length ≤ 1099511627776) (hv : VTs ts) :
    Calls Try.prog 11 #[.slice A n c] w (ValsIs w (pvF ts) n) := by
  have h1l : 1 ≤ n := by rw [← hn]; exact hv.1.1
  have h4 : n ≤ 4 := by rw [← hn]; exact hv.1.2
  have HCT := Lib.hid (areTables_any A c ts w hR hl2)
  rw [vtsB_true hv, hn] at HCT
  have HBS := Lib.hid (fun (W : World) (hW : Below w.heap.size w W) => BestSplit_yes A c n ts W hn (hR.below hW) hl2 hv)
  obtain ⟨b, off, rfl, hcapR, _⟩ := hR.open_ (by rw [hn]; exact h1l)
  obtain ⟨vs, hvs, hcell⟩ := hR.vals
  obtain ⟨m, rfl⟩ : ∃ m, n = m + 1 := ⟨n - 1, by omega⟩
  have hcm : m + 1 ≤ c := by rw [← hn]; exact hR.1
  have HWW := Lib.hid (fun (W : World) (hW : Below w.heap.size w W) => worthWithout_any w b off c m vs ts W (by omega) hvs hcell hW)
  have HWO := Lib.hid (fun (W : World) (i p q g : Nat) (h : WoAt w b off c m p q g vs ts W) (hi : i < m + 1) => Wo_any w b off c m p q g i vs ts W h hv.2 hn (by omega) hi hcm)
  have HV := Lib.hid hv
  have HN := Lib.hid hn
  clear hv hn hl2 hvs hcell
  go_enter Try.func11, Try.ntmps11
  go_wp2_with fail
  refine HCT.out.mono ?_
  rintro e w1 ⟨rfl, b1⟩
  go_wp2_with fail
  refine (HBS.out w1 b1).mono ?_
  rintro e w2 ⟨A2, c2, xs, M, rfl, o2, b2, ⟨_, hxs, hM⟩ | ⟨hno, _⟩⟩
  · have hxl : xs.length = m + 1 := by rw [hxs, setsF_len', HN.out]
    rw [hxl]
    obtain ⟨g2, rfl⟩ := own_some o2 (by omega)
    have HM0 := Lib.hid hM
    have HX0 := Lib.hid hxs
    clear hM hxs
    have B2 := b1.trans (b2.mono b1.size)
    go_wp2_with fail
    refine (HWW.out w2 B2).mono ?_
    rintro e w3 ⟨p, q, g, rfl, hwo, b3, ⟨hp0, hq0, hg0⟩, hp1, hq1, hg1⟩
    have B3 := B2.trans (b3.mono B2.size)
    have o3 := o2.below b3
    go_wp2_with (at_make; refine wpList_make_ints rfl _ _ rfl w3.heap.size (m + 1) rfl rfl (by omega) (by simp) ?_; intro w4 o4 b4)
    have B4 := B3.trans (b4.mono B3.size)
    have hM := HM0.out
    have hxs := HX0.out
    obtain ⟨f, hf⟩ : ∃ f, f = pvF ts := ⟨_, rfl⟩
    have HF := Lib.hid hf
    rw [← hf]
    obtain ⟨os, hos⟩ : ∃ os, os = wayF ts := ⟨_, rfl⟩
    rw [← hos] at hxs hM
    have HOS := Lib.hid hos
    rw [HN.out] at hxs
    have hMb := worthF_bd HV.out.2 os
    rw [← hM, HN.out] at hMb
    have hM0 := hMb.1
    have hM1 : M ≤ 120 := by omega
    have HM := Lib.hid hM
    have HO4 : Hid (Own w4 w3.heap.size (some ⟨w3.heap.size, 0, none⟩) (m + 1) (filled (vls f (m + 1)) 0)) := Lib.hid (by rw [filled_zero, vls_len]; exact o4)
    have hws : w.heap.size ≤ w3.heap.size := B3.size
    have HS4 : Hid (Own w4 w.heap.size (some ⟨g2, 0, none⟩) c2 (setsF os (m + 1))) := Lib.hid (by rw [← hxs]; exact (o3.below b4).base b1.size)
    have HW4 := Lib.hid (hwo.belowW b4)
    obtain ⟨g4, hg4⟩ : ∃ g4, g4 = w3.heap.size := ⟨_, rfl⟩
    have hg24 : g2 < g4 := by rw [hg4]; exact o3.lt
    have hg2g : g2 < g := by have h1 := o2.lt; omega
    rw [← hg4] at HO4 hws hp1 hq1 hg1 ⊢
    clear hf hos hxs hM hMb o2 o3 o4 hwo b1 b2 b3 b4 B2 B3 hg4 HWW HBS HCT
    go_loopw [24] (fun i wr => ∃ j : Nat, j ≤ m + 1 ∧ i = .int .i64 j ∧ Hid (Own wr g4 (some ⟨g4, 0, none⟩) (m + 1) (filled (vls f (m + 1)) j)) ∧ Hid (Own wr w.heap.size (some ⟨g2, 0, none⟩) c2 (setsF os (m + 1))) ∧ Hid (WoAt w b off c m p q g vs ts wr)) (fun i _ => m + 1 - (intOf i).toNat)
    case atStart => exact ⟨0, Nat.zero_le _, rfl, HO4, HS4, HW4⟩
    case round =>
      obtain ⟨j, hj, rfl, HO, HS, HW⟩ := hrel
      by_cases hlt : j < m + 1
      · obtain ⟨b', off', r, A', c', hA, hr, hc0, hcap, hrd⟩ := hR.at_ (k := j) (by rw [HN.out]; exact hlt)
        cases hA
        have hvt := HV.out.2 r (List.mem_of_getElem? hr.out)
        obtain ⟨br, ofr, rfl⟩ := hrd.out.some_ hvt.1
        rw [hvt.1] at hc0
        obtain ⟨s, hs⟩ : ∃ s, s = setOf os j := ⟨_, rfl⟩
        have hs8 : s < 8 := by rw [hs]; exact setOf_lt os j
        obtain ⟨b3, o3, x, hA, hblx, hx, hcx0⟩ := hrd.out.at_ (k := s) (by rw [hvt.1]; exact hs8)
        cases hA
        have hxe := T_of hx.out
        have hxb := hvt.bd hs8
        rw [hxe] at hxb
        have hx0 := hxb.1
        have hx1 := hxb.2
        have hcs := HS.out.cell (show (setsF os (m + 1))[j]? = some (s : Int) by rw [setsF_at os hlt, hs])
        have HBL := Lib.hid (World.block_lt_of_cell? w _ hc0)
        have HBX := Lib.hid hblx
        have HK := Lib.hid (fun (W : World) (hW : Below w.heap.size w W) =>
          (⟨(hW.cell (p := ⟨b, off + j, none⟩) HBL.out).trans hc0, (hW.cell (p := ⟨br, ofr + s, none⟩) HBX.out).trans hcx0⟩ : W.cell? ⟨b, off + j, none⟩ = some (.slice (some ⟨br, ofr, none⟩) 8 c') ∧ W.cell? ⟨br, ofr + s, none⟩ = some (.int .i64 x)))
        have hel : (ts.eraseIdx j).length = m := by rw [erase_len (by rw [HN.out]; exact hlt), HN.out]; omega
        have hev : ∀ t ∈ ts.eraseIdx j, VT t := fun t ht => HV.out.2 t (mem_erase ht)
        have hsv0 := sv_nonneg (ts.eraseIdx j) 7
        have hsv1 := sv_bd hev 7 (by omega)
        rw [hel] at hsv1
        have hwd : WoAt w b off c m p q g vs ts wr.drew := HW.out.belowW (below_drewN' (Below.refl _ _) 1)
        have HC := Lib.hid (HWO.out wr.drew j p q g hwd hlt)
        have hK0 := HK.out wr.drew hwd.below
        unfold WoIs at HC
        obtain ⟨U, hU⟩ : ∃ U, U = sv (ts.eraseIdx j) 7 := ⟨_, rfl⟩
        rw [← hU] at hsv0 hsv1 HC
        have hU1 : U ≤ 90 := by omega
        have HFE : Hid (U - (M - x) = f j) := Lib.hid (by
          rw [HF.out]; unfold pvF; rw [← HOS.out, hU, HM.out, ← hs, getD_row hr.out, hxe])
        have e1 : IntKind.i64.wrap (M - x) = M - x := IntWalk.i64_in _ (by omega)
        have e2 : IntKind.i64.wrap (U - (M - x)) = U - (M - x) := IntWalk.i64_in _ (by omega)
        have hs0 : (0 : Int) ≤ (s : Int) := by omega
        have hs7 : (s : Int) < 8 := by omega
        have hjl : j < (filled (vls f (m + 1)) j).length := by rw [filled_len _ _ (by rw [vls_len]; exact hj), vls_len]; exact hlt
        obtain ⟨y, hy⟩ := at_some hjl
        have HY := Lib.hid hy
        have HKP := Lib.hid (fun (W W' : World) (zs : List Int) (g' : Nat) (B c' : Nat) (h : Own W B (some ⟨g', 0, none⟩) c' zs) (hg : W.grownBy W' (some g)) (hne : g' ≠ g) => (h.kept_ (A2 := some ⟨g, 0, none⟩) hg (.inr (fun e => hne (by have := Option.some.inj e; exact this))) : Own W' B (some ⟨g', 0, none⟩) c' zs))
        have HDD : Hid (Own wr.drew g4 (some ⟨g4, 0, none⟩) (m + 1) (filled (vls f (m + 1)) j)) := Lib.hid (HO.out.drewN 1)
        have HDS : Hid (Own wr.drew w.heap.size (some ⟨g2, 0, none⟩) c2 (setsF os (m + 1))) := Lib.hid (HS.out.drewN 1)
        have hne1 : g4 ≠ g := by omega
        have hne2 : g2 ≠ g := by omega
        clear hs hvt hxe hxb hx hrd hc0 hcx0 hev hU hsv1 hr hel hblx hjl hy hwd
        go_wp2_with fail
        go_region_held3 (fun W => W.cell? ⟨b, off + j, none⟩ = some (.slice (some ⟨br, ofr, none⟩) 8 c') ∧ W.cell? ⟨br, ofr + s, none⟩ = some (.int .i64 x))
          (first | exact hK0 | exact hK5 | exact hK6 | fail)
          (first
          | (go_at_call 51; refine HC.out.mono ?_; rintro e w5 ⟨rfl, gr5, hw5⟩; have HW5 := Lib.hid hw5; have hK5 := HK.out w5 hw5.below; have HO5 := Lib.hid (HKP.out _ _ _ _ _ _ HDD.out gr5 hne1); have HS5 := Lib.hid (HKP.out _ _ _ _ _ _ HDS.out gr5 hne2); have hc5 := HO5.out.cell HY.out; have hf5 := HO5.out.free j; have HST := Lib.hid (HO5.out.set_ j (U - (M - x))); have hK6 := HK.out _ (hw5.below.setCell (p := ⟨g4, j, none⟩) hws (.int .i64 (U - (M - x)))))
          | fail)
        have hst : w5.grownBy (w5.setCell ⟨g4, j, none⟩ (.int .i64 (U - (M - x)))) (some g4) := (World.ownsRow.stored HO5.out j (.int .i64 (U - (M - x)))).2
        have HP6 : Hid (Own (w5.setCell ⟨g4, j, none⟩ (.int .i64 (U - (M - x)))) g4 (some ⟨g4, 0, none⟩) (m + 1) (filled (vls f (m + 1)) (j + 1))) := Lib.hid (by
          have h := HST.out
          rw [HFE.out, filled_set _ _ _ (vls_at hlt)] at h
          rw [HFE.out]; exact h)
        have HS6 : Hid (Own (w5.setCell ⟨g4, j, none⟩ (.int .i64 (U - (M - x)))) w.heap.size (some ⟨g2, 0, none⟩) c2 (setsF os (m + 1))) := Lib.hid (HS5.out.kept_ (A2 := some ⟨g4, 0, none⟩) hst (.inr (fun e => by have := Option.some.inj e; simp at this; omega)))
        have HW6 := Lib.hid (HW5.out.grown hst hws (by omega) (by omega) (by omega))
        clear hst
        go_wp2
        go_roundw
        case rel => exact ⟨j + 1, by omega, by go_num, HP6, HS6, HW6⟩
        case measure => simp [intOf]; omega
      · obtain rfl : j = m + 1 := by omega
        have HE : Hid (Own wr w.heap.size (some ⟨g4, 0, none⟩) (m + 1) (vls f (m + 1))) := Lib.hid (by
          have h1 := filled_all (vls f (m + 1))
          rw [vls_len] at h1
          have h2 := HO.out
          rw [h1] at h2
          exact h2.base hws)
        go_wp2
        go_ret
        exact ⟨g4, _, rfl, by rw [← HF.out]; exact HE.out, HW.out.below⟩
  · exact absurd HV.out hno

end Go.Proofs.Ytdbpjlconbifpab
