/-
  Chapter 5, the model: the contracts of pivot, PivotPays, AddsOf.
-/
import Derived.Test.YtdbpjlconbifpabZb
import Derived.Deep.RegionHeld3
namespace Go.Proofs.Ytdbpjlconbifpab
open Go.RowKit

set_option maxHeartbeats 2000000 in
theorem Spivot_any (A : Option Addr) (c n : Nat) (ts : List (List Int)) (w : World) (hn : ts.length = n) (hR : RdR w A c ts) (hv : VTs ts) :
    Calls Try.prog 28 #[.slice A n c] w (ValsIs w (pvF ts) n) := by
  have hl : n ≤ 4 := by rw [← hn]; exact hv.1.2
  have h1l : 1 ≤ n := by rw [← hn]; exact hv.1.1
  obtain ⟨b, off, rfl, hcapR, _⟩ := hR.open_ (by rw [hn]; exact h1l)
  have HA := Lib.hid (SbestSplit_any (some ⟨b, off, none⟩) c n ts w hR hv hn)
  have HV := Lib.hid hv
  have HN := Lib.hid hn
  obtain ⟨os, hos⟩ : ∃ os, os = wayF ts := ⟨_, rfl⟩
  rw [← hos] at HA
  have HOS := Lib.hid hos
  clear hv hn hos
  go_enter Try.func28, Try.ntmps28
  go_wp2_with fail
  refine HA.out.mono ?_
  rintro e w1 ⟨g, d, rfl, o1, b1⟩
  have HW := Lib.hid (SsumSets_any (some ⟨b, off, none⟩) (some ⟨g, 0, none⟩) c d n ts os w1 (hR.below b1) HV.out.2 o1.rd HN.out hl)
  have hvb := worthF_bd HV.out.2 os
  rw [HN.out] at hvb
  obtain ⟨V, hV⟩ : ∃ V, V = worthF ts os := ⟨_, rfl⟩
  rw [← hV] at HW hvb
  have HVE := Lib.hid hV
  have hv0 := hvb.1
  have hv1 := hvb.2
  clear hV hvb
  go_wp2_with fail
  refine HW.out.mono ?_
  rintro e w2 ⟨rfl, m, rfl⟩
  have B1 : Below w.heap.size w (w1.drewN m) := below_drewN' b1 m
  have B2 := B1.alloc B1.size (.cells #[] 3)
  have HH2 : Hid (Own ((w1.drewN m).alloc (.cells #[] 3)) w.heap.size (some ⟨g, 0, none⟩) d (setsF os n)) := Lib.hid ((o1.drewN m).below ((Below.refl _ _).alloc (Nat.le_refl _) _))
  have HO2 : Hid (Own ((w1.drewN m).alloc (.cells #[] 3)) (w1.drewN m).heap.size (some ⟨(w1.drewN m).heap.size, 0, none⟩) 0 (vls (pvF ts) 0)) := Lib.hid (own_new_ints _)
  have hgl : g < (w1.drewN m).heap.size := o1.lt
  have hws : w.heap.size ≤ (w1.drewN m).heap.size := B1.size
  obtain ⟨S, hS⟩ : ∃ S, S = w1.heap.size := ⟨_, rfl⟩
  have e1 : (w1.drewN m).heap.size = S := hS.symm
  rw [e1] at HO2 hgl hws
  obtain ⟨f, hf⟩ : ∃ f, f = pvF ts := ⟨_, rfl⟩
  rw [← hf] at HO2
  have HF := Lib.hid hf
  rw [← hf]
  clear hf o1 b1
  go_wp2
  rw [← hS]
  clear e1 hS
  go_loopw [5, 6] (fun o i wr => ∃ (j g2 c2 : Nat), j ≤ n ∧ i = .int .i64 j ∧ o = .slice (some ⟨g2, 0, none⟩) j c2 ∧ Hid (Own wr S (some ⟨g2, 0, none⟩) c2 (vls f j)) ∧ Hid (Own wr w.heap.size (some ⟨g, 0, none⟩) d (setsF os n)) ∧ Below w.heap.size w wr) (fun _ i _ => n - (intOf i).toNat)
  case atStart => exact ⟨0, S, 0, Nat.zero_le _, rfl, rfl, HO2, HH2, B2⟩
  case round =>
    obtain ⟨j, g2, c2, hj, rfl, rfl, HO, HG, hb⟩ := hrel
    by_cases hlt : j < n
    · obtain ⟨b', off', r, A', c', hA, hr, hc0, hcap, hrd⟩ := hR.at_ (k := j) (by rw [HN.out]; exact hlt)
      cases hA
      have hvt := HV.out.2 r (List.mem_of_getElem? hr.out)
      obtain ⟨br, ofr, rfl⟩ := hrd.out.some_ hvt.1
      rw [hvt.1] at hc0
      obtain ⟨s, hs⟩ : ∃ s, s = setOf os j := ⟨_, rfl⟩
      have hs8 : s < 8 := by rw [hs]; exact setOf_lt os j
      obtain ⟨b3, o3, x, hA, hblx, hx, hcx0⟩ := hrd.out.at_ (k := s) (by rw [hvt.1]; exact hs8)
      cases hA
      have hxe := T_of hx.out
      have hxb := hvt.bd hs8
      rw [hxe] at hxb
      have hx0 := hxb.1
      have hx1 := hxb.2
      have hst : (setsF os n)[j]? = some (s : Int) := by rw [setsF_at os hlt, hs]
      have HBL := Lib.hid (World.block_lt_of_cell? w _ hc0)
      have HBX := Lib.hid hblx
      have HK := Lib.hid (fun (W : World) (hW : Below w.heap.size w W) (hg : Own W w.heap.size (some ⟨g, 0, none⟩) d (setsF os n)) =>
        (⟨(hW.cell (p := ⟨b, off + j, none⟩) HBL.out).trans hc0, hg.cell hst, (hW.cell (p := ⟨br, ofr + s, none⟩) HBX.out).trans hcx0⟩ : W.cell? ⟨b, off + j, none⟩ = some (.slice (some ⟨br, ofr, none⟩) 8 c') ∧ W.cell? ⟨g, j, none⟩ = some (.int .i64 (s : Int)) ∧ W.cell? ⟨br, ofr + s, none⟩ = some (.int .i64 x)))
      have hel : (ts.eraseIdx j).length = n - 1 := by rw [erase_len (by rw [HN.out]; exact hlt), HN.out]
      have hev : ∀ t ∈ ts.eraseIdx j, VT t := fun t ht => HV.out.2 t (mem_erase ht)
      have hsv0 := sv_nonneg (ts.eraseIdx j) 7
      have hsv1 := sv_bd hev 7 (by omega)
      have HSO := Lib.hid (fun (W : World) (hW : Below w.heap.size w W) => Sothers_any b off c j n ts W HN.out (hR.below hW) hlt (by omega))
      have HSP := Lib.hid (fun (W : World) (g5 c5 : Nat) (h5 : RdR W (some ⟨g5, 0, none⟩) c5 (ts.eraseIdx j)) => SsplitValue_any (ts.eraseIdx j) (some ⟨g5, 0, none⟩) c5 7 W h5 hev (by omega) (by omega))
      rw [hel] at hsv1 HSP
      obtain ⟨M, hM⟩ : ∃ M, M = sv (ts.eraseIdx j) 7 := ⟨_, rfl⟩
      rw [← hM] at hsv0 hsv1 HSP
      have HFE : Hid (M - (V - x) = f j) := Lib.hid (by
        rw [HF.out]; unfold pvF; rw [← HOS.out, hM, HVE.out, ← hs, getD_row hr.out, hxe])
      have hM1 : M ≤ 90 := by omega
      have hV1 : V ≤ 120 := by omega
      have e1 : IntKind.i64.wrap (V - x) = V - x := IntWalk.i64_in _ (by omega)
      have e2 : IntKind.i64.wrap (M - (V - x)) = M - (V - x) := IntWalk.i64_in _ (by omega)
      have hs0 : (0 : Int) ≤ (s : Int) := by omega
      have hs7 : (s : Int) < 8 := by omega
      have hK0 := HK.out wr.drew (below_drewN' hb 1) (HG.out.drewN 1)
      have hbd : Below w.heap.size w wr.drew := below_drewN' hb 1
      have HEL := Lib.hid hel
      clear hs hvt hxe hxb hx hst hrd hc0 hcx0 hev hM hsv1 hr hel hblx
      have HGL : Hid (∀ (W W' : World), Own W w.heap.size (some ⟨g, 0, none⟩) d (setsF os n) → W.grownBy W' (ofA (some ⟨g2, 0, none⟩)) → Own W' w.heap.size (some ⟨g, 0, none⟩) d (setsF os n)) := Lib.hid (fun W W' h hg => h.kept_ hg (.inr (fun e => by
        have h1 := Option.some.inj e; have h2 := HO.out.ge; simp at h1; omega)))
      have HBL : Hid (∀ (W W' : World), Below w.heap.size w W → Own W S (some ⟨g2, 0, none⟩) c2 (vls f j) → W.grownBy W' (ofA (some ⟨g2, 0, none⟩)) → Below w.heap.size w W') := Lib.hid (fun W W' h ho hg => Own.grownBelow0 h (ho.base hws) h.size hg)
      have hn63 : j + 1 ≤ 1099511627776 := by omega
      go_wp2_with fail
      go_region_held3 (fun W => W.cell? ⟨b, off + j, none⟩ = some (.slice (some ⟨br, ofr, none⟩) 8 c') ∧ W.cell? ⟨g, j, none⟩ = some (.int .i64 (s : Int)) ∧ W.cell? ⟨br, ofr + s, none⟩ = some (.int .i64 x))
        (first | exact hK0 | exact hK5 | exact hK7 | exact hK8 | exact hK9 | fail)
        (first
        | (go_at_call 34; refine (HSO.out _ hbd).mono ?_; rintro e w5 ⟨g5, c5, vs5, rfl, o5, v5, b5⟩; have B5 := hbd.trans (b5.mono hbd.size); have hR5 := Lib.hid (CopyIs.shape_ o5 v5 HEL.out b5); have HO5 := Lib.hid ((HO.out.drewN 1).below b5); have HG5 := Lib.hid ((HG.out.drewN 1).below b5); have hK5 := HK.out w5 B5 HG5.out)
        | (go_at_call 33; refine (Sall_any _).mono ?_; rintro e w6 ⟨rfl, rfl⟩)
        | (go_at_call 32; refine (HSP.out _ g5 c5 hR5.out).mono ?_; rintro e w7 ⟨rfl, m7, rfl⟩; have B7 := below_drewN' B5 m7; have HG7 := Lib.hid (HG5.out.drewN m7); have hK7 := HK.out _ B7 HG7.out; have hal := (Below.refl (w5.drewN m7).heap.size (w5.drewN m7)).alloc (Nat.le_refl _) (.cells #[.int .i64 (M - (V - x))] 3); have HO8 := Lib.hid ((HO5.out.drewN m7).below hal); have HG8 := Lib.hid (HG7.out.below hal); have B8 := B7.trans (hal.mono B7.size); have HX := Lib.hid (ints_one (w5.drewN m7) (M - (V - x))); have hK8 := HK.out _ B8 HG8.out; have hS8 : S ≤ ((w5.drewN m7).alloc (.cells #[.int .i64 (M - (V - x))] 3)).heap.size := Nat.le_trans HO8.out.ge (Nat.le_of_lt HO8.out.lt))
        | (refine step_append_one rfl _ _ 24 Try.underlying24 rfl S (some ⟨g2, 0, none⟩) c2 (vls f j) j (vls_len _ _) rfl HO8.out (some ⟨w5.heap.size, 0, none⟩) 1 (M - (V - x)) rfl HX.out hn63 hS8 ?_; intro g9 c9 w9 o9 g9'; have B9 := HBL.out _ _ B8 HO8.out g9'; have HG9 := Lib.hid (HGL.out _ _ HG8.out g9'); have hK9 := HK.out w9 B9 HG9.out)
        | fail)
      have HO9 : Hid (Own w9 S (some ⟨g9, 0, none⟩) c9 (vls f (j + 1))) := Lib.hid (by rw [vls_more, ← HFE.out]; exact o9)
      go_wp2
      go_roundw
      case rel => exact ⟨j + 1, g9, c9, by omega, by go_num, rfl, HO9, HG9, B9⟩
      case measure => simp [intOf]; omega
    · obtain rfl : j = n := by omega
      go_wp2
      go_ret
      exact ⟨g2, c2, rfl, by rw [← HF.out]; exact HO.out.base hws, hb⟩

end Go.Proofs.Ytdbpjlconbifpab
