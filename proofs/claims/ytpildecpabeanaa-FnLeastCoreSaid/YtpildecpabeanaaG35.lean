/-
  Chapter 5, the model: the contracts of pivot, PivotPays, AddsOf.
-/
import Derived.Test.YtpildecpabeanaaG11
import Derived.Deep.RegionHeld3
import Derived.Test.YtpildecpabeanaaG34
import Derived.Test.YtpildecpabeanaaG28
namespace Go.Proofs.Ytpildecpabeanaa
open Go.RowKit

set_option maxRecDepth 100000 in
set_option maxHeartbeats 2000000 in
theorem Spivot_any (A : Option Addr) (c n : Nat) (ts : List (List Int)) (w : World) (hn : ts.length = n) (hR : RdR w A c ts) (hv : VTs ts) :
    Calls Try.prog 75 #[.slice A n c] w (ValsIs w (pvF ts) n) := by
  have hl : n ≤ 4 := by rw [← hn]; exact hv.1.2
  have h1l : 1 ≤ n := by rw [← hn]; exact hv.1.1
  obtain ⟨b, off, rfl, hcapR, _⟩ := hR.open_ (by rw [hn]; exact h1l)
  have HA := Lib.hid (SbestSplit_any (some ⟨b, off, none⟩) c n ts w hR hv hn)
  have HV := Lib.hid hv
  have HN := Lib.hid hn
  obtain ⟨os, hos⟩ : ∃ os, os = wayF ts := ⟨_, rfl⟩
  rw [← hos] at HA
  have HOS := Lib.hid hos
  clear hv hn hos
  go_enter Try.func75, Try.ntmps75
  go_wp2_with fail
  refine HA.out.mono ?_
  rintro e w1 ⟨g, d, rfl, o1, b1⟩
  have HW := Lib.hid (SsumSets_any (some ⟨b, off, none⟩) (some ⟨g, 0, none⟩) c d n ts os w1 (hR.below b1) HV.out.2 o1.rd HN.out hl)
  have hvb := worthF_bd HV.out.2 os
  rw [HN.out] at hvb
  obtain ⟨V, hV⟩ : ∃ V, V = worthF ts os := ⟨_, rfl⟩
  rw [← hV] at HW hvb
  have HVE := Lib.hid hV
  have hv0 := hvb.1
  have hv1 := hvb.2
  clear hV hvb
  go_wp2_with fail
  refine HW.out.mono ?_
  rintro e w2 ⟨rfl, m, rfl⟩
  have B1 : Below w.heap.size w (w1.drewN m) := below_drewN' b1 m
  have B2 := B1.alloc B1.size (.cells #[] 3)
  have HH2 : Hid (Own ((w1.drewN m).alloc (.cells #[] 3)) w.heap.size (some ⟨g, 0, none⟩) d (setsF os n)) := Lib.hid ((o1.drewN m).below ((Below.refl _ _).alloc (Nat.le_refl _) _))
  have HO2 : Hid (Own ((w1.drewN m).alloc (.cells #[] 3)) (w1.drewN m).heap.size (some ⟨(w1.drewN m).heap.size, 0, none⟩) 0 (vls (pvF ts) 0)) := Lib.hid (own_new_ints _)
  have hgl : g < (w1.drewN m).heap.size := o1.lt
  have hws : w.heap.size ≤ (w1.drewN m).heap.size := B1.size
  obtain ⟨S, hS⟩ : ∃ S, S = w1.heap.size := ⟨_, rfl⟩
  have e1 : (w1.drewN m).heap.size = S := hS.symm
  rw [e1] at HO2 hgl hws
  obtain ⟨f, hf⟩ : ∃ f, f = pvF ts := ⟨_, rfl⟩
  rw [← hf] at HO2
  have HF := Lib.hid hf
  rw [← hf]
  clear hf o1 b1
  go_wp2
  rw [← hS]
  clear e1 hS
  go_loopw [5, 6] (fun o i wr => ∃ (j g2 c2 : Nat), j ≤ n ∧ i = .int .i64 j ∧ o = .slice (some ⟨g2, 0, none⟩) j c2 ∧ Hid (Own wr S (some ⟨g2, 0, none⟩) c2 (vls f j)) ∧ Hid (Own wr w.heap.size (some ⟨g, 0, none⟩) d (setsF os n)) ∧ Below w.heap.size w wr) (fun _ i _ => n - (intOf i).toNat)
  case atStart => exact ⟨0, S, 0, Nat.zero_le _, rfl, rfl, HO2, HH2, B2⟩
  case round =>
    obtain ⟨j, g2, c2, hj, rfl, rfl, HO, HG, hb⟩ := hrel
    by_cases hlt : j < n
    · obtain ⟨b', off', r, A', c', hA, hr, hc0, hcap, hrd⟩ := hR.at_ (k := j) (by rw [HN.out]; exact hlt)
      cases hA
      have hvt := HV.out.2 r (List.mem_of_getElem? hr.out)
      obtain ⟨br, ofr, rfl⟩ := hrd.out.some_ hvt.1
      rw [hvt.1] at hc0
      obtain ⟨s, hs⟩ : ∃ s, s = setOf os j := ⟨_, rfl⟩
      have hs8 : s < 8 := by rw [hs]; exact setOf_lt os j
      obtain ⟨b3, o3, x, hA, hblx, hx, hcx0⟩ := hrd.out.at_ (k := s) (by rw [hvt.1]; exact hs8)
      cases hA
      have hxe := T_of hx.out
      have hxb := hvt.bd hs8
      rw [hxe] at hxb
      have hx0 := hxb.1
      have hx1 := hxb.2
      have hst : (setsF os n)[j]? = some (s : Int) := by rw [setsF_at os hlt, hs]
      have HBL := Lib.hid (World.block_lt_of_cell? w _ hc0)
      have HBX := Lib.hid hblx
      have HK := Lib.hid (fun (W : World) (hW : Below w.heap.size w W) (hg : Own W w.heap.size (some ⟨g, 0, none⟩) d (setsF os n)) =>
        (⟨(hW.cell (p := ⟨b, off + j, none⟩) HBL.out).trans hc0, hg.cell hst, (hW.cell (p := ⟨br, ofr + s, none⟩) HBX.out).trans hcx0⟩ : W.cell? ⟨b, off + j, none⟩ = some (.slice (some ⟨br, ofr, none⟩) 8 c') ∧ W.cell? ⟨g, j, none⟩ = some (.int .i64 (s : Int)) ∧ W.cell? ⟨br, ofr + s, none⟩ = some (.int .i64 x)))
      have hel : (ts.eraseIdx j).length = n - 1 := by rw [erase_len (by rw [HN.out]; exact hlt), HN.out]
      have hev : ∀ t ∈ ts.eraseIdx j, VT t := fun t ht => HV.out.2 t (mem_erase ht)
      have hsv0 := sv_nonneg (ts.eraseIdx j) 7
      have hsv1 := sv_bd hev 7 (by omega)
      have HSO := Lib.hid (fun (W : World) (hW : Below w.heap.size w W) => Sothers_any b off c j n ts W HN.out (hR.below hW) hlt (by omega))
      have HSP := Lib.hid (fun (W : World) (g5 c5 : Nat) (h5 : RdR W (some ⟨g5, 0, none⟩) c5 (ts.eraseIdx j)) => SsplitValue_any (ts.eraseIdx j) (some ⟨g5, 0, none⟩) c5 7 W h5 hev (by omega) (by omega))
      rw [hel] at hsv1 HSP
      obtain ⟨M, hM⟩ : ∃ M, M = sv (ts.eraseIdx j) 7 := ⟨_, rfl⟩
      rw [← hM] at hsv0 hsv1 HSP
      have HFE : Hid (M - (V - x) = f j) := Lib.hid (by
        rw [HF.out]; unfold pvF; rw [← HOS.out, hM, HVE.out, ← hs, getD_row hr.out, hxe])
      have hM1 : M ≤ 90 := by omega
      have hV1 : V ≤ 120 := by omega
      have e1 : IntKind.i64.wrap (V - x) = V - x := IntWalk.i64_in _ (by omega)
      have e2 : IntKind.i64.wrap (M - (V - x)) = M - (V - x) := IntWalk.i64_in _ (by omega)
      have hs0 : (0 : Int) ≤ (s : Int) := by omega
      have hs7 : (s : Int) < 8 := by omega
      have hK0 := HK.out wr.drew (below_drewN' hb 1) (HG.out.drewN 1)
      have hbd : Below w.heap.size w wr.drew := below_drewN' hb 1
      have HEL := Lib.hid hel
      clear hs hvt hxe hxb hx hst hrd hc0 hcx0 hev hM hsv1 hr hel hblx
      have HGL : Hid (∀ (W W' : World), Own W w.heap.size (some ⟨g, 0, none⟩) d (setsF os n) → W.grownBy W' (ofA (some ⟨g2, 0, none⟩)) → Own W' w.heap.size (some ⟨g, 0, none⟩) d (setsF os n)) := Lib.hid (fun W W' h hg => h.kept_ hg (.inr (fun e => by
        have h1 := Option.some.inj e; have h2 := HO.out.ge; simp at h1; omega)))
      have HBL : Hid (∀ (W W' : World), Below w.heap.size w W → Own W S (some ⟨g2, 0, none⟩) c2 (vls f j) → W.grownBy W' (ofA (some ⟨g2, 0, none⟩)) → Below w.heap.size w W') := Lib.hid (fun W W' h ho hg => Own.grownBelow0 h (ho.base hws) h.size hg)
      have hn63 : j + 1 ≤ 1099511627776 := by omega
      go_wp2_with fail
      go_region_held3 (fun W => W.cell? ⟨b, off + j, none⟩ = some (.slice (some ⟨br, ofr, none⟩) 8 c') ∧ W.cell? ⟨g, j, none⟩ = some (.int .i64 (s : Int)) ∧ W.cell? ⟨br, ofr + s, none⟩ = some (.int .i64 x))
        (first | exact hK0 | exact hK5 | exact hK7 | exact hK8 | exact hK9 | fail)
        (first
        | (go_at_call 127; refine (HSO.out _ hbd).mono ?_; rintro e w5 ⟨g5, c5, vs5, rfl, o5, v5, b5⟩; have B5 := hbd.trans (b5.mono hbd.size); have hR5 := Lib.hid (CopyIs.shape_ o5 v5 HEL.out b5); have HO5 := Lib.hid ((HO.out.drewN 1).below b5); have HG5 := Lib.hid ((HG.out.drewN 1).below b5); have hK5 := HK.out w5 B5 HG5.out)
        | (go_at_call 128; refine (Sall_any _).mono ?_; rintro e w6 ⟨rfl, rfl⟩)
        | (go_at_call 126; refine (HSP.out _ g5 c5 hR5.out).mono ?_; rintro e w7 ⟨rfl, m7, rfl⟩; have B7 := below_drewN' B5 m7; have HG7 := Lib.hid (HG5.out.drewN m7); have hK7 := HK.out _ B7 HG7.out; have hal := (Below.refl (w5.drewN m7).heap.size (w5.drewN m7)).alloc (Nat.le_refl _) (.cells #[.int .i64 (M - (V - x))] 3); have HO8 := Lib.hid ((HO5.out.drewN m7).below hal); have HG8 := Lib.hid (HG7.out.below hal); have B8 := B7.trans (hal.mono B7.size); have HX := Lib.hid (ints_one (w5.drewN m7) (M - (V - x))); have hK8 := HK.out _ B8 HG8.out; have hS8 : S ≤ ((w5.drewN m7).alloc (.cells #[.int .i64 (M - (V - x))] 3)).heap.size := Nat.le_trans HO8.out.ge (Nat.le_of_lt HO8.out.lt))
        | (refine step_append_one rfl _ _ 23 Try.underlying23 rfl S (some ⟨g2, 0, none⟩) c2 (vls f j) j (vls_len _ _) rfl HO8.out (some ⟨w5.heap.size, 0, none⟩) 1 (M - (V - x)) rfl HX.out hn63 hS8 ?_; intro g9 c9 w9 o9 g9'; have B9 := HBL.out _ _ B8 HO8.out g9'; have HG9 := Lib.hid (HGL.out _ _ HG8.out g9'); have hK9 := HK.out w9 B9 HG9.out)
        | fail)
      have HO9 : Hid (Own w9 S (some ⟨g9, 0, none⟩) c9 (vls f (j + 1))) := Lib.hid (by rw [vls_more, ← HFE.out]; exact o9)
      go_wp2
      go_roundw
      case rel => exact ⟨j + 1, g9, c9, by omega, by go_num, rfl, HO9, HG9, B9⟩
      case measure => simp [intOf]; omega
    · obtain rfl : j = n := by omega
      go_wp2
      go_ret
      exact ⟨g2, c2, rfl, by rw [← HF.out]; exact HO.out.base hws, hb⟩

end Go.Proofs.Ytpildecpabeanaa

/-
  Chapter 5, the model: the contracts of PivotPays and AddsOf.
-/
namespace Go.Proofs.Ytpildecpabeanaa
open Go.RowKit

/-- What a call hands back: numbers, in a block of its own or none. -/
def LsIs (w : World) (zs : List Int) (e : Ending) (w' : World) : Prop := ∃ A c, e = .returned (.slice A zs.length c) ∧ Own w' w.heap.size A c zs ∧ Below w.heap.size w w'
theorem ValsIs.ls {w : World} {f : Nat → Int} {n : Nat} {e : Ending} {w' : World} (h : ValsIs w f n e w') : LsIs w (vls f n) e w' := by
  obtain ⟨g, c, rfl, ho, hb⟩ := h
  exact ⟨some ⟨g, 0, none⟩, c, by rw [vls_len], ho, hb⟩
theorem ValsIs.up {w w0 : World} {f : Nat → Int} {n : Nat} {e : Ending} {w' : World} (h : ValsIs w0 f n e w') (hb : Below w.heap.size w w0) : ValsIs w f n e w' := by
  obtain ⟨g, c, rfl, ho, hb'⟩ := h
  exact ⟨g, c, rfl, ho.base hb.size, hb.trans (hb'.mono hb.size)⟩
open Classical in
/-- What PivotPays tells. -/
noncomputable def piF (ts : List (List Int)) : List Int := if VTs ts then vls (pvF ts) ts.length else []
open Classical in
/-- What AddsOf tells. -/
noncomputable def adL (ts : List (List Int)) : List Int := if VTs ts then vls (adF ts) ts.length else []
theorem piF_len (ts : List (List Int)) : (piF ts).length ≤ 1000 := by
  unfold piF; split
  · rename_i h; rw [vls_len]; have := h.1.2; omega
  · simp
theorem adL_len (ts : List (List Int)) : (adL ts).length ≤ 1000 := by
  unfold adL; split
  · rename_i h; rw [vls_len]; have := h.1.2; omega
  · simp

set_option maxHeartbeats 400000 in
theorem SPivotPays_any (A : Option Addr) (c : Nat) (ts : List (List Int)) (w : World) (h : RdR w A c ts) (hl : ts.length ≤ 1099511627776) (hl2 : ∀ r ∈ ts, r.length ≤ 1099511627776) :
    Calls Try.prog 39 #[.slice A ts.length c] w (LsIs w (piF ts)) := by
  have HC := Lib.hid (SvalidTables_any A c ts w h hl hl2)
  by_cases hv : VTs ts
  · rw [vtsB_true hv] at HC
    have HP := Lib.hid (fun (n : Nat) => Spivot_any A c ts.length ts (w.drewN n) rfl (h.drewN n) hv)
    rw [show piF ts = vls (pvF ts) ts.length from if_pos hv]
    clear hv hl2 hl h
    go_enter Try.func39, Try.ntmps39
    go_wp2_with fail
    refine HC.out.mono ?_
    rintro e w1 ⟨rfl, n, rfl⟩
    go_wp2_with fail
    refine (HP.out n).mono ?_
    rintro e w2 h2
    have h3 := h2.up (below_drewN' (Below.refl _ w) n)
    obtain ⟨g, d, rfl, o2, b2⟩ := h3
    have HO := Lib.hid o2
    clear h2 o2
    go_wp2
    go_ret
    exact ⟨some ⟨g, 0, none⟩, d, by rw [vls_len]; rfl, HO.out, b2⟩
  · rw [vtsB_false hv] at HC
    rw [show piF ts = [] from if_neg hv]
    clear hv hl2 hl h
    go_enter Try.func39, Try.ntmps39
    go_wp2_with fail
    refine HC.out.mono ?_
    rintro e w1 ⟨rfl, n, rfl⟩
    go_wp2
    go_ret
    exact ⟨none, 0, rfl, own_none _ _, below_drewN' (Below.refl _ _) _⟩

end Go.Proofs.Ytpildecpabeanaa

/-
  Chapter 5, the program: the contracts of worthWithout, PivotPays, AddsOf.
-/
namespace Go.Proofs.Ytpildecpabeanaa
open Go.RowKit

theorem own_block_at {w : World} {B g n : Nat} {vs : List Value} (h : w.ownsRow B 23 1 (.slice (some ⟨g, 0, none⟩) n n) n vs) : ∃ cur : List Value, cur.length = n ∧ w.heap[g]? = some (.cells cur.toArray 23 (0, 0)) := by
  rcases h.2 with ⟨h0, _⟩ | ⟨g', cap, cur, hv, _, hh, _, _, hs, _⟩
  · cases h0
  · injection hv with hA _ hc
    injection hA with hA
    injection hA with hA
    subst hA hc
    exact ⟨cur.toList, by simp; omega, by simpa using hh⟩

/-- What worthWithout hands back. -/
def WwIs (W0 w : World) (b off c m : Nat) (vs : List Value) (ts : List (List Int)) (e : Ending) (w' : World) : Prop :=
  ∃ p q g, e = .returned (.func (.func 143) #[] #[.pointer (some ⟨p, 0, none⟩), .pointer (some ⟨q, 0, none⟩)]) ∧ WoAt W0 b off c m p q g vs ts w' ∧ Below w.heap.size w w' ∧
    (w.heap.size ≤ p ∧ w.heap.size ≤ q ∧ w.heap.size ≤ g) ∧ p < w'.heap.size ∧ q < w'.heap.size ∧ g < w'.heap.size

set_option maxHeartbeats 400000 in
theorem worthWithout_any (W0 : World) (b off c m : Nat) (vs : List Value) (ts : List (List Int)) (w : World) (hm : m ≤ 3) (hv : RowsV W0 vs ts) (hc : ∀ (k : Nat) (v : Value), vs[k]? = some v → W0.cell? ⟨b, off + k, none⟩ = some v) (hb0 : Below W0.heap.size W0 w) :
    Calls Try.prog 90 #[.slice (some ⟨b, off, none⟩) (m + 1) c] w (WwIs W0 w b off c m vs ts) := by
  have e1 : IntKind.i64.wrap ((m : Int) + 1 - 1) = (m : Int) := by rw [show (m : Int) + 1 - 1 = (m : Int) by omega]; exact IntWalk.i64_in _ (by omega)
  have HV := Lib.hid hv
  have HC := Lib.hid hc
  have HB0 := Lib.hid hb0
  clear hv hc hb0
  go_enter Try.func90, Try.ntmps90
  go_wp2_with (at_make; refine wpList_make_rows rfl _ _ rfl (w.heap.size + 1) m rfl rfl (by omega) (by simp) ?_; intro w1 ho hb)
  go_ret
  have hs1 : (w.alloc (.cells #[.slice (some ⟨b, off, none⟩) (m + 1) c] 35)).heap.size = w.heap.size + 1 := by simp
  rw [hs1] at ho
  have hg := World.ownsRow.lt ho (w.heap.size + 1) rfl
  have hal := (Below.refl w1.heap.size w1).alloc (Nat.le_refl _) (.cells #[.slice (some ⟨w.heap.size + 1, 0, none⟩) m m] 35)
  have hB1 : Below w.heap.size w w1 := ((Below.refl w.heap.size w).alloc (Nat.le_refl _) (.cells #[.slice (some ⟨b, off, none⟩) (m + 1) c] 35)).trans (hb.mono (by omega))
  have hB2 := hB1.trans (hal.mono hB1.size)
  obtain ⟨cur, hcl, hcc⟩ := own_block_at ho
  have hw0 := HB0.out.size
  have hq1 : w1.cell? ⟨w.heap.size, 0, none⟩ = some (.slice (some ⟨b, off, none⟩) (m + 1) c) := (hb.cell (p := ⟨w.heap.size, 0, none⟩) (by show w.heap.size < w.heap.size + 1; omega)).trans (by simp)
  have hsz : (w1.alloc (.cells #[.slice (some ⟨w.heap.size + 1, 0, none⟩) m m] 35)).heap.size = w1.heap.size + 1 := by simp
  refine ⟨w1.heap.size, w.heap.size, w.heap.size + 1, rfl, ⟨HV.out, HB0.out.trans (hB2.mono hw0), by omega, by omega, by omega, by simp, ?_, HC.out, cur, hcl, ?_⟩, hB2, ⟨by omega, by omega, by omega⟩, by omega, by omega, by omega⟩
  · exact (hal.cell (p := ⟨w.heap.size, 0, none⟩) (World.block_lt_of_cell? w1 _ hq1)).trans hq1
  · exact (hal.block (w.heap.size + 1) (by omega)).trans hcc

set_option maxHeartbeats 2000000 in
theorem PivotPays_yes (A : Option Addr) (c n : Nat) (ts : List (List Int)) (w : World) (hn : ts.length = n) (hR : RdR w A c ts) (hl2 : ∀ r ∈ ts, r.length ≤ 1099511627776) (hv : VTs ts) :
    Calls Try.prog 31 #[.slice A n c] w (ValsIs w (pvF ts) n) := by
  have h1l : 1 ≤ n := by rw [← hn]; exact hv.1.1
  have h4 : n ≤ 4 := by rw [← hn]; exact hv.1.2
  have HCT := Lib.hid (areTables_any A c ts w hR hl2)
  rw [vtsB_true hv, hn] at HCT
  have HBS := Lib.hid (fun (W : World) (hW : Below w.heap.size w W) => BestSplit_yes A c n ts W hn (hR.below hW) hl2 hv)
  obtain ⟨b, off, rfl, hcapR, _⟩ := hR.open_ (by rw [hn]; exact h1l)
  obtain ⟨vs, hvs, hcell⟩ := hR.vals
  obtain ⟨m, rfl⟩ : ∃ m, n = m + 1 := ⟨n - 1, by omega⟩
  have hcm : m + 1 ≤ c := by rw [← hn]; exact hR.1
  have HWW := Lib.hid (fun (W : World) (hW : Below w.heap.size w W) => worthWithout_any w b off c m vs ts W (by omega) hvs hcell hW)
  have HWO := Lib.hid (fun (W : World) (i p q g : Nat) (h : WoAt w b off c m p q g vs ts W) (hi : i < m + 1) => Wo_any w b off c m p q g i vs ts W h hv.2 hn (by omega) hi hcm)
  have HV := Lib.hid hv
  have HN := Lib.hid hn
  clear hv hn hl2 hvs hcell
  go_enter Try.func31, Try.ntmps31
  go_wp2_with fail
  refine HCT.out.mono ?_
  rintro e w1 ⟨rfl, b1⟩
  go_wp2_with fail
  refine (HBS.out w1 b1).mono ?_
  rintro e w2 ⟨A2, c2, xs, M, rfl, o2, b2, ⟨_, hxs, hM⟩ | ⟨hno, _⟩⟩
  · have hxl : xs.length = m + 1 := by rw [hxs, setsF_len', HN.out]
    rw [hxl]
    obtain ⟨g2, rfl⟩ := own_some o2 (by omega)
    have HM0 := Lib.hid hM
    have HX0 := Lib.hid hxs
    clear hM hxs
    have B2 := b1.trans (b2.mono b1.size)
    go_wp2_with fail
    refine (HWW.out w2 B2).mono ?_
    rintro e w3 ⟨p, q, g, rfl, hwo, b3, ⟨hp0, hq0, hg0⟩, hp1, hq1, hg1⟩
    have B3 := B2.trans (b3.mono B2.size)
    have o3 := o2.below b3
    go_wp2_with (at_make; refine wpList_make_ints rfl _ _ rfl w3.heap.size (m + 1) rfl rfl (by omega) (by simp) ?_; intro w4 o4 b4)
    have B4 := B3.trans (b4.mono B3.size)
    have hM := HM0.out
    have hxs := HX0.out
    obtain ⟨f, hf⟩ : ∃ f, f = pvF ts := ⟨_, rfl⟩
    have HF := Lib.hid hf
    rw [← hf]
    obtain ⟨os, hos⟩ : ∃ os, os = wayF ts := ⟨_, rfl⟩
    rw [← hos] at hxs hM
    have HOS := Lib.hid hos
    rw [HN.out] at hxs
    have hMb := worthF_bd HV.out.2 os
    rw [← hM, HN.out] at hMb
    have hM0 := hMb.1
    have hM1 : M ≤ 120 := by omega
    have HM := Lib.hid hM
    have HO4 : Hid (Own w4 w3.heap.size (some ⟨w3.heap.size, 0, none⟩) (m + 1) (filled (vls f (m + 1)) 0)) := Lib.hid (by rw [filled_zero, vls_len]; exact o4)
    have hws : w.heap.size ≤ w3.heap.size := B3.size
    have HS4 : Hid (Own w4 w.heap.size (some ⟨g2, 0, none⟩) c2 (setsF os (m + 1))) := Lib.hid (by rw [← hxs]; exact (o3.below b4).base b1.size)
    have HW4 := Lib.hid (hwo.belowW b4)
    obtain ⟨g4, hg4⟩ : ∃ g4, g4 = w3.heap.size := ⟨_, rfl⟩
    have hg24 : g2 < g4 := by rw [hg4]; exact o3.lt
    have hg2g : g2 < g := by have h1 := o2.lt; omega
    rw [← hg4] at HO4 hws hp1 hq1 hg1 ⊢
    clear hf hos hxs hM hMb o2 o3 o4 hwo b1 b2 b3 b4 B2 B3 hg4 HWW HBS HCT
    go_loopw [24] (fun i wr => ∃ j : Nat, j ≤ m + 1 ∧ i = .int .i64 j ∧ Hid (Own wr g4 (some ⟨g4, 0, none⟩) (m + 1) (filled (vls f (m + 1)) j)) ∧ Hid (Own wr w.heap.size (some ⟨g2, 0, none⟩) c2 (setsF os (m + 1))) ∧ Hid (WoAt w b off c m p q g vs ts wr)) (fun i _ => m + 1 - (intOf i).toNat)
    case atStart => exact ⟨0, Nat.zero_le _, rfl, HO4, HS4, HW4⟩
    case round =>
      obtain ⟨j, hj, rfl, HO, HS, HW⟩ := hrel
      by_cases hlt : j < m + 1
      · obtain ⟨b', off', r, A', c', hA, hr, hc0, hcap, hrd⟩ := hR.at_ (k := j) (by rw [HN.out]; exact hlt)
        cases hA
        have hvt := HV.out.2 r (List.mem_of_getElem? hr.out)
        obtain ⟨br, ofr, rfl⟩ := hrd.out.some_ hvt.1
        rw [hvt.1] at hc0
        obtain ⟨s, hs⟩ : ∃ s, s = setOf os j := ⟨_, rfl⟩
        have hs8 : s < 8 := by rw [hs]; exact setOf_lt os j
        obtain ⟨b3, o3, x, hA, hblx, hx, hcx0⟩ := hrd.out.at_ (k := s) (by rw [hvt.1]; exact hs8)
        cases hA
        have hxe := T_of hx.out
        have hxb := hvt.bd hs8
        rw [hxe] at hxb
        have hx0 := hxb.1
        have hx1 := hxb.2
        have hcs := HS.out.cell (show (setsF os (m + 1))[j]? = some (s : Int) by rw [setsF_at os hlt, hs])
        have HBL := Lib.hid (World.block_lt_of_cell? w _ hc0)
        have HBX := Lib.hid hblx
        have HK := Lib.hid (fun (W : World) (hW : Below w.heap.size w W) =>
          (⟨(hW.cell (p := ⟨b, off + j, none⟩) HBL.out).trans hc0, (hW.cell (p := ⟨br, ofr + s, none⟩) HBX.out).trans hcx0⟩ : W.cell? ⟨b, off + j, none⟩ = some (.slice (some ⟨br, ofr, none⟩) 8 c') ∧ W.cell? ⟨br, ofr + s, none⟩ = some (.int .i64 x)))
        have hel : (ts.eraseIdx j).length = m := by rw [erase_len (by rw [HN.out]; exact hlt), HN.out]; omega
        have hev : ∀ t ∈ ts.eraseIdx j, VT t := fun t ht => HV.out.2 t (mem_erase ht)
        have hsv0 := sv_nonneg (ts.eraseIdx j) 7
        have hsv1 := sv_bd hev 7 (by omega)
        rw [hel] at hsv1
        have hwd : WoAt w b off c m p q g vs ts wr.drew := HW.out.belowW (below_drewN' (Below.refl _ _) 1)
        have HC := Lib.hid (HWO.out wr.drew j p q g hwd hlt)
        have hK0 := HK.out wr.drew hwd.below
        unfold WoIs at HC
        obtain ⟨U, hU⟩ : ∃ U, U = sv (ts.eraseIdx j) 7 := ⟨_, rfl⟩
        rw [← hU] at hsv0 hsv1 HC
        have hU1 : U ≤ 90 := by omega
        have HFE : Hid (U - (M - x) = f j) := Lib.hid (by
          rw [HF.out]; unfold pvF; rw [← HOS.out, hU, HM.out, ← hs, getD_row hr.out, hxe])
        have e1 : IntKind.i64.wrap (M - x) = M - x := IntWalk.i64_in _ (by omega)
        have e2 : IntKind.i64.wrap (U - (M - x)) = U - (M - x) := IntWalk.i64_in _ (by omega)
        have hs0 : (0 : Int) ≤ (s : Int) := by omega
        have hs7 : (s : Int) < 8 := by omega
        have hjl : j < (filled (vls f (m + 1)) j).length := by rw [filled_len _ _ (by rw [vls_len]; exact hj), vls_len]; exact hlt
        obtain ⟨y, hy⟩ := at_some hjl
        have HY := Lib.hid hy
        have HKP := Lib.hid (fun (W W' : World) (zs : List Int) (g' : Nat) (B c' : Nat) (h : Own W B (some ⟨g', 0, none⟩) c' zs) (hg : W.grownBy W' (some g)) (hne : g' ≠ g) => (h.kept_ (A2 := some ⟨g, 0, none⟩) hg (.inr (fun e => hne (by have := Option.some.inj e; exact this))) : Own W' B (some ⟨g', 0, none⟩) c' zs))
        have HDD : Hid (Own wr.drew g4 (some ⟨g4, 0, none⟩) (m + 1) (filled (vls f (m + 1)) j)) := Lib.hid (HO.out.drewN 1)
        have HDS : Hid (Own wr.drew w.heap.size (some ⟨g2, 0, none⟩) c2 (setsF os (m + 1))) := Lib.hid (HS.out.drewN 1)
        have hne1 : g4 ≠ g := by omega
        have hne2 : g2 ≠ g := by omega
        clear hs hvt hxe hxb hx hrd hc0 hcx0 hev hU hsv1 hr hel hblx hjl hy hwd
        go_wp2_with fail
        go_region_held3 (fun W => W.cell? ⟨b, off + j, none⟩ = some (.slice (some ⟨br, ofr, none⟩) 8 c') ∧ W.cell? ⟨br, ofr + s, none⟩ = some (.int .i64 x))
          (first | exact hK0 | exact hK5 | exact hK6 | fail)
          (first
          | (go_at_call 143; refine HC.out.mono ?_; rintro e w5 ⟨rfl, gr5, hw5⟩; have HW5 := Lib.hid hw5; have hK5 := HK.out w5 hw5.below; have HO5 := Lib.hid (HKP.out _ _ _ _ _ _ HDD.out gr5 hne1); have HS5 := Lib.hid (HKP.out _ _ _ _ _ _ HDS.out gr5 hne2); have hc5 := HO5.out.cell HY.out; have hf5 := HO5.out.free j; have HST := Lib.hid (HO5.out.set_ j (U - (M - x))); have hK6 := HK.out _ (hw5.below.setCell (p := ⟨g4, j, none⟩) hws (.int .i64 (U - (M - x)))))
          | fail)
        have hst : w5.grownBy (w5.setCell ⟨g4, j, none⟩ (.int .i64 (U - (M - x)))) (some g4) := (World.ownsRow.stored HO5.out j (.int .i64 (U - (M - x)))).2
        have HP6 : Hid (Own (w5.setCell ⟨g4, j, none⟩ (.int .i64 (U - (M - x)))) g4 (some ⟨g4, 0, none⟩) (m + 1) (filled (vls f (m + 1)) (j + 1))) := Lib.hid (by
          have h := HST.out
          rw [HFE.out, filled_set _ _ _ (vls_at hlt)] at h
          rw [HFE.out]; exact h)
        have HS6 : Hid (Own (w5.setCell ⟨g4, j, none⟩ (.int .i64 (U - (M - x)))) w.heap.size (some ⟨g2, 0, none⟩) c2 (setsF os (m + 1))) := Lib.hid (HS5.out.kept_ (A2 := some ⟨g4, 0, none⟩) hst (.inr (fun e => by have := Option.some.inj e; simp at this; omega)))
        have HW6 := Lib.hid (HW5.out.grown hst hws (by omega) (by omega) (by omega))
        clear hst
        go_wp2
        go_roundw
        case rel => exact ⟨j + 1, by omega, by go_num, HP6, HS6, HW6⟩
        case measure => simp [intOf]; omega
      · obtain rfl : j = m + 1 := by omega
        have HE : Hid (Own wr w.heap.size (some ⟨g4, 0, none⟩) (m + 1) (vls f (m + 1))) := Lib.hid (by
          have h1 := filled_all (vls f (m + 1))
          rw [vls_len] at h1
          have h2 := HO.out
          rw [h1] at h2
          exact h2.base hws)
        go_wp2
        go_ret
        exact ⟨g4, _, rfl, by rw [← HF.out]; exact HE.out, HW.out.below⟩
  · exact absurd HV.out hno

end Go.Proofs.Ytpildecpabeanaa
