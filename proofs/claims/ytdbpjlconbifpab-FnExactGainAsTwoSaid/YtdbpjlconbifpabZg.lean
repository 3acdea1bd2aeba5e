/-
  Chapter 5: the program's AddsOf; both sides of PivotPays and AddsOf.
-/
import Derived.Test.YtdbpjlconbifpabZf
namespace Go.Proofs.Ytdbpjlconbifpab
open Go.RowKit

theorem PivotPays_any (A : Option Addr) (c : Nat) (ts : List (List Int)) (w : World) (h : RdR w A c ts) (hl2 : ∀ r ∈ ts, r.length ≤ 1099511627776) :
    Calls Try.prog 11 #[.slice A ts.length c] w (LsIs w (piF ts)) := by
  by_cases hv : VTs ts
  · rw [show piF ts = vls (pvF ts) ts.length from if_pos hv]
    exact (PivotPays_yes A c ts.length ts w rfl h hl2 hv).mono fun _ _ h => h.ls
  · have HC := Lib.hid (areTables_any A c ts w h hl2)
    rw [vtsB_false hv] at HC
    rw [show piF ts = [] from if_neg hv]
    clear hv hl2 h
    go_enter Try.func11, Try.ntmps11
    go_wp2_with (go_at_call 29; refine HC.out.mono ?_; rintro e w1 ⟨rfl, b1⟩)
    go_ret
    exact ⟨none, 0, rfl, own_none _ _, b1⟩

set_option maxHeartbeats 2000000 in
theorem AddsOf_yes (A : Option Addr) (c n : Nat) (ts : List (List Int)) (w : World) (hn : ts.length = n) (hR : RdR w A c ts) (hl2 : ∀ r ∈ ts, r.length ≤ 1099511627776) (hv : VTs ts) :
    Calls Try.prog 18 #[.slice A n c] w (ValsIs w (adF ts) n) := by
  have h1l : 1 ≤ n := by rw [← hn]; exact hv.1.1
  have h4 : n ≤ 4 := by rw [← hn]; exact hv.1.2
  have HCT := Lib.hid (areTables_any A c ts w hR hl2)
  rw [vtsB_true hv, hn] at HCT
  have HBS := Lib.hid (fun (W : World) (hW : Below w.heap.size w W) => SplitWorth_any A c ts 7 W (hR.below hW) hl2)
  have hM : spF ts 7 = sv ts 7 := by unfold spF; rw [if_pos ⟨vtsB_true hv, by omega, by omega⟩]; rfl
  rw [hM, hn] at HBS
  obtain ⟨M, hMM⟩ : ∃ M, M = sv ts 7 := ⟨_, rfl⟩
  have hM0 := sv_nonneg ts 7
  have hM1 := sv_bd hv.2 7 (by omega)
  rw [← hMM] at HBS hM0 hM1
  obtain ⟨b, off, rfl, hcapR, _⟩ := hR.open_ (by rw [hn]; exact h1l)
  obtain ⟨vs, hvs, hcell⟩ := hR.vals
  obtain ⟨m, rfl⟩ : ∃ m, n = m + 1 := ⟨n - 1, by omega⟩
  have hcm : m + 1 ≤ c := by rw [← hn]; exact hR.1
  have HWW := Lib.hid (fun (W : World) (hW : Below w.heap.size w W) => worthWithout_any w b off c m vs ts W (by omega) hvs hcell hW)
  have HWO := Lib.hid (fun (W : World) (i p q g : Nat) (h : WoAt w b off c m p q g vs ts W) (hi : i < m + 1) => Wo_any w b off c m p q g i vs ts W h hv.2 hn (by omega) hi hcm)
  have HV := Lib.hid hv
  have HN := Lib.hid hn
  obtain ⟨f, hf⟩ : ∃ f, f = adF ts := ⟨_, rfl⟩
  have HF := Lib.hid hf
  rw [← hf]
  have HM := Lib.hid hMM
  rw [hn] at hM1
  clear hv hn hl2 hvs hcell hf hM hMM
  go_enter Try.func18, Try.ntmps18
  go_wp2_with fail
  refine HCT.out.mono ?_
  rintro e w1 ⟨rfl, b1⟩
  go_wp2_with fail
  refine (HBS.out w1 b1).mono ?_
  rintro e w2 ⟨rfl, b2⟩
  have B2 := b1.trans (b2.mono b1.size)
  go_wp2_with fail
  refine (HWW.out w2 B2).mono ?_
  rintro e w3 ⟨p, q, g, rfl, hwo, b3, ⟨hp0, hq0, hg0⟩, hp1, hq1, hg1⟩
  have B3 := B2.trans (b3.mono B2.size)
  go_wp2_with (at_make; refine wpList_make_ints rfl _ _ rfl w3.heap.size (m + 1) rfl rfl (by omega) (by simp) ?_; intro w4 o4 b4)
  have HO4 : Hid (Own w4 w3.heap.size (some ⟨w3.heap.size, 0, none⟩) (m + 1) (filled (vls f (m + 1)) 0)) := Lib.hid (by rw [filled_zero, vls_len]; exact o4)
  have hws : w.heap.size ≤ w3.heap.size := B3.size
  have HW4 := Lib.hid (hwo.belowW b4)
  obtain ⟨g4, hg4⟩ : ∃ g4, g4 = w3.heap.size := ⟨_, rfl⟩
  rw [← hg4] at HO4 hws hp1 hq1 hg1 ⊢
  clear o4 hwo b1 b2 b3 b4 B2 B3 hg4 HWW HBS HCT
  go_loopw [19] (fun i wr => ∃ j : Nat, j ≤ m + 1 ∧ i = .int .i64 j ∧ Hid (Own wr g4 (some ⟨g4, 0, none⟩) (m + 1) (filled (vls f (m + 1)) j)) ∧ Hid (WoAt w b off c m p q g vs ts wr)) (fun i _ => m + 1 - (intOf i).toNat)
  case atStart => exact ⟨0, Nat.zero_le _, rfl, HO4, HW4⟩
  case round =>
    obtain ⟨j, hj, rfl, HO, HW⟩ := hrel
    by_cases hlt : j < m + 1
    · have hel : (ts.eraseIdx j).length = m := by rw [erase_len (by rw [HN.out]; exact hlt), HN.out]; omega
      have hev : ∀ t ∈ ts.eraseIdx j, VT t := fun t ht => HV.out.2 t (mem_erase ht)
      have hsv0 := sv_nonneg (ts.eraseIdx j) 7
      have hsv1 := sv_bd hev 7 (by omega)
      rw [hel] at hsv1
      have HC := Lib.hid (HWO.out wr j p q g HW.out hlt)
      unfold WoIs at HC
      obtain ⟨U, hU⟩ : ∃ U, U = sv (ts.eraseIdx j) 7 := ⟨_, rfl⟩
      rw [← hU] at hsv0 hsv1 HC
      have hU1 : U ≤ 90 := by omega
      have HFE : Hid (M - U = f j) := Lib.hid (by rw [HF.out]; unfold adF; rw [hU, HM.out])
      have e1 : IntKind.i64.wrap (M - U) = M - U := IntWalk.i64_in _ (by omega)
      have hjl : j < (filled (vls f (m + 1)) j).length := by rw [filled_len _ _ (by rw [vls_len]; exact hj), vls_len]; exact hlt
      obtain ⟨y, hy⟩ := at_some hjl
      have HY := Lib.hid hy
      have hne1 : g4 ≠ g := by omega
      clear hev hU hsv1 hel hjl hy
      go_wp2_with fail
      refine HC.out.mono ?_
      rintro e w5 ⟨rfl, gr5, hw5⟩
      have HO5 : Own w5 g4 (some ⟨g4, 0, none⟩) (m + 1) (filled (vls f (m + 1)) j) := HO.out.kept_ (A2 := some ⟨g, 0, none⟩) gr5 (.inr (fun e => hne1 (by have := Option.some.inj e; exact this)))
      have hc5 := HO5.cell HY.out
      have hf5 := HO5.free j
      have hst : w5.grownBy (w5.setCell ⟨g4, j, none⟩ (.int .i64 (M - U))) (some g4) := (World.ownsRow.stored HO5 j (.int .i64 (M - U))).2
      have HP6 : Hid (Own (w5.setCell ⟨g4, j, none⟩ (.int .i64 (M - U))) g4 (some ⟨g4, 0, none⟩) (m + 1) (filled (vls f (m + 1)) (j + 1))) := Lib.hid (by
        have h := HO5.set_ j (M - U)
        rw [HFE.out, filled_set _ _ _ (vls_at hlt)] at h
        rw [HFE.out]; exact h)
      have HW6 := Lib.hid (hw5.grown hst hws (by omega) (by omega) (by omega))
      clear hst HO5 hw5 gr5
      go_wp2
      go_roundw
      case rel => exact ⟨j + 1, by omega, by go_num, HP6, HW6⟩
      case measure => simp [intOf]; omega
    · obtain rfl : j = m + 1 := by omega
      have HE : Hid (Own wr w.heap.size (some ⟨g4, 0, none⟩) (m + 1) (vls f (m + 1))) := Lib.hid (by
        have h1 := filled_all (vls f (m + 1))
        rw [vls_len] at h1
        have h2 := HO.out
        rw [h1] at h2
        exact h2.base hws)
      go_wp2
      go_ret
      exact ⟨g4, _, rfl, HE.out, HW.out.below⟩

theorem AddsOf_any (A : Option Addr) (c : Nat) (ts : List (List Int)) (w : World) (h : RdR w A c ts) (hl2 : ∀ r ∈ ts, r.length ≤ 1099511627776) :
    Calls Try.prog 18 #[.slice A ts.length c] w (LsIs w (adL ts)) := by
  by_cases hv : VTs ts
  · rw [show adL ts = vls (adF ts) ts.length from if_pos hv]
    exact (AddsOf_yes A c ts.length ts w rfl h hl2 hv).mono fun _ _ h => h.ls
  · have HC := Lib.hid (areTables_any A c ts w h hl2)
    rw [vtsB_false hv] at HC
    rw [show adL ts = [] from if_neg hv]
    clear hv hl2 h
    go_enter Try.func18, Try.ntmps18
    go_wp2_with (go_at_call 29; refine HC.out.mono ?_; rintro e w1 ⟨rfl, b1⟩)
    go_ret
    exact ⟨none, 0, rfl, own_none _ _, b1⟩

theorem PivotPays_both (rows : List (List Int)) : ∃ zs : List Int, zs.length ≤ 1000 ∧ (rows.length ≤ 1099511627776 → (∀ r ∈ rows, r.length ≤ 1099511627776) →
    (∀ A c w, RdR w A c rows → Calls Try.prog 9 #[.slice A rows.length c] w (LsIs w zs)) ∧
    (∀ A c w, RdR w A c rows → Calls Try.prog 11 #[.slice A rows.length c] w (LsIs w zs))) :=
  ⟨piF rows, piF_len rows, fun hl hl2 => ⟨fun A c w h => SPivotPays_any A c rows w h hl hl2, fun A c w h => PivotPays_any A c rows w h hl2⟩⟩
theorem AddsOf_both (rows : List (List Int)) : ∃ zs : List Int, zs.length ≤ 1000 ∧ (rows.length ≤ 1099511627776 → (∀ r ∈ rows, r.length ≤ 1099511627776) →
    (∀ A c w, RdR w A c rows → Calls Try.prog 17 #[.slice A rows.length c] w (LsIs w zs)) ∧
    (∀ A c w, RdR w A c rows → Calls Try.prog 18 #[.slice A rows.length c] w (LsIs w zs))) :=
  ⟨adL rows, adL_len rows, fun hl hl2 => ⟨fun A c w h => SAddsOf_any A c rows w h hl hl2, fun A c w h => AddsOf_any A c rows w h hl2⟩⟩

end Go.Proofs.Ytdbpjlconbifpab
