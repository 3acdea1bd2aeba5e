/-
  Chapter 5, the model: the contracts of PivotPays and AddsOf.
-/
import Derived.Test.YtdbpjlconbifpabZc
namespace Go.Proofs.Ytdbpjlconbifpab
open Go.RowKit

/-- What a call hands back: numbers, in a block of its own or none. -/
def LsIs (w : World) (zs : List Int) (e : Ending) (w' : World) : Prop := ∃ A c, e = .returned (.slice A zs.length c) ∧ Own w' w.heap.size A c zs ∧ Below w.heap.size w w'
theorem ValsIs.ls {w : World} {f : Nat → Int} {n : Nat} {e : Ending} {w' : World} (h : ValsIs w f n e w') : LsIs w (vls f n) e w' := by
  obtain ⟨g, c, rfl, ho, hb⟩ := h
  exact ⟨some ⟨g, 0, none⟩, c, by rw [vls_len], ho, hb⟩
theorem ValsIs.up {w w0 : World} {f : Nat → Int} {n : Nat} {e : Ending} {w' : World} (h : ValsIs w0 f n e w') (hb : Below w.heap.size w w0) : ValsIs w f n e w' := by
  obtain ⟨g, c, rfl, ho, hb'⟩ := h
  exact ⟨g, c, rfl, ho.base hb.size, hb.trans (hb'.mono hb.size)⟩
open Classical in
/-- What PivotPays tells. -/
noncomputable def piF (ts : List (List Int)) : List Int := if VTs ts then vls (pvF ts) ts.length else []
open Classical in
/-- What AddsOf tells. -/
noncomputable def adL (ts : List (List Int)) : List Int := if VTs ts then vls (adF ts) ts.length else []
theorem piF_len (ts : List (List Int)) : (piF ts).length ≤ 1000 := by
  unfold piF; split
  · rename_i h; rw [vls_len]; have := h.1.2; omega
  · simp
theorem adL_len (ts : List (List Int)) : (adL ts).length ≤ 1000 := by
  unfold adL; split
  · rename_i h; rw [vls_len]; have := h.1.2; omega
  · simp

set_option maxHeartbeats 400000 in
theorem SPivotPays_any (A : Option Addr) (c : Nat) (ts : List (List Int)) (w : World) (h : RdR w A c ts) (hl : ts.length ≤ 1099511627776) (hl2 : ∀ r ∈ ts, r.length ≤ 1099511627776) :
    Calls Try.prog 9 #[.slice A ts.length c] w (LsIs w (piF ts)) := by
  have HC := Lib.hid (SvalidTables_any A c ts w h hl hl2)
  by_cases hv : VTs ts
  · rw [vtsB_true hv] at HC
    have HP := Lib.hid (fun (n : Nat) => Spivot_any A c ts.length ts (w.drewN n) rfl (h.drewN n) hv)
    rw [show piF ts = vls (pvF ts) ts.length from if_pos hv]
    clear hv hl2 hl h
    go_enter Try.func9, Try.ntmps9
    go_wp2_with fail
    refine HC.out.mono ?_
    rintro e w1 ⟨rfl, n, rfl⟩
    go_wp2_with fail
    refine (HP.out n).mono ?_
    rintro e w2 h2
    have h3 := h2.up (below_drewN' (Below.refl _ w) n)
    obtain ⟨g, d, rfl, o2, b2⟩ := h3
    have HO := Lib.hid o2
    clear h2 o2
    go_wp2
    go_ret
    exact ⟨some ⟨g, 0, none⟩, d, by rw [vls_len]; rfl, HO.out, b2⟩
  · rw [vtsB_false hv] at HC
    rw [show piF ts = [] from if_neg hv]
    clear hv hl2 hl h
    go_enter Try.func9, Try.ntmps9
    go_wp2_with fail
    refine HC.out.mono ?_
    rintro e w1 ⟨rfl, n, rfl⟩
    go_wp2
    go_ret
    exact ⟨none, 0, rfl, own_none _ _, below_drewN' (Below.refl _ _) _⟩

set_option maxHeartbeats 2000000 in
theorem SAddsOf_any (A : Option Addr) (c : Nat) (ts : List (List Int)) (w : World) (h : RdR w A c ts) (hl : ts.length ≤ 1099511627776) (hl2 : ∀ r ∈ ts, r.length ≤ 1099511627776) :
    Calls Try.prog 17 #[.slice A ts.length c] w (LsIs w (adL ts)) := by
  have HC := Lib.hid (SvalidTables_any A c ts w h hl hl2)
  by_cases hv : ¬ VTs ts
  · rw [vtsB_false hv] at HC
    rw [show adL ts = [] from if_neg hv]
    clear hv hl2 hl h
    go_enter Try.func17, Try.ntmps17
    go_wp2_with fail
    refine HC.out.mono ?_
    rintro e w1 ⟨rfl, n, rfl⟩
    go_wp2
    go_ret
    exact ⟨none, 0, rfl, own_none _ _, below_drewN' (Below.refl _ _) _⟩
  have hv := Classical.not_not.1 hv
  rw [vtsB_true hv] at HC
  rw [show adL ts = vls (adF ts) ts.length from if_pos hv]
  have h1l : 1 ≤ ts.length := hv.1.1
  have h4 : ts.length ≤ 4 := hv.1.2
  obtain ⟨b, off, rfl, hcapR, _⟩ := h.open_ h1l
  obtain ⟨n, hn⟩ : ∃ n, n = ts.length := ⟨_, rfl⟩
  have HN := Lib.hid hn
  have HV := Lib.hid hv
  obtain ⟨f, hf⟩ : ∃ f, f = adF ts := ⟨_, rfl⟩
  have HF := Lib.hid hf
  have HR := Lib.hid h
  obtain ⟨V, hV⟩ : ∃ V, V = sv ts 7 := ⟨_, rfl⟩
  have hv0 := sv_nonneg ts 7
  have hv1 := sv_bd hv.2 7 (by omega)
  have HSV := Lib.hid (fun (W : World) (hW : Below w.heap.size w W) => SsplitValue_any ts (some ⟨b, off, none⟩) c 7 W (h.below hW) hv.2 h4 (by omega))
  rw [← hV] at hv0 hv1 HSV
  rw [← hn] at HC h1l h4 hv1 HSV
  rw [← hf, ← hn]
  have HVE := Lib.hid hV
  clear hv hl2 hl h hn hf hcapR hV
  go_enter Try.func17, Try.ntmps17
  go_wp2_with fail
  refine HC.out.mono ?_
  rintro e w1 ⟨rfl, m, rfl⟩
  have B1 : Below w.heap.size w (w.drewN m) := below_drewN' (Below.refl _ _) m
  have B2 := B1.alloc B1.size (.cells #[] 3)
  have HO2 : Hid (Own ((w.drewN m).alloc (.cells #[] 3)) w.heap.size (some ⟨w.heap.size, 0, none⟩) 0 (vls f 0)) := Lib.hid (own_new_ints (w.drewN m))
  go_wp2
  go_loopw [3, 4] (fun o i wr => ∃ (j g2 c2 : Nat), j ≤ n ∧ i = .int .i64 j ∧ o = .slice (some ⟨g2, 0, none⟩) j c2 ∧ Hid (Own wr w.heap.size (some ⟨g2, 0, none⟩) c2 (vls f j)) ∧ Below w.heap.size w wr) (fun _ i _ => n - (intOf i).toNat)
  case atStart => exact ⟨0, w.heap.size, 0, Nat.zero_le _, rfl, rfl, HO2, B2⟩
  case round =>
    obtain ⟨j, g2, c2, hj, rfl, rfl, HO, hb⟩ := hrel
    by_cases hlt : j < n
    · have hel : (ts.eraseIdx j).length = n - 1 := by rw [erase_len (by rw [← HN.out]; exact hlt), HN.out]
      have hev : ∀ t ∈ ts.eraseIdx j, VT t := fun t ht => HV.out.2 t (mem_erase ht)
      have hsv0 := sv_nonneg (ts.eraseIdx j) 7
      have hsv1 := sv_bd hev 7 (by omega)
      have HSO := Lib.hid (fun (W : World) (hW : Below w.heap.size w W) => Sothers_any b off c j n ts W HN.out.symm (HR.out.below hW) hlt (by omega))
      have HSP := Lib.hid (fun (W : World) (g5 c5 : Nat) (h5 : RdR W (some ⟨g5, 0, none⟩) c5 (ts.eraseIdx j)) => SsplitValue_any (ts.eraseIdx j) (some ⟨g5, 0, none⟩) c5 7 W h5 hev (by omega) (by omega))
      rw [hel] at hsv1 HSP
      obtain ⟨M, hM⟩ : ∃ M, M = sv (ts.eraseIdx j) 7 := ⟨_, rfl⟩
      rw [← hM] at hsv0 hsv1 HSP
      have HFE : Hid (V - M = f j) := Lib.hid (by rw [HF.out]; unfold adF; rw [← HVE.out, hM])
      have hM1 : M ≤ 90 := by omega
      have hV1 : V ≤ 120 := by omega
      have e1 : IntKind.i64.wrap (V - M) = V - M := IntWalk.i64_in _ (by omega)
      have HEL := Lib.hid hel
      have hn63 : j + 1 ≤ 1099511627776 := by omega
      clear hev hM hsv1 hel
      go_wp2_with fail
      refine (Sall_any wr).mono ?_
      rintro e w3 ⟨rfl, rfl⟩
      go_wp2_with fail
      refine (HSV.out wr hb).mono ?_
      rintro e w4 ⟨rfl, n4, rfl⟩
      have B4 := below_drewN' hb n4
      have HO4 := Lib.hid (HO.out.drewN n4)
      go_wp2_with fail
      refine (HSO.out _ B4).mono ?_
      rintro e w5 ⟨g5, c5, vs5, rfl, o5, v5, b5⟩
      have B5 := B4.trans (b5.mono B4.size)
      have hR5 := Lib.hid (CopyIs.shape_ o5 v5 HEL.out b5)
      have HO5 := Lib.hid (HO4.out.below b5)
      clear o5 v5 b5
      go_wp2_with fail
      refine (Sall_any w5).mono ?_
      rintro e w6 ⟨rfl, rfl⟩
      go_wp2_with fail
      refine (HSP.out _ g5 c5 hR5.out).mono ?_
      rintro e w7 ⟨rfl, m7, rfl⟩
      have B7 := below_drewN' B5 m7
      have hal := (Below.refl (w5.drewN m7).heap.size (w5.drewN m7)).alloc (Nat.le_refl _) (.cells #[.int .i64 (V - M)] 3)
      have HO8 := Lib.hid ((HO5.out.drewN m7).below hal)
      have B8 := B7.trans (hal.mono B7.size)
      have HX := Lib.hid (ints_one (w5.drewN m7) (V - M))
      have hS8 := B8.size
      clear hal
      go_wp2_with (at_builtin; refine wpList_append_any rfl _ _ 24 Try.underlying24 rfl w.heap.size (some ⟨g2, 0, none⟩) c2 (vls f j) j (vls_len _ _) rfl HO8.out (some ⟨w5.heap.size, 0, none⟩) 1 [V - M] 1 rfl rfl HX.out hn63 hS8 ?_; intro A9 c9 w9 o9 g9')
      obtain ⟨g9, rfl⟩ := own_some o9 (by simp)
      have B9 := Own.grownBelow0 B8 HO8.out B8.size g9'
      have HO9 : Hid (Own w9 w.heap.size (some ⟨g9, 0, none⟩) c9 (vls f (j + 1))) := Lib.hid (by rw [vls_more, ← HFE.out]; exact o9)
      clear o9 g9'
      go_wp2
      go_roundw
      case rel => exact ⟨j + 1, g9, c9, by omega, by go_num, rfl, HO9, B9⟩
      case measure => simp [intOf]; omega
    · obtain rfl : j = n := by omega
      have HOE := Lib.hid HO.out
      go_wp2
      go_ret
      exact ⟨some ⟨g2, 0, none⟩, c2, by rw [vls_len]; rfl, HOE.out, hb⟩

end Go.Proofs.Ytdbpjlconbifpab
