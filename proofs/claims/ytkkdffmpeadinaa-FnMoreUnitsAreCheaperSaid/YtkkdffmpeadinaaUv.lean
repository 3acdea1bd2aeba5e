/-
  Chapter 3, the model: the contract of GainUnits.
-/
import Derived.Test.YtkkdffmpeadinaaUu
namespace Go.Proofs.Ytkkdffmpeadinaa
open Go.RowKit

theorem vd_one (told : List Int) : vdB [told] = rowB told := by
  cases h : rowB told with
  | true => exact vdB_true ⟨by simp, fun r hr => by rw [List.mem_singleton.1 hr]; exact rowB_iff.1 h⟩
  | false => exact vdB_false (fun hv => by have := rowB_true (hv.2 told (by simp)); rw [h] at this; cases this)
theorem rdr_one {w w0 : World} {T : Option Addr} {d : Nat} {told : List Int} (hT : Rd w0 T d told) (hTd : told.length ≤ d) (hb : Below w0.heap.size w0 w) :
    RdR (w.alloc (.cells #[.slice T told.length d] 29)) (some ⟨w.heap.size, 0, none⟩) 1 [told] := by
  refine ⟨by simp, .inr ⟨w.heap.size, 0, rfl, fun k r hk => ?_⟩⟩
  have hk0 : k = 0 := by have := (List.getElem?_eq_some_iff.1 hk).1; simpa using this
  subst hk0
  simp at hk
  subst hk
  exact ⟨_, by simp, T, d, rfl, hTd, hT.below (hb.alloc hb.size _)⟩

theorem award_n (A : Option Addr) (c n : Nat) (rows : List (List Int)) (k : Nat) (w : World) (hn : rows.length = n) (hR : RdR w A c rows) (hv : VD rows) (hk : k ≤ 5) :
    Calls Try.prog 54 #[.slice A n c, .int .i64 k] w (HasIs w (aw (RW rows) n k) n) := by
  subst hn; exact award_yes A c rows k w hR hv hk
theorem pivotPays_n (A : Option Addr) (c k n : Nat) (rows : List (List Int)) (w : World) (hn : rows.length = n) (hR : RdR w A c rows) (hv : VD rows) (hk : k ≤ 5) :
    Calls Try.prog 72 #[.slice A n c, .int .i64 k] w (ValsIs w (pivF rows k) n) := by
  subst hn; exact (pivotPays_any A c k rows w hR hv hk).mono fun _ _ h => h.congr (fun i hi => spv_piv hv hi k)

set_option maxHeartbeats 2000000 in
theorem SGainUnits_yes (A T : Option Addr) (c d k i : Nat) (rows : List (List Int)) (told : List Int) (w : World) (hR : RdR w A c rows) (hT : Rd w T d told) (hTd : told.length ≤ d) (hv : VD rows) (hk : k ≤ 5) (hi : i < rows.length) (ht : RowOk told) :
    Calls Try.prog 35 #[.slice A rows.length c, .int .i64 k, .int .i64 i, .slice T told.length d] w (PairIs w (guF rows k i told) true) := by
  have hl : rows.length ≤ 4 := hv.1.2
  have h1l : 1 ≤ rows.length := hv.1.1
  obtain ⟨b, off, rfl, hcapR, _⟩ := hR.open_ h1l
  have HC := Lib.hid (validUnits_any (some ⟨b, off, none⟩) c rows k w hR (by have := hv.1; omega) hv.lens)
  rw [fuB_yes hv hk] at HC
  have hIR := fun w1 => inRange_any (i : Int) 0 ((rows.length : Int) - 1) w1
  rw [inR_true.2 (by omega)] at hIR
  have HIR := Lib.hid hIR
  have hdv := fun (w1 : World) (hb : Below w.heap.size w w1) => validDemands_any (some ⟨w1.heap.size, 0, none⟩) 1 [told] _ (rdr_one hT hTd hb) (by simp) (fun r hr => by rw [List.mem_singleton.1 hr]; have := ht.1; omega)
  rw [vd_one, rowB_true ht] at hdv
  have HDV := Lib.hid hdv
  have hsv : VD (rows.set i told) := hv.setVD i ht
  have HSV := Lib.hid hsv
  have HV := Lib.hid hv
  have HRR := Lib.hid hR
  have HTT : Hid (Row1 w (.slice T told.length d) told) := Lib.hid ⟨T, d, rfl, hTd, hT⟩
  obtain ⟨G, hG⟩ : ∃ G, G = guF rows k i told := ⟨_, rfl⟩
  rw [← hG]
  have HGE := Lib.hid hG
  have hwl : IntKind.i64.wrap ((rows.length : Int) - 1) = (rows.length : Int) - 1 := IntWalk.i64_in _ (by omega)
  clear hR hT hv ht hsv hG hIR hdv
  go_enter Try.func35, Try.ntmps35
  go_wp2_with fail
  refine HC.out.mono ?_
  rintro e w1 ⟨rfl, m, rfl⟩
  go_wp2_with fail
  refine (HIR.out _).mono ?_
  rintro e w2 ⟨rfl, rfl⟩
  go_wp2_with fail
  refine (HDV.out (w.drewN m) (below_drewN' (Below.refl _ w) m)).mono ?_
  rintro e w3 ⟨rfl, m2, rfl⟩
  have B3 : Below w.heap.size w (((w.drewN m).alloc (.cells #[.slice T told.length d] 29)).drewN m2) := below_drewN' ((below_drewN' (Below.refl _ w) m).alloc (Nat.le_refl _) _) m2
  obtain ⟨w3, hw3⟩ : ∃ w3, w3 = (((w.drewN m).alloc (.cells #[.slice T told.length d] 29)).drewN m2) := ⟨_, rfl⟩
  rw [← hw3] at B3 ⊢
  clear hw3
  have hb0 := (Below.refl w3.heap.size w3).alloc (Nat.le_refl _) (.cells #[] 29)
  have HB0 := Lib.hid (B3.alloc B3.size (.cells #[] 29))
  have ho := row_empty w3
  go_wp2_with (at_builtin; refine wpList_copy_rows rfl _ _ rfl w3.heap.size w3.heap.size rfl ho w b off c rows.length rows rfl rfl HRR.out HB0.out (by omega) h1l hb0.size ?_; intro g2 c2 vs w4 o4 v4 g4'; have B4 : Below w.heap.size w w4 := HB0.out.grown g4' HB0.out.size (fun k e => by cases e; exact B3.size); have hcell := World.ownsRow.cellAt o4 i (by omega); have hfr := World.ownsRow.frozenAt o4 i; have hst := Lib.hid (World.ownsRow.stored o4 i (.slice T told.length d)).1; obtain ⟨vi, hvi⟩ : ∃ vi, vs[i]? = some vi := ⟨_, List.getElem?_eq_getElem (by rw [v4.1]; exact hi)⟩; rw [hvi] at hcell; have HV4 := Lib.hid (RowsV.set_ (w := w) v4 i HTT.out); have hge : w.heap.size ≤ g2 := Nat.le_trans B3.size (World.ownsRow.lt o4 g2 rfl).1; have HB5 := Lib.hid (B4.setCell (p := ⟨g2, i, none⟩) hge (.slice T told.length d)); clear o4 v4 g4' B4 hvi)
  have HR5 : Hid (RdR (w4.setCell ⟨g2, i, none⟩ (.slice T told.length d)) (some ⟨g2, 0, none⟩) c2 (rows.set i told)) := Lib.hid (by
    have hst' : (w4.setCell ⟨g2, i, none⟩ (.slice T told.length d)).ownsRow w3.heap.size 29 1 (.slice (some ⟨g2, 0, none⟩) (rows.set i told).length c2) (rows.set i told).length (vs.set i (.slice T told.length d)) := by
      rw [List.length_set]; exact hst.out
    exact rdr_of_own hst' HV4.out HB5.out)
  have HA := Lib.hid (award_n (some ⟨g2, 0, none⟩) c2 rows.length (rows.set i told) k _ (by simp) HR5.out HSV.out hk)
  clear hb0 ho HB0
  refine HA.out.mono ?_
  rintro e w6 ⟨g6, c6, rfl, o6, b6⟩
  clear hcell hfr
  have B6 : Below w.heap.size w w6 := HB5.out.trans (b6.mono HB5.out.size)
  have HR6 := Lib.hid (HR5.out.below b6)
  obtain ⟨b', off', r, A', c', hA, hr, hc0, hcap, hrd⟩ := HRR.out.at_ hi
  cases hA
  have hcr := (B6.cell (p := ⟨b, off + i, none⟩) (World.block_lt_of_cell? w _ hc0)).trans hc0
  have hch0 := o6.cell (lst_at hi)
  have hrw := rw_of hr.out
  have hro : RowOk r := by rw [← hrw]; exact HV.out.good i hi
  have hr5 : r.length ≤ 5 := hro.1
  obtain ⟨t, ht⟩ : ∃ t, t = aw (RW (rows.set i told)) rows.length k i := ⟨_, rfl⟩
  have ht5 : t ≤ 5 := by rw [ht]; have := aw_le (R := RW (rows.set i told)) (n := rows.length) k i; omega
  rw [← ht] at hch0
  obtain ⟨y, hy⟩ : ∃ y, y = pivF (rows.set i told) k i := ⟨_, rfl⟩
  have hyb := pre_piv_bd HSV.out (i := i) (by simpa using hi) k
  rw [← hy] at hyb
  have HE : Hid (G = pre r t - y) := Lib.hid (by rw [HGE.out, ht, hy]; unfold guF; rw [hrw])
  have HYE := Lib.hid hy
  have HRO := Lib.hid hro
  have hy0 := hyb.1
  have hy1 := hyb.2
  clear hrw hro ht hc0 o6 b6 hy hyb
  go_wp2
  go_loopw [12, 13] (fun o i wr => ∃ (q n : Nat) (z : Int), q ≤ t ∧ q ≤ r.length ∧ i = .int .i64 q ∧ wr = w6.drewN n ∧ o = .int .i64 z ∧ Hid (z = pre r q)) (fun _ i _ => t - (intOf i).toNat)
  case atStart => exact ⟨0, 0, 0, Nat.zero_le _, Nat.zero_le _, rfl, rfl, rfl, Lib.hid (by rw [pre_zero])⟩
  case round =>
    obtain ⟨q, n, z, hq, hqr, rfl, rfl, rfl, HZ⟩ := hrel
    have hpb := pre_le150 HRO.out q
    rw [← HZ.out] at hpb
    have hz0 := hpb.1
    have hz1 := hpb.2
    clear hpb
    by_cases hqt : q < t
    · by_cases hql : q < r.length
      · obtain ⟨b3, o3, x, rfl, hbl3, hx, hcx0⟩ := hrd.out.at_ hql
        have hcx := (B6.cell (p := ⟨b3, o3 + q, none⟩) hbl3).trans hcx0
        have hxb := HRO.out.2 q x hx.out
        have HY2 : Hid (z + x = pre r (q + 1)) := Lib.hid (by rw [pre_step hx.out, HZ.out])
        have hx0 := hxb.1
        have hx1 := hxb.2.1
        have hqt' : (q : Int) < (t : Int) := by omega
        have hql' : (q : Int) < (r.length : Int) := by omega
        clear hxb hcx0
        go_wp2
        go_roundw
        case rel => exact ⟨q + 1, _, _, by omega, by omega, by go_num, rfl, rfl, HY2⟩
        case measure => simp [intOf]; omega
      · have HFIN : Hid (z = pre r t) := Lib.hid (by rw [HZ.out, pre_end (r := r) (k := t) (by omega), show q = r.length by omega])
        have hqt' : (q : Int) < (t : Int) := by omega
        have hql' : ¬ (q : Int) < (r.length : Int) := by omega
        have HP := Lib.hid (pivotPays_n (some ⟨g2, 0, none⟩) c2 k rows.length (rows.set i told) _ (by simp) (HR6.out.drewN n) HSV.out hk)
        go_wp2_with fail
        refine HP.out.mono ?_
        rintro e w7 ⟨g7, c7, rfl, o7, b7⟩
        have hcy := o7.cell (vls_at hi)
        rw [← HYE.out] at hcy
        have B7 : Below w.heap.size w w7 := (below_drewN' B6 n).trans (b7.mono B6.size)
        clear o7 b7 hcr hch0
        go_wp2
        go_ret2
        exact ⟨by rw [HE.out, ← HFIN.out]; rfl, B7⟩
    · have hqt2 : q = t := by omega
      have HFIN : Hid (z = pre r t) := Lib.hid (by rw [HZ.out, hqt2])
      have hqt' : ¬ (q : Int) < (t : Int) := by omega
      have HP := Lib.hid (pivotPays_n (some ⟨g2, 0, none⟩) c2 k rows.length (rows.set i told) _ (by simp) (HR6.out.drewN n) HSV.out hk)
      clear hqt2
      go_wp2_with fail
      refine HP.out.mono ?_
      rintro e w7 ⟨g7, c7, rfl, o7, b7⟩
      have hcy := o7.cell (vls_at hi)
      rw [← HYE.out] at hcy
      have B7 : Below w.heap.size w w7 := (below_drewN' B6 n).trans (b7.mono B6.size)
      clear o7 b7 hcr hch0
      go_wp2
      go_ret2
      exact ⟨by rw [HE.out, ← HFIN.out]; rfl, B7⟩

/-- Where GainUnits has no answer. -/
theorem SGainUnits_no (A T : Option Addr) (c d : Nat) (k i : Int) (rows : List (List Int)) (told : List Int) (w : World) (hR : RdR w A c rows) (hT : Rd w T d told) (hTd : told.length ≤ d) (hl : rows.length ≤ 1099511627776) (hl2 : ∀ r ∈ rows, r.length ≤ 1099511627776) (hl3 : told.length ≤ 1099511627776) (hf : guB rows k i told = false) :
    Calls Try.prog 35 #[.slice A rows.length c, .int .i64 k, .int .i64 i, .slice T told.length d] w (PairIs w 0 false) := by
  have HC := validUnits_any A c rows k w hR hl hl2
  have hIR := fun w1 => inRange_any i 0 ((rows.length : Int) - 1) w1
  have hdv := fun (w1 : World) (hb : Below w.heap.size w w1) => validDemands_any (some ⟨w1.heap.size, 0, none⟩) 1 [told] _ (rdr_one hT hTd hb) (by simp) (fun r hr => by rw [List.mem_singleton.1 hr]; exact hl3)
  rw [vd_one] at hdv
  have hwl : IntKind.i64.wrap ((rows.length : Int) - 1) = (rows.length : Int) - 1 := IntWalk.i64_in _ (by omega)
  unfold guB at hf
  cases hb : fuB rows k with
  | false =>
    rw [hb] at HC
    have HC := Lib.hid HC
    clear hf hb hIR hdv
    go_enter Try.func35, Try.ntmps35
    go_wp2_with (go_at_call 53; refine HC.out.mono ?_; rintro e w1 ⟨rfl, m, rfl⟩)
    go_ret2
    exact ⟨rfl, below_drewN' (Below.refl _ _) _⟩
  | true =>
    rw [hb] at HC hf
    have HC := Lib.hid HC
    rw [Bool.true_and] at hf
    cases hr : inR i 0 ((rows.length : Int) - 1) with
    | false =>
      rw [hr] at hIR
      have HIR := Lib.hid hIR
      clear hf hb hr hIR hdv
      go_enter Try.func35, Try.ntmps35
      go_wp2_with fail
      refine HC.out.mono ?_
      rintro e w1 ⟨rfl, m, rfl⟩
      go_wp2_with fail
      refine (HIR.out _).mono ?_
      rintro e w2 ⟨rfl, rfl⟩
      go_wp2
      go_ret2
      exact ⟨rfl, below_drewN' (Below.refl _ _) _⟩
    | true =>
      rw [hr] at hIR
      have HIR := Lib.hid hIR
      rw [hr, Bool.true_and] at hf
      rw [hf] at hdv
      have HDV := Lib.hid hdv
      clear hf hb hr hIR hdv
      go_enter Try.func35, Try.ntmps35
      go_wp2_with fail
      refine HC.out.mono ?_
      rintro e w1 ⟨rfl, m, rfl⟩
      go_wp2_with fail
      refine (HIR.out _).mono ?_
      rintro e w2 ⟨rfl, rfl⟩
      go_wp2_with fail
      refine (HDV.out (w.drewN m) (below_drewN' (Below.refl _ w) m)).mono ?_
      rintro e w3 ⟨rfl, m2, rfl⟩
      have B3 : Below w.heap.size w (((w.drewN m).alloc (.cells #[.slice T told.length d] 29)).drewN m2) := below_drewN' ((below_drewN' (Below.refl _ w) m).alloc (Nat.le_refl _) _) m2
      go_wp2
      go_ret2
      exact ⟨rfl, B3⟩

/-- What GainUnits hands back. -/
noncomputable def gaF (rows : List (List Int)) (k i : Int) (told : List Int) : Int := if guB rows k i told = true then guF rows k.toNat i.toNat told else 0
theorem guB_iff {rows : List (List Int)} {k i : Int} {told : List Int} : guB rows k i told = true ↔ (VD rows ∧ 0 ≤ k ∧ k ≤ 5) ∧ (0 ≤ i ∧ i < rows.length) ∧ RowOk told := by
  unfold guB; rw [Bool.and_eq_true, Bool.and_eq_true, fuB_iff, inR_true, rowB_iff]
  constructor
  · rintro ⟨h1, h2, h3⟩; exact ⟨h1, by omega, h3⟩
  · rintro ⟨h1, h2, h3⟩; exact ⟨h1, by omega, h3⟩

theorem GainUnits_both (rows : List (List Int)) (k i : Int) (told : List Int) (hl : rows.length ≤ 1099511627776) (hl2 : ∀ r ∈ rows, r.length ≤ 1099511627776) (hl3 : told.length ≤ 1099511627776) :
    (∀ A T c d w, RdR w A c rows → Rd w T d told → told.length ≤ d → Calls Try.prog 35 #[.slice A rows.length c, .int .i64 k, .int .i64 i, .slice T told.length d] w (PairIs w (gaF rows k i told) (guB rows k i told))) ∧
    (∀ A T c d w, RdR w A c rows → Rd w T d told → told.length ≤ d → Calls Try.prog 34 #[.slice A rows.length c, .int .i64 k, .int .i64 i, .slice T told.length d] w (PairIs w (gaF rows k i told) (guB rows k i told))) := by
  unfold gaF
  cases hf : guB rows k i told with
  | false => exact ⟨fun A T c d w h1 h2 h3 => SGainUnits_no A T c d k i rows told w h1 h2 h3 hl hl2 hl3 hf, fun A T c d w h1 h2 _ => GainUnits_no A T c d k i rows told w h1 h2 hl hl2 hl3 hf⟩
  | true =>
    obtain ⟨⟨hv, h0, h5⟩, ⟨hi0, hi1⟩, ht⟩ := guB_iff.1 hf
    obtain ⟨n, rfl⟩ := Int.eq_ofNat_of_zero_le h0
    obtain ⟨j, rfl⟩ := Int.eq_ofNat_of_zero_le hi0
    exact ⟨fun A T c d w h1 h2 h3 => SGainUnits_yes A T c d n j rows told w h1 h2 h3 hv (by omega) (by omega) ht, fun A T c d w h1 h2 h3 => GainUnits_yes A T c d n j rows told w h1 h2 h3 hv (by omega) (by omega) ht⟩

end Go.Proofs.Ytkkdffmpeadinaa
