/-
  Chapter 3, the model: the contracts of worth, pivotPays, PivotUnits, PushedUnits, EachUnits.
-/
import Derived.Test.YtkkdffmpeadinaaUp
namespace Go.Proofs.Ytkkdffmpeadinaa
open Go.RowKit

set_option maxHeartbeats 1000000 in
theorem worth_any (A B : Option Addr) (c d : Nat) (rows : List (List Int)) (h : Nat → Nat) (w : World) (hR : RdR w A c rows) (hB : Rd w B d (lst h rows.length)) (hl : rows.length ≤ 4) (hg : Good (RW rows) rows.length) (hh : ∀ i, i < rows.length → h i ≤ (RW rows i).length) :
    Calls Try.prog 66 #[.slice A rows.length c, .slice B rows.length d] w fun e w' => e = .returned (.int .i64 (val (RW rows) h rows.length)) ∧ ∃ n, w' = w.drewN n := by
  have HG := Lib.hid hg
  have HH := Lib.hid hh
  clear hg hh
  go_enter Try.func66, Try.ntmps66
  go_wp2
  go_loopw [5, 6] (fun o i wr => ∃ (j n : Nat) (z : Int), j ≤ rows.length ∧ i = .int .i64 j ∧ wr = w.drewN n ∧ o = .int .i64 z ∧ Hid (z = val (RW rows) h j)) (fun _ i _ => rows.length - (intOf i).toNat)
  case atStart => exact ⟨0, 0, 0, Nat.zero_le _, rfl, rfl, rfl, Lib.hid rfl⟩
  case round =>
    obtain ⟨j, n, z, hj, rfl, rfl, rfl, HZ⟩ := hrel
    by_cases hlt : j < rows.length
    · obtain ⟨b, off, r, A', c', rfl, hr, hc, hcap, hrd⟩ := hR.at_ hlt
      obtain ⟨b2, o2, rfl, hch⟩ := hB.has hlt
      have hrw := rw_of hr.out
      have hro : RowOk r := by rw [← hrw]; exact HG.out j hlt
      have hhr : h j ≤ r.length := by rw [← hrw]; exact HH.out j hlt
      have hr5 : r.length ≤ 5 := hro.1
      have hzb : 0 ≤ z ∧ z ≤ 600 := by
        rw [HZ.out]
        have h1 := sumTo_nn (f := fun i => pre (RW rows i) (h i)) (n := j) (fun i hi => (pre_le150 (HG.out i (by omega)) _).1)
        have h2 := sumTo_le (f := fun i => pre (RW rows i) (h i)) (g := fun _ => 150) (n := j) (fun i hi => (pre_le150 (HG.out i (by omega)) _).2)
        rw [sumTo_const] at h2
        exact ⟨h1, by unfold val; omega⟩
      have hz0 := hzb.1
      have hz1 := hzb.2
      obtain ⟨t, ht⟩ : ∃ t, t = h j := ⟨_, rfl⟩
      have HT := Lib.hid ht
      rw [← ht] at hch hhr
      have HRO := Lib.hid hro
      have HRW := Lib.hid hrw
      clear hrw hro hzb ht
      go_wp2
      go_loopw [5, 7] (fun o i wr => ∃ (q n : Nat) (y : Int), q ≤ t ∧ i = .int .i64 q ∧ wr = w.drewN n ∧ o = .int .i64 y ∧ Hid (y = z + pre r q)) (fun _ i _ => t - (intOf i).toNat)
      case atStart => exact ⟨0, n, z, Nat.zero_le _, rfl, rfl, rfl, Lib.hid (by rw [pre_zero]; omega)⟩
      case round =>
        obtain ⟨q, n, y, hq, rfl, rfl, rfl, HY⟩ := hrel
        by_cases hql : q < t
        · obtain ⟨b3, o3, x, rfl, _, hx, hcx⟩ := hrd.out.at_ (k := q) (by omega)
          have hxb := HRO.out.2 q x hx.out
          have hpb := pre_le150 HRO.out q
          have HY2 : Hid (y + x = z + pre r (q + 1)) := Lib.hid (by rw [pre_step hx.out, HY.out]; omega)
          have hy := HY.out
          have hx0 := hxb.1
          have hx1 := hxb.2.1
          have hy0 : 0 ≤ y := by omega
          have hy1 : y ≤ 1000 := by omega
          clear hxb hpb hy
          go_wp2
          go_roundw
          case rel => exact ⟨q + 1, _, _, by omega, by go_num, rfl, rfl, HY2⟩
          case measure => simp [intOf]; omega
        · obtain rfl : q = t := by omega
          have HS : Hid (y = val (RW rows) h (j + 1)) := Lib.hid (by rw [HY.out, HZ.out, HT.out]; show _ = val (RW rows) h j + pre (RW rows j) (h j); rw [HRW.out])
          go_wp2
          go_roundw
          case rel => exact ⟨j + 1, _, _, by omega, by go_num, rfl, rfl, HS⟩
          case measure => simp [intOf]; omega
    · obtain rfl : j = rows.length := by omega
      go_wp2
      go_ret
      exact ⟨by rw [← HZ.out]; rfl, _, rfl⟩

/-- What bidder i takes, by the model. -/
def spvF (rows : List (List Int)) (k i : Nat) : Int := bst (RW (rows.set i [])) rows.length k - (val (RW rows) (aw (RW rows) rows.length k) rows.length - pre (RW rows i) (aw (RW rows) rows.length k i))

theorem VD.setGood {rows : List (List Int)} (h : VD rows) (i : Nat) {r : List Int} (hr : RowOk r) : ∀ q ∈ rows.set i r, RowOk q := fun q hq => by
  rcases List.mem_or_eq_of_mem_set hq with hq | hq
  · exact h.2 q hq
  · rw [hq]; exact hr
theorem VD.setVD {rows : List (List Int)} (h : VD rows) (i : Nat) {r : List Int} (hr : RowOk r) : VD (rows.set i r) := ⟨by simpa using h.1, h.setGood i hr⟩

theorem bestWorth_n (A : Option Addr) (c k n : Nat) (rows : List (List Int)) (w : World) (hn : rows.length = n) (hR : RdR w A c rows) (hl : n ≤ 4) (hg : Good (RW rows) n) (hk : k ≤ 5) :
    Calls Try.prog 57 #[.slice A n c, .int .i64 k] w fun e w' => e = .returned (.int .i64 (bst (RW rows) n k)) ∧ Below w.heap.size w w' := by
  subst hn; exact bestWorth_any A c k rows w hR hl hg hk

theorem ints_one (w : World) (x : Int) : Rd (w.alloc (.cells #[.int .i64 x] 3)) (some ⟨w.heap.size, 0, none⟩) 1 [x] := by
  refine .inr ⟨w.heap.size, 0, rfl, fun k hk => ?_⟩
  obtain rfl : k = 0 := by simpa using hk
  simp
theorem own_some {w : World} {B : Nat} {A : Option Addr} {c : Nat} {zs : List Int} (h : Own w B A c zs) (hz : 1 ≤ zs.length) : ∃ g, A = some ⟨g, 0, none⟩ := by
  rcases own_shape h with ⟨_, ⟨_, rfl⟩ | ⟨g, c', hv⟩⟩
  · simp at hz
  · injection hv with hA; exact ⟨g, hA⟩
theorem own_new_ints (w : World) : Own (w.alloc (.cells #[] 3)) w.heap.size (some ⟨w.heap.size, 0, none⟩) 0 (vls (fun _ => 0) 0) := own_empty w
theorem vls_zero (f g : Nat → Int) : vls f 0 = vls g 0 := rfl
theorem vls_more (f : Nat → Int) (j : Nat) : vls f (j + 1) = vls f j ++ [f j] := by simp [vls, List.range_succ]

set_option maxHeartbeats 2000000 in
theorem pivotPays_any (A : Option Addr) (c k : Nat) (rows : List (List Int)) (w : World) (hR : RdR w A c rows) (hv : VD rows) (hk : k ≤ 5) :
    Calls Try.prog 72 #[.slice A rows.length c, .int .i64 k] w (ValsIs w (spvF rows k) rows.length) := by
  have hl : rows.length ≤ 4 := hv.1.2
  have h1l : 1 ≤ rows.length := hv.1.1
  obtain ⟨b, off, rfl, hcapR, _⟩ := hR.open_ h1l
  have HA := Lib.hid (award_yes (some ⟨b, off, none⟩) c rows k w hR hv hk)
  have HFA := Lib.hid (fair_aw hv.good k)
  have HV := Lib.hid hv
  obtain ⟨h, hh⟩ : ∃ h, h = aw (RW rows) rows.length k := ⟨_, rfl⟩
  rw [← hh] at HA HFA
  have hvb : 0 ≤ val (RW rows) h rows.length ∧ val (RW rows) h rows.length ≤ 600 := by
    have h1 := sumTo_nn (f := fun i => pre (RW rows i) (h i)) (n := rows.length) (fun i hi => (pre_le150 (hv.good i hi) _).1)
    have h2 := sumTo_le (f := fun i => pre (RW rows i) (h i)) (g := fun _ => 150) (n := rows.length) (fun i hi => (pre_le150 (hv.good i hi) _).2)
    rw [sumTo_const] at h2
    exact ⟨h1, by unfold val; omega⟩
  have HH := Lib.hid hh
  clear hv hh
  go_enter Try.func72, Try.ntmps72
  go_wp2_with fail
  refine HA.out.mono ?_
  rintro e w1 ⟨g, d, rfl, o1, b1⟩
  have HW := Lib.hid (worth_any (some ⟨b, off, none⟩) (some ⟨g, 0, none⟩) c d rows h w1 (hR.below b1) o1.rd hl HV.out.good (HFA.out.len))
  obtain ⟨V, hV⟩ : ∃ V, V = val (RW rows) h rows.length := ⟨_, rfl⟩
  rw [← hV] at HW hvb
  have HVE := Lib.hid hV
  have hv0 := hvb.1
  have hv1 := hvb.2
  clear hV hvb
  go_wp2_with fail
  refine HW.out.mono ?_
  rintro e w2 ⟨rfl, m, rfl⟩
  have B1 : Below w.heap.size w (w1.drewN m) := below_drewN' b1 m
  have B2 := B1.alloc B1.size (.cells #[] 3)
  have HH2 : Hid (Own ((w1.drewN m).alloc (.cells #[] 3)) w.heap.size (some ⟨g, 0, none⟩) d (lst h rows.length)) := Lib.hid ((o1.drewN m).below ((Below.refl _ _).alloc (Nat.le_refl _) _))
  have HO2 : Hid (Own ((w1.drewN m).alloc (.cells #[] 3)) (w1.drewN m).heap.size (some ⟨(w1.drewN m).heap.size, 0, none⟩) 0 (vls (spvF rows k) 0)) := Lib.hid (own_new_ints _)
  have hgl : g < (w1.drewN m).heap.size := o1.lt
  have hws : w.heap.size ≤ (w1.drewN m).heap.size := B1.size
  obtain ⟨S, hS⟩ : ∃ S, S = w1.heap.size := ⟨_, rfl⟩
  have e1 : (w1.drewN m).heap.size = S := hS.symm
  rw [e1] at HO2 hgl hws
  obtain ⟨f, hf⟩ : ∃ f, f = spvF rows k := ⟨_, rfl⟩
  rw [← hf] at HO2
  have HF := Lib.hid hf
  have HSP : Hid (spvF rows k = f) := Lib.hid hf.symm
  rw [HSP.out]
  clear hf o1 b1
  go_wp2
  rw [← hS]
  clear e1 hS
  go_loopw [7, 8] (fun o i wr => ∃ (j g2 c2 : Nat), j ≤ rows.length ∧ i = .int .i64 j ∧ o = .slice (some ⟨g2, 0, none⟩) j c2 ∧ Hid (Own wr S (some ⟨g2, 0, none⟩) c2 (vls f j)) ∧ Hid (Own wr w.heap.size (some ⟨g, 0, none⟩) d (lst h rows.length)) ∧ Below w.heap.size w wr) (fun _ i _ => rows.length - (intOf i).toNat)
  case atStart => exact ⟨0, S, 0, Nat.zero_le _, rfl, rfl, HO2, HH2, B2⟩
  case round =>
    obtain ⟨j, g2, c2, hj, rfl, rfl, HO, HG, hb⟩ := hrel
    by_cases hlt : j < rows.length
    · obtain ⟨b', off', r, A', c', hA, hr, hc0, hcap, hrd⟩ := hR.at_ hlt
      cases hA
      have HBL := Lib.hid (World.block_lt_of_cell? w _ hc0)
      have HC0 := Lib.hid hc0
      have hch0 := HG.out.cell (lst_at hlt)
      have hrw := rw_of hr.out
      have hro : RowOk r := by rw [← hrw]; exact HV.out.good j hlt
      have hhr : h j ≤ r.length := by rw [← hrw]; exact HFA.out.len j hlt
      have hr5 : r.length ≤ 5 := hro.1
      obtain ⟨t, ht⟩ : ∃ t, t = h j := ⟨_, rfl⟩
      have HT := Lib.hid ht
      rw [← ht] at hch0 hhr
      have hc := (hb.cell (p := ⟨b, off + j, none⟩) HBL.out).trans HC0.out
      have HRO := Lib.hid hro
      have HRW := Lib.hid hrw
      clear hrw hro ht hc0
      go_wp2
      go_loopw [9, 10] (fun o i wr2 => ∃ (q n : Nat) (y : Int), q ≤ t ∧ i = .int .i64 q ∧ wr2 = wr.drewN n ∧ o = .int .i64 y ∧ Hid (y = pre r q)) (fun _ i _ => t - (intOf i).toNat)
      case atStart => exact ⟨0, 0, 0, Nat.zero_le _, rfl, rfl, rfl, Lib.hid (by rw [pre_zero])⟩
      case round =>
        obtain ⟨q, n, y, hq, rfl, rfl, rfl, HY⟩ := hrel
        by_cases hql : q < t
        · obtain ⟨b3, o3, x, rfl, hbl3, hx, hcx0⟩ := hrd.out.at_ (k := q) (by omega)
          have hcx := (hb.cell (p := ⟨b3, o3 + q, none⟩) hbl3).trans hcx0
          have hxb := HRO.out.2 q x hx.out
          have hpb := pre_le150 HRO.out q
          have HY2 : Hid (y + x = pre r (q + 1)) := Lib.hid (by rw [pre_step hx.out, HY.out])
          have hy := HY.out
          have hx0 := hxb.1
          have hx1 := hxb.2.1
          have hy0 : 0 ≤ y := by omega
          have hy1 : y ≤ 1000 := by omega
          clear hxb hpb hy hcx0
          go_wp2
          go_roundw
          case rel => exact ⟨q + 1, _, _, by omega, by go_num, rfl, rfl, HY2⟩
          case measure => simp [intOf]; omega
        · obtain rfl : q = t := by omega
          have hpb := pre_le150 HRO.out q
          rw [← HY.out] at hpb
          have hy0 := hpb.1
          have hy1 := hpb.2
          have hBn := below_drewN' hb n
          have HWO := Lib.hid (without_any b off c j rows _ (hR.below hBn) hlt (by omega))
          clear hc hpb
          go_wp2_with fail
          refine HWO.out.mono ?_
          rintro e w5 ⟨g5, c5, vs5, rfl, o5, v5, b5⟩
          have B5 := hBn.trans (b5.mono hBn.size)
          have hR5 := CopyIs.shape_ o5 v5 (by simp) b5
          have hvd : VD (rows.set j []) := HV.out.setVD j rowOk_nil
          have hgd := hvd.good
          rw [List.length_set] at hgd
          have HBW := Lib.hid (bestWorth_n (some ⟨g5, 0, none⟩) c5 k rows.length (rows.set j []) w5 (by simp) hR5 hl hgd hk)
          have hTb := bst_bd (x := k) hgd (Nat.le_refl _) hl
          obtain ⟨T, hT⟩ : ∃ T, T = bst (RW (rows.set j [])) rows.length k := ⟨_, rfl⟩
          rw [← hT] at HBW hTb
          have hT0 := hTb.1
          have hT1 := hTb.2
          have HFE : Hid (T - (V - y) = f j) := Lib.hid (by rw [HF.out]; unfold spvF; rw [← HH.out, ← HVE.out, hT, HY.out, HRW.out, HT.out])
          have HO5 := Lib.hid (HO.out.drewN n |>.below b5)
          have HG5 := Lib.hid (HG.out.drewN n |>.below b5)
          clear hR5 hvd hgd hTb hT o5 v5 HWO
          go_wp2_with fail
          refine HBW.out.mono ?_
          rintro e w6 ⟨rfl, b6⟩
          have B6 := B5.trans (b6.mono B5.size)
          have B7 := B6.alloc B6.size (.cells #[.int .i64 (T - (V - y))] 3)
          have HO6 := HO5.out.below (b6.trans ((Below.refl w6.heap.size w6).alloc (Nat.le_refl _) (.cells #[.int .i64 (T - (V - y))] 3) |>.mono b6.size))
          have HG6 := HG5.out.below (b6.trans ((Below.refl w6.heap.size w6).alloc (Nat.le_refl _) (.cells #[.int .i64 (T - (V - y))] 3) |>.mono b6.size))
          have HO7 := Lib.hid HO6
          have HG7 := Lib.hid HG6
          have HX := Lib.hid (ints_one w6 (T - (V - y)))
          have hS6 : Hid (S ≤ w6.heap.size) := Lib.hid (by
            have h1 := HO.out.ge
            have h2 := HO.out.lt
            have h3 := b5.size
            have h4 := b6.size
            have h5 : (wr.drewN n).heap.size = wr.heap.size := rfl
            omega)
          clear HO6 HG6 b5 b6
          go_wp2_with (at_builtin; refine wpList_append_any rfl _ _ 29 Try.underlying29 rfl S (some ⟨g2, 0, none⟩) c2 (vls f j) j (vls_len _ _) rfl HO7.out (some ⟨w6.heap.size, 0, none⟩) 1 [T - (V - y)] 1 rfl rfl HX.out (by omega) (by have := hS6.out; simp; omega) ?_; intro A8 c8 w8 o8 g8)
          obtain ⟨g9, rfl⟩ := own_some o8 (by simp)
          have B8 := Own.grownBelow0 B7 (HO7.out.base hws) B7.size g8
          have HO8 : Hid (Own w8 S (some ⟨g9, 0, none⟩) c8 (vls f (j + 1))) := Lib.hid (by rw [vls_more, ← HFE.out]; exact o8)
          have HG8 : Hid (Own w8 w.heap.size (some ⟨g, 0, none⟩) d (lst h rows.length)) := Lib.hid (HG7.out.kept_ g8 (.inr (fun e => by have h1 := Option.some.inj e; have h2 := HO7.out.ge; simp at h1; omega)))
          clear o8 g8
          go_wp2
          go_roundw
          case rel => exact ⟨j + 1, g9, c8, by omega, by go_num, rfl, HO8, HG8, B8⟩
          case measure => simp [intOf]; omega
    · obtain rfl : j = rows.length := by omega
      go_wp2
      go_ret
      exact ⟨g2, c2, rfl, by rw [HSP.out]; exact HO.out.base hws, hb⟩

end Go.Proofs.Ytkkdffmpeadinaa
