/-
  Chapter 8: PairPays of the model; both sides.
-/
import Derived.Test.YtkhpheebjkbihaaOn
namespace Go.Proofs.Ytkhpheebjkbihaa
open Go.RowKit

set_option maxRecDepth 100000 in
set_option maxHeartbeats 4000000 in
theorem SPairPays_any (A : Option Addr) (c : Nat) (rows : List (List Int)) (w : World) (h : RdR w A c rows) (hl : rows.length ≤ 1099511627776) (hl2 : ∀ r ∈ rows, r.length ≤ 1099511627776) :
    Calls Try.prog 53 #[.slice A rows.length c] w (NewL w (ppL rows)) := by
  have HV := Lib.hid (validRows_any A c rows w h hl hl2)
  by_cases hv : VR rows
  · obtain ⟨hk, h12, hm1, hm4⟩ := hv.rk
    obtain ⟨b, off, A', c', rfl, hc⟩ := row_head h hv
    have hpl := pb_len hk 0
    rw [vr_true hv] at HV
    have HP0 : Hid (∀ n, Calls Try.prog 108 #[.slice (some ⟨b, off, none⟩) rows.length c, .int .i64 0, .int .i64 0] (w.drewN n) (PwIs (w.drewN n) (pb rows 0))) := Lib.hid (fun n => by
      have := pairWorth_any (some ⟨b, off, none⟩) c _ rows hm4 hk h12 hv.1.2 rows.length 0 0 (w.drewN n) (by omega) (by omega) (h.drewN n)
      exact this)
    have HWO := Lib.hid (fun (i : Nat) (w1 : World) (hi : i < rows.length) (hb : Below w.heap.size w w1) => SpairWithout_any b off c i rows.length _ rows w1 rfl (h.below hb) hi hv.1.2 hm4 hk h12)
    have HRR := Lib.hid h
    have HEB : Hid (∀ i, 0 ≤ (pb (rows.eraseIdx i) 0).1 ∧ (pb (rows.eraseIdx i) 0).1 ≤ (pb rows 0).1) := Lib.hid (fun i => ⟨pb_nonneg (rk_erase hk i) 0, pb_erase hm4 hk 0 i (by omega)⟩)
    have HRB := Lib.hid (fun (r : List Int) (hr : r ∈ rows) (j : Nat) => (⟨(hk r hr).2 j, h12 r hr j⟩ : (0 : Int) ≤ r.getD j 0 ∧ r.getD j 0 ≤ 12))
    have HRL := Lib.hid (fun (r : List Int) (hr : r ∈ rows) => (hk r hr).1)
    have HME := Lib.hid (fun j hj => mt_each 0 _ (pb_mt hk 0).1 j hj)
    have hs0 := pb_nonneg hk 0
    have hs1 := pb_top hk h12 0
    have E1 := Lib.hid (pp_yes hv)
    have hn4 := hv.1
    clear hv hk h12 h hc
    generalize (RW rows 0).length = m at *
    have HPF : Hid (∀ i, ppF rows i = (pb (rows.eraseIdx i) 0).1 - ((pb rows 0).1 - (rows.getD i []).getD ((pb rows 0).2.getD i 0) 0)) := Lib.hid (fun i => rfl)
    obtain ⟨s, js, hsj⟩ : ∃ s js, pb rows 0 = (s, js) := ⟨_, _, rfl⟩
    rw [hsj] at HP0 HEB HME hs0 hs1 HPF hpl
    simp only at HEB HME hs0 hs1 HPF hpl
    clear hsj
    have HPL := Lib.hid hpl
    go_enter Try.func53, Try.ntmps53
    go_wp2_with fail
    refine HV.out.mono ?_
    rintro e w1 ⟨rfl, n, rfl⟩
    go_wp2_with fail
    refine (HP0.out n).mono ?_
    rintro e w2 ⟨A2, c2, rfl, o2, b2⟩
    have HB2 := Lib.hid ((below_drewN' (Below.refl w.heap.size w) n).trans b2)
    have HO2 : Hid (Own w2 w.heap.size A2 c2 (nl js)) := Lib.hid (o2.base (Nat.le_refl _))
    have HO0 : Hid (Own (w2.alloc (.cells #[] 3)) w.heap.size (some ⟨w2.heap.size, 0, none⟩) 0 (vls (ppF rows) 0)) := Lib.hid ((own_empty w2).base HB2.out.size)
    have HB3 := Lib.hid (HB2.out.trans (((Below.refl w2.heap.size w2).alloc (Nat.le_refl _) (.cells #[] 3)).mono HB2.out.size))
    have HBJ : Hid (Below w2.heap.size w2 (w2.alloc (.cells #[] 3))) := Lib.hid ((Below.refl w2.heap.size w2).alloc (Nat.le_refl _) (.cells #[] 3))
    clear b2 o2 HP0 HV
    go_wp2
    go_loopw [5, 6] (fun out i wr => ∃ (k : Nat) (A1 : Option Addr) (c1 : Nat), k ≤ rows.length ∧ i = .int .i64 k ∧ out = .slice A1 k c1 ∧ Hid (Own wr w2.heap.size A1 c1 (vls (ppF rows) k)) ∧ Hid (Below w2.heap.size w2 wr)) (fun _ i _ => rows.length - (intOf i).toNat)
    case atStart => exact ⟨0, _, _, Nat.zero_le _, rfl, rfl, Lib.hid (own_empty w2), HBJ⟩
    case round =>
      obtain ⟨k, A1, c1, hk, rfl, rfl, HO, HB⟩ := hrel
      have HBW := Lib.hid (HB2.out.trans (HB.out.mono HB2.out.size))
      by_cases hlt : k < rows.length
      · have hkj : k < js.length := by rw [HPL.out]; exact hlt
        have hj := List.getElem?_eq_getElem hkj
        generalize js[k] = x at hj
        have hxm : x ≤ m := HME.out x (List.mem_of_getElem? hj)
        obtain ⟨b2, o2, x', hA2, _, hx2, hc2⟩ := (HO2.out.below HB.out).rd.at_ (k := k) (by rw [nl_len]; exact hkj)
        have hxx : x' = (x : Int) := by
          have h1 := hx2.out
          have h2 : (nl js)[k]? = some (x : Int) := by simp [nl, hj]
          rw [h2] at h1; exact (Option.some.inj h1).symm
        subst hxx
        subst hA2
        obtain ⟨b4, o4, r, A4, c4, hA4, hr4, hc4, hcap4, hrd4⟩ := (HRR.out.below HBW.out).at_ hlt
        cases hA4
        have hrl : r.length = m := HRL.out r (List.mem_of_getElem? hr4.out)
        have hrg : rows.getD k [] = r := by rw [List.getD_eq_getElem?_getD, hr4.out]; rfl
        have hjg : js.getD k 0 = x := by rw [List.getD_eq_getElem?_getD, hj]; rfl
        have hpf := HPF.out k
        rw [hrg, hjg] at hpf
        have hrb := HRB.out r (List.mem_of_getElem? hr4.out) x
        have hebk := HEB.out k
        have HWW := Lib.hid (fun q => HWO.out k (wr.drewN q) hlt (below_drewN' HBW.out q))
        obtain ⟨y, hy⟩ : ∃ y, y = (pb (rows.eraseIdx k) 0).1 := ⟨_, rfl⟩
        rw [← hy] at hebk hpf HWW
        obtain ⟨v, hv⟩ : ∃ v, v = r.getD x 0 := ⟨_, rfl⟩
        rw [← hv] at hrb hpf
        have hw1 : IntKind.i64.wrap (s - v) = s - v := IntWalk.i64_in _ (by omega)
        have hw2 : IntKind.i64.wrap (y - (s - v)) = y - (s - v) := IntWalk.i64_in _ (by omega)
        have hk1 : k + 1 ≤ 1099511627776 := by omega
        have HK1 := Lib.hid hk1
        have HPK := Lib.hid hpf
        clear hy hpf hebk hj hrg hjg HEB HPF HWO hk1
        by_cases hxm2 : x < m
        · obtain ⟨b5, o5, v', hA5, _, hv5, hc5⟩ := hrd4.out.at_ (k := x) (by omega)
          subst hA5
          have hvv : v = v' := by rw [hv, List.getD_eq_getElem?_getD, hv5.out]; rfl
          subst hvv
          have hxlt : (x : Int) < (r.length : Int) := by omega
          clear hv hrl hxm hxm2
          go_wp2_with fail
          go_quiet (fail)
          go_wp2_with fail
          go_quiet (fail)
          go_wp2_with fail
          refine (HWW.out _).mono ?_
          rintro e w7 ⟨rfl, b7⟩
          have bw7 : Below wr.heap.size wr w7 := (below_drewN' (Below.refl _ wr) _).trans b7
          have HB7 := Lib.hid (HB.out.trans (bw7.mono HB.out.size))
          have HO8 := Lib.hid ((HO.out.below bw7).below ((Below.refl w7.heap.size w7).alloc (Nat.le_refl _) (.cells #[.int .i64 (y - (s - v))] 3)))
          have HL8 := Lib.hid (own_lit w7 [y - (s - v)] (by simp)).rd
          have hsz : w2.heap.size ≤ (w7.alloc (.cells #[.int .i64 (y - (s - v))] 3)).heap.size := Nat.le_trans HB7.out.size ((Below.refl _ w7).alloc (Nat.le_refl _) (.cells #[.int .i64 (y - (s - v))] 3)).size
          have HSZ := Lib.hid hsz
          clear b7 bw7 hsz HWW
          go_wp2_with (at_builtin; refine wpList_append_any rfl _ _ 24 Try.underlying24 rfl w2.heap.size A1 c1 (vls (ppF rows) k) k (vls_len _ _) rfl HO8.out (some ⟨w7.heap.size, 0, none⟩) 1 [y - (s - v)] 1 rfl rfl HL8.out HK1.out HSZ.out ?_; intro A9 c9 w9 ho9 hg9)
          have HB9 := Lib.hid (((HB7.out.trans ((((Below.refl _ w7).alloc (Nat.le_refl _) (.cells #[.int .i64 (y - (s - v))] 3))).mono HB7.out.size))).grown hg9 HSZ.out (fun q e => (own_bk HO.out e).1))
          have HO9 : Hid (Own w9 w2.heap.size A9 c9 (vls (ppF rows) (k + 1))) := Lib.hid (by rw [vls_more, HPK.out]; exact ho9)
          go_roundw
          case rel => exact ⟨k + 1, A9, c9, hlt, by go_num, rfl, HO9, HB9⟩
          case measure => simp [intOf]; omega
        · have hv0 : v = 0 := by rw [hv, List.getD_eq_getElem?_getD, List.getElem?_eq_none (by omega)]; rfl
          subst hv0
          rw [Int.sub_zero] at hw1 hw2 HPK
          have hxlt : ¬ (x : Int) < (r.length : Int) := by omega
          clear hv hrl hxm hxm2
          go_wp2_with fail
          go_quiet (fail)
          go_wp2_with fail
          refine (HWW.out _).mono ?_
          rintro e w7 ⟨rfl, b7⟩
          have bw7 : Below wr.heap.size wr w7 := (below_drewN' (Below.refl _ wr) _).trans b7
          have HB7 := Lib.hid (HB.out.trans (bw7.mono HB.out.size))
          have HO8 := Lib.hid ((HO.out.below bw7).below ((Below.refl w7.heap.size w7).alloc (Nat.le_refl _) (.cells #[.int .i64 (y - s)] 3)))
          have HL8 := Lib.hid (own_lit w7 [y - s] (by simp)).rd
          have hsz : w2.heap.size ≤ (w7.alloc (.cells #[.int .i64 (y - s)] 3)).heap.size := Nat.le_trans HB7.out.size ((Below.refl _ w7).alloc (Nat.le_refl _) (.cells #[.int .i64 (y - s)] 3)).size
          have HSZ := Lib.hid hsz
          clear b7 bw7 hsz HWW
          go_wp2_with (at_builtin; refine wpList_append_any rfl _ _ 24 Try.underlying24 rfl w2.heap.size A1 c1 (vls (ppF rows) k) k (vls_len _ _) rfl HO8.out (some ⟨w7.heap.size, 0, none⟩) 1 [y - s] 1 rfl rfl HL8.out HK1.out HSZ.out ?_; intro A9 c9 w9 ho9 hg9)
          have HB9 := Lib.hid (((HB7.out.trans ((((Below.refl _ w7).alloc (Nat.le_refl _) (.cells #[.int .i64 (y - s)] 3))).mono HB7.out.size))).grown hg9 HSZ.out (fun q e => (own_bk HO.out e).1))
          have HO9 : Hid (Own w9 w2.heap.size A9 c9 (vls (ppF rows) (k + 1))) := Lib.hid (by rw [vls_more, HPK.out]; exact ho9)
          go_roundw
          case rel => exact ⟨k + 1, A9, c9, hlt, by go_num, rfl, HO9, HB9⟩
          case measure => simp [intOf]; omega
      · obtain rfl : k = rows.length := by omega
        go_wp2
        go_ret
        rw [E1.out]
        exact ⟨A1, c1, by rw [vls_len]; rfl, HO.out.base HB2.out.size, HBW.out⟩
  · rw [vr_false hv] at HV
    have E1 := Lib.hid (pp_no hv)
    go_enter Try.func53, Try.ntmps53
    go_wp2_with fail
    refine HV.out.mono ?_
    rintro e w1 ⟨rfl, n, rfl⟩
    go_wp2
    go_ret
    rw [E1.out]
    exact ⟨none, 0, rfl, own_none _ _, below_drewN' (Below.refl _ _) n⟩

theorem ppL_len (rows : List (List Int)) : (ppL rows).length ≤ 1000 := by
  by_cases h : VR rows
  · rw [pp_yes h, vls_len]; have := h.1.2; omega
  · rw [pp_no h]; simp
theorem PairPays_both (rows : List (List Int)) : ∃ zs : List Int, zs.length ≤ 1000 ∧ (rows.length ≤ 1099511627776 → (∀ r ∈ rows, r.length ≤ 1099511627776) →
    (∀ A c w, RdR w A c rows → Calls Try.prog 53 #[.slice A rows.length c] w (NewL w zs)) ∧
    (∀ A c w, RdR w A c rows → Calls Try.prog 49 #[.slice A rows.length c] w (NewL w zs))) :=
  ⟨ppL rows, ppL_len rows, fun hl hl2 => ⟨fun A c w h => SPairPays_any A c rows w h hl hl2, fun A c w h => PairPays_any A c rows w h hl hl2⟩⟩
end Go.Proofs.Ytkhpheebjkbihaa
