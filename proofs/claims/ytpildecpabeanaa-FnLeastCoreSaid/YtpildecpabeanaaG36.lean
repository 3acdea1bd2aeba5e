/-
  Chapter 5: the program's AddsOf; both sides of PivotPays and AddsOf.
-/
import Derived.Test.YtpildecpabeanaaG35
import Derived.Test.YtpildecpabeanaaG29
import Derived.Test.YtpildecpabeanaaG34
import Derived.Test.YtpildecpabeanaaG33
namespace Go.Proofs.Ytpildecpabeanaa
open Go.RowKit

theorem PivotPays_any (A : Option Addr) (c : Nat) (ts : List (List Int)) (w : World) (h : RdR w A c ts) (hl2 : ∀ r ∈ ts, r.length ≤ 1099511627776) :
    Calls Try.prog 31 #[.slice A ts.length c] w (LsIs w (piF ts)) := by
  by_cases hv : VTs ts
  · rw [show piF ts = vls (pvF ts) ts.length from if_pos hv]
    exact (PivotPays_yes A c ts.length ts w rfl h hl2 hv).mono fun _ _ h => h.ls
  · have HC := Lib.hid (areTables_any A c ts w h hl2)
    rw [vtsB_false hv] at HC
    rw [show piF ts = [] from if_neg hv]
    clear hv hl2 h
    go_enter Try.func31, Try.ntmps31
    go_wp2_with (go_at_call 77; refine HC.out.mono ?_; rintro e w1 ⟨rfl, b1⟩)
    go_ret
    exact ⟨none, 0, rfl, own_none _ _, b1⟩

set_option maxHeartbeats 2000000 in
theorem AddsOf_yes (A : Option Addr) (c n : Nat) (ts : List (List Int)) (w : World) (hn : ts.length = n) (hR : RdR w A c ts) (hl2 : ∀ r ∈ ts, r.length ≤ 1099511627776) (hv : VTs ts) :
    Calls Try.prog 41 #[.slice A n c] w (ValsIs w (adF ts) n) := by
  have h1l : 1 ≤ n := by rw [← hn]; exact hv.1.1
  have h4 : n ≤ 4 := by rw [← hn]; exact hv.1.2
  have HCT := Lib.hid (areTables_any A c ts w hR hl2)
  rw [vtsB_true hv, hn] at HCT
  have HBS := Lib.hid (fun (W : World) (hW : Below w.heap.size w W) => SplitWorth_any A c ts 7 W (hR.below hW) hl2)
  have hM : spF ts 7 = sv ts 7 := by unfold spF; rw [if_pos ⟨vtsB_true hv, by omega, by omega⟩]; rfl
  rw [hM, hn] at HBS
  obtain ⟨M, hMM⟩ : ∃ M, M = sv ts 7 := ⟨_, rfl⟩
  have hM0 := sv_nonneg ts 7
  have hM1 := sv_bd hv.2 7 (by omega)
  rw [← hMM] at HBS hM0 hM1
  obtain ⟨b, off, rfl, hcapR, _⟩ := hR.open_ (by rw [hn]; exact h1l)
  obtain ⟨vs, hvs, hcell⟩ := hR.vals
  obtain ⟨m, rfl⟩ : ∃ m, n = m + 1 := ⟨n - 1, by omega⟩
  have hcm : m + 1 ≤ c := by rw [← hn]; exact hR.1
  have HWW := Lib.hid (fun (W : World) (hW : Below w.heap.size w W) => worthWithout_any w b off c m vs ts W (by omega) hvs hcell hW)
  have HWO := Lib.hid (fun (W : World) (i p q g : Nat) (h : WoAt w b off c m p q g vs ts W) (hi : i < m + 1) => Wo_any w b off c m p q g i vs ts W h hv.2 hn (by omega) hi hcm)
  have HV := Lib.hid hv
  have HN := Lib.hid hn
  obtain ⟨f, hf⟩ : ∃ f, f = adF ts := ⟨_, rfl⟩
  have HF := Lib.hid hf
  rw [← hf]
  have HM := Lib.hid hMM
  rw [hn] at hM1
  clear hv hn hl2 hvs hcell hf hM hMM
  go_enter Try.func41, Try.ntmps41
  go_wp2_with fail
  refine HCT.out.mono ?_
  rintro e w1 ⟨rfl, b1⟩
  go_wp2_with fail
  refine (HBS.out w1 b1).mono ?_
  rintro e w2 ⟨rfl, b2⟩
  have B2 := b1.trans (b2.mono b1.size)
  go_wp2_with fail
  refine (HWW.out w2 B2).mono ?_
  rintro e w3 ⟨p, q, g, rfl, hwo, b3, ⟨hp0, hq0, hg0⟩, hp1, hq1, hg1⟩
  have B3 := B2.trans (b3.mono B2.size)
  go_wp2_with (at_make; refine wpList_make_ints rfl _ _ rfl w3.heap.size (m + 1) rfl rfl (by omega) (by simp) ?_; intro w4 o4 b4)
  have HO4 : Hid (Own w4 w3.heap.size (some ⟨w3.heap.size, 0, none⟩) (m + 1) (filled (vls f (m + 1)) 0)) := Lib.hid (by rw [filled_zero, vls_len]; exact o4)
  have hws : w.heap.size ≤ w3.heap.size := B3.size
  have HW4 := Lib.hid (hwo.belowW b4)
  obtain ⟨g4, hg4⟩ : ∃ g4, g4 = w3.heap.size := ⟨_, rfl⟩
  rw [← hg4] at HO4 hws hp1 hq1 hg1 ⊢
  clear o4 hwo b1 b2 b3 b4 B2 B3 hg4 HWW HBS HCT
  go_loopw [19] (fun i wr => ∃ j : Nat, j ≤ m + 1 ∧ i = .int .i64 j ∧ Hid (Own wr g4 (some ⟨g4, 0, none⟩) (m + 1) (filled (vls f (m + 1)) j)) ∧ Hid (WoAt w b off c m p q g vs ts wr)) (fun i _ => m + 1 - (intOf i).toNat)
  case atStart => exact ⟨0, Nat.zero_le _, rfl, HO4, HW4⟩
  case round =>
    obtain ⟨j, hj, rfl, HO, HW⟩ := hrel
    by_cases hlt : j < m + 1
    · have hel : (ts.eraseIdx j).length = m := by rw [erase_len (by rw [HN.out]; exact hlt), HN.out]; omega
      have hev : ∀ t ∈ ts.eraseIdx j, VT t := fun t ht => HV.out.2 t (mem_erase ht)
      have hsv0 := sv_nonneg (ts.eraseIdx j) 7
      have hsv1 := sv_bd hev 7 (by omega)
      rw [hel] at hsv1
      have HC := Lib.hid (HWO.out wr j p q g HW.out hlt)
      unfold WoIs at HC
      obtain ⟨U, hU⟩ : ∃ U, U = sv (ts.eraseIdx j) 7 := ⟨_, rfl⟩
      rw [← hU] at hsv0 hsv1 HC
      have hU1 : U ≤ 90 := by omega
      have HFE : Hid (M - U = f j) := Lib.hid (by rw [HF.out]; unfold adF; rw [hU, HM.out])
      have e1 : IntKind.i64.wrap (M - U) = M - U := IntWalk.i64_in _ (by omega)
      have hjl : j < (filled (vls f (m + 1)) j).length := by rw [filled_len _ _ (by rw [vls_len]; exact hj), vls_len]; exact hlt
      obtain ⟨y, hy⟩ := at_some hjl
      have HY := Lib.hid hy
      have hne1 : g4 ≠ g := by omega
      clear hev hU hsv1 hel hjl hy
      go_wp2_with fail
      refine HC.out.mono ?_
      rintro e w5 ⟨rfl, gr5, hw5⟩
      have HO5 : Own w5 g4 (some ⟨g4, 0, none⟩) (m + 1) (filled (vls f (m + 1)) j) := HO.out.kept_ (A2 := some ⟨g, 0, none⟩) gr5 (.inr (fun e => hne1 (by have := Option.some.inj e; exact this)))
      have hc5 := HO5.cell HY.out
      have hf5 := HO5.free j
      have hst : w5.grownBy (w5.setCell ⟨g4, j, none⟩ (.int .i64 (M - U))) (some g4) := (World.ownsRow.stored HO5 j (.int .i64 (M - U))).2
      have HP6 : Hid (Own (w5.setCell ⟨g4, j, none⟩ (.int .i64 (M - U))) g4 (some ⟨g4, 0, none⟩) (m + 1) (filled (vls f (m + 1)) (j + 1))) := Lib.hid (by
        have h := HO5.set_ j (M - U)
        rw [HFE.out, filled_set _ _ _ (vls_at hlt)] at h
        rw [HFE.out]; exact h)
      have HW6 := Lib.hid (hw5.grown hst hws (by omega) (by omega) (by omega))
      clear hst HO5 hw5 gr5
      go_wp2
      go_roundw
      case rel => exact ⟨j + 1, by omega, by go_num, HP6, HW6⟩
      case measure => simp [intOf]; omega
    · obtain rfl : j = m + 1 := by omega
      have HE : Hid (Own wr w.heap.size (some ⟨g4, 0, none⟩) (m + 1) (vls f (m + 1))) := Lib.hid (by
        have h1 := filled_all (vls f (m + 1))
        rw [vls_len] at h1
        have h2 := HO.out
        rw [h1] at h2
        exact h2.base hws)
      go_wp2
      go_ret
      exact ⟨g4, _, rfl, HE.out, HW.out.below⟩

theorem AddsOf_any (A : Option Addr) (c : Nat) (ts : List (List Int)) (w : World) (h : RdR w A c ts) (hl2 : ∀ r ∈ ts, r.length ≤ 1099511627776) :
    Calls Try.prog 41 #[.slice A ts.length c] w (LsIs w (adL ts)) := by
  by_cases hv : VTs ts
  · rw [show adL ts = vls (adF ts) ts.length from if_pos hv]
    exact (AddsOf_yes A c ts.length ts w rfl h hl2 hv).mono fun _ _ h => h.ls
  · have HC := Lib.hid (areTables_any A c ts w h hl2)
    rw [vtsB_false hv] at HC
    rw [show adL ts = [] from if_neg hv]
    clear hv hl2 h
    go_enter Try.func41, Try.ntmps41
    go_wp2_with (go_at_call 77; refine HC.out.mono ?_; rintro e w1 ⟨rfl, b1⟩)
    go_ret
    exact ⟨none, 0, rfl, own_none _ _, b1⟩

theorem PivotPays_both (rows : List (List Int)) : ∃ zs : List Int, zs.length ≤ 1000 ∧ (rows.length ≤ 1099511627776 → (∀ r ∈ rows, r.length ≤ 1099511627776) →
    (∀ A c w, RdR w A c rows → Calls Try.prog 39 #[.slice A rows.length c] w (LsIs w zs)) ∧
    (∀ A c w, RdR w A c rows → Calls Try.prog 31 #[.slice A rows.length c] w (LsIs w zs))) :=
  ⟨piF rows, piF_len rows, fun hl hl2 => ⟨fun A c w h => SPivotPays_any A c rows w h hl hl2, fun A c w h => PivotPays_any A c rows w h hl2⟩⟩
end Go.Proofs.Ytpildecpabeanaa

/-
  The laws of chapter 9: the walk of FnLeastCore.
-/
namespace Go.Proofs.Ytpildecpabeanaa
open Go.RowKit Go.Lib

theorem lc_conc {rows : List (List Int)} (hv : VTs rows) (h3 : rows.length ≤ 3) (hl2 : ∀ r ∈ rows, r.length ≤ 1099511627776) :
    (∀ A c w, RdR w A c rows → Calls Try.prog 34 #[.slice A rows.length c] w fun e w' => ∃ A c, e = .returned (.tuple #[.slice A (lcF rows).length c, .int .i64 (sm4 (at0 (lcF rows)))]) ∧ Rd w' A c (lcF rows) ∧ Below w.heap.size w w') ∧
    (∀ A c w, RdR w A c rows → Calls Try.prog 33 #[.slice A rows.length c] w fun e w' => ∃ A c, e = .returned (.tuple #[.slice A (lcF rows).length c, .int .i64 (sm4 (at0 (lcF rows)))]) ∧ Rd w' A c (lcF rows) ∧ Below w.heap.size w w') := by
  have h4 : rows.length ≤ 4 := by omega
  refine ⟨fun A c w h => (SLeastCore_any A c rows w h (by omega) hl2).mono ?_, fun A c w h => (LeastCore_any A c rows w h hl2).mono ?_⟩
  · rintro e w' ⟨hb, ⟨_, A', c', l, rfl, hr, hll, hlc⟩ | ⟨hn, _⟩⟩
    · have e := lc_eq hv.2 h4 hll hlc
      subst e
      exact ⟨A', c', rfl, hr, hb⟩
    · exact absurd ⟨hv, h3⟩ hn
  · rintro e w' ⟨hb, ⟨_, M, b, rfl, hpm, hM, hlc⟩ | ⟨hn, _⟩⟩
    · have hs := hlc.same hv.2 (lcF_is hv.2 h4)
      have hsum : sm4 b = sm4 (at0 (lcF rows)) := by
        unfold sm4
        rw [hs 0 (by omega), hs 1 (by omega), hs 2 (by omega), hs 3 (by omega)]; rfl
      have hlist : lcF rows = (pmL b).take rows.length := by
        apply List.ext_getElem?
        intro i
        rcases Nat.lt_or_ge i rows.length with h' | h'
        · have e1 : i < (lcF rows).length := by rw [lcF_len hv.2 h4]; exact h'
          have e2 := hs i (by omega)
          rw [List.getD_eq_getElem?_getD, List.getElem?_eq_getElem e1, Option.getD_some] at e2
          rw [List.getElem?_eq_getElem e1, List.getElem?_take_of_lt h', ← e2]
          have : i = 0 ∨ i = 1 ∨ i = 2 ∨ i = 3 := by omega
          rcases this with rfl | rfl | rfl | rfl <;> rfl
        · rw [List.getElem?_eq_none (by rw [lcF_len hv.2 h4]; exact h'), List.getElem?_eq_none (by rw [List.length_take]; omega)]
      have hpm' : Pm w' M (lcF rows ++ (pmL b).drop rows.length) := by rw [hlist, List.take_append_drop]; exact hpm
      exact ⟨_, 4, by rw [lcF_len hv.2 h4, hsum], pm_rd hpm' (by rw [lcF_len hv.2 h4]; omega) 4, hb⟩
    · exact absurd ⟨hv, h3⟩ hn

theorem lc_none {rows : List (List Int)} (hv : ¬ (VTs rows ∧ rows.length ≤ 3)) (hl : rows.length ≤ 1099511627776) (hl2 : ∀ r ∈ rows, r.length ≤ 1099511627776) :
    (∀ A c w, RdR w A c rows → Calls Try.prog 34 #[.slice A rows.length c] w fun e w' => e = .returned (.tuple #[.slice none 0 0, .int .i64 (-1)]) ∧ Below w.heap.size w w') ∧
    (∀ A c w, RdR w A c rows → Calls Try.prog 33 #[.slice A rows.length c] w fun e w' => e = .returned (.tuple #[.slice none 0 0, .int .i64 (-1)]) ∧ Below w.heap.size w w') := by
  refine ⟨fun A c w h => (SLeastCore_any A c rows w h hl hl2).mono ?_, fun A c w h => (LeastCore_any A c rows w h hl2).mono ?_⟩
  · rintro e w' ⟨hb, ⟨hy, _⟩ | ⟨_, rfl⟩⟩
    · exact absurd hy hv
    · exact ⟨rfl, hb⟩
  · rintro e w' ⟨hb, ⟨hy, _⟩ | ⟨_, rfl⟩⟩
    · exact absurd hy hv
    · exact ⟨rfl, hb⟩

theorem vls_sum (f : Nat → Int) : ∀ n, (vls f n).sum = smF f n
  | 0 => rfl
  | n + 1 => by rw [vls_more, List.sum_append, vls_sum f n, smF]; simp
/-- What the law says of the least core of tables. -/
structure LcSays (rows : List (List Int)) (zs ps : List Int) (m sp : Int) (ib nb : Bool) : Prop where
  zlen : zs.length ≤ 3
  plen : ps.length ≤ 3
  m0 : 0 ≤ m
  mbd : m ≤ 1000
  zsum : zs.sum = m
  psum : ps.sum = sp
  zabs : Abs2 zs
  pabs : Abs2 ps
  inz : icoB rows zs = true
  inp : icoB rows ps = ib
  nes : nsB rows = nb
  pis : piF rows = ps
  le : sp ≤ m
  iff : ib = decide (m = sp)
  imp : nb = true → ib = true
theorem lc_says {rows : List (List Int)} (hv : VTs rows) (h3 : rows.length ≤ 3) : ∃ ps sp ib nb, LcSays rows (lcF rows) ps (sm4 (at0 (lcF rows))) sp ib nb := by
  have h4 : rows.length ≤ 4 := by omega
  have hlc := lcF_is hv.2 h4
  have hlen := lcF_len hv.2 h4
  have hp : piF rows = vls (pvF rows) rows.length := by unfold piF; rw [if_pos hv]
  obtain ⟨hle, hiff⟩ := lc_pivots hv.2 h4 hlc
  have hall := hlc.1.all hv.2
  have hfour : smF (fun i => (lcF rows).getD i 0) rows.length = sm4 (at0 (lcF rows)) := smF_four hlc.1 h4
  have hsm : sm4 (at0 (lcF rows)) = (lcF rows).sum := sum_four (hd := lcF rows) (by omega)
  have hzb : ∀ x ∈ lcF rows, 0 ≤ x ∧ x ≤ 30 := fun x hx => by
    obtain ⟨i, hi, rfl⟩ := List.getElem_of_mem hx
    have := hlc.1 i (by omega)
    have hb := ow4_bd hv.2 i
    dsimp only at this
    rw [List.getD_eq_getElem?_getD, List.getElem?_eq_getElem hi, Option.getD_some] at this
    omega
  have hpb : ∀ x ∈ vls (pvF rows) rows.length, 0 ≤ x ∧ x ≤ 30 := fun x hx => by
    obtain ⟨i, hi, rfl⟩ := List.mem_map.1 hx
    exact pv_bd hv.2 h4 (List.mem_range.1 hi)
  have hinp : InC rows (at0 (vls (pvF rows) rows.length)) ↔ InC rows (pvF rows) :=
    ⟨fun h => h.congr (fun i hi => at0_of (vls_at hi)), fun h => h.congr (fun i hi => (at0_of (vls_at hi)).symm)⟩
  refine ⟨vls (pvF rows) rows.length, smF (pvF rows) rows.length, icoB rows (vls (pvF rows) rows.length), nsB rows, ?_, ?_, ?_, ?_, hsm.symm, vls_sum _ _, ?_, ?_, ?_, rfl, rfl, hp, ?_, ?_, ?_⟩
  · omega
  · rw [vls_len]; omega
  · unfold sm4; simp only [at0]; omega
  · unfold sm4; simp only [at0]; omega
  · exact fun x hx => by have := hzb x hx; omega
  · exact fun x hx => by have := hpb x hx; omega
  · exact icoB_true ⟨hv, hlen, hzb, hlc.2.1⟩
  · rw [← hfour]; exact hle
  · have key : icoB rows (vls (pvF rows) rows.length) = true ↔ sm4 (at0 (lcF rows)) = smF (pvF rows) rows.length := by
      rw [icoB_iff, ← hfour, ← hiff]
      exact ⟨fun h => hinp.1 h.2.2.2, fun h => ⟨hv, vls_len _ _, hpb, hinp.2 h⟩⟩
    by_cases he : sm4 (at0 (lcF rows)) = smF (pvF rows) rows.length
    · rw [key.2 he, decide_eq_true he]
    · rw [decide_eq_false he]
      cases hb : icoB rows (vls (pvF rows) rows.length) with
      | false => rfl
      | true => exact absurd (key.1 hb) he
  · intro hn
    unfold nsB at hn
    rw [Bool.and_eq_true] at hn
    exact icoB_true ⟨hv, vls_len _ _, hpb, hinp.2 (nes_pivots hv.2 h4 (neB_iff.1 hn.2))⟩

end Go.Proofs.Ytpildecpabeanaa

/-
  The laws of chapter 9: what FnLeastCore draws.
-/
namespace Go.Proofs.Ytpildecpabeanaa
open Go.RowKit Go.Lib

set_option maxHeartbeats 4000000 in
set_option maxRecDepth 100000 in
theorem someTables3_any (rb k : Nat) (w : World) (h : Rdr w rb k) (hk : k + 250 ≤ 1000000) :
    Calls Try.prog 72 #[.pointer (some ⟨rb, 0, none⟩), .int .i64 3] w (TablesIs w rb (k + 170)) := by
  obtain ⟨i0, hi, hz0, hz1, hz2⟩ := info_parts intsU_info
  have hl := h.lt
  have HE := Lib.hid (rowsU_empty w)
  have HL : Hid (Own ((w.alloc (.cells #[] 23)).alloc (.cells #[.int .i64 2, .int .i64 3, .int .i64 2, .int .i64 1, .int .i64 0, .int .i64 3] 3)) (w.heap.size + 1) (some ⟨w.heap.size + 1, 0, none⟩) 6 [2, 3, 2, 1, 0, 3]) := Lib.hid (by
    have := own_lit (w.alloc (.cells #[] 23)) [2, 3, 2, 1, 0, 3] (by decide)
    rw [World.size_alloc] at this
    exact this)
  have HR := Lib.hid ((h.alloc (.cells #[] 23)).alloc (.cells #[.int .i64 2, .int .i64 3, .int .i64 2, .int .i64 1, .int .i64 0, .int .i64 3] 3))
  have HG : Hid (w.grownBy ((w.alloc (.cells #[] 23)).alloc (.cells #[.int .i64 2, .int .i64 3, .int .i64 2, .int .i64 1, .int .i64 0, .int .i64 3] 3)) (some rb)) := Lib.hid (gb_alloc (World.grownBy_alloc w _ (some rb)) _)
  have HO : Hid (RowsU ((w.alloc (.cells #[] 23)).alloc (.cells #[.int .i64 2, .int .i64 3, .int .i64 2, .int .i64 1, .int .i64 0, .int .i64 3] 3)) w.heap.size (.slice (some ⟨w.heap.size, 0, none⟩) 0 0) []) := Lib.hid (HE.out.below ((Below.refl _ _).alloc (Nat.le_refl _) _))
  have hl2 : w.heap.size + 1 ≠ rb := by omega
  clear HE
  go_enter Try.func72, Try.ntmps72
  go_wp2_with fail
  refine (one_any rb k (w.heap.size + 1) 6 6 (w.heap.size + 1) [2, 3, 2, 1, 0, 3] _ rfl HR.out HL.out hl2 (by decide) (by decide) (by omega)).mono ?_
  rintro e w1 ⟨most, hmo, rfl, hr1, hg1⟩
  have hm0 : 0 ≤ most := by simp only [List.mem_cons, List.not_mem_nil, or_false] at hmo; omega
  have hm1 : most ≤ 4 := by simp only [List.mem_cons, List.not_mem_nil, or_false] at hmo; omega
  have ho1 := HO.out.ask hg1 hl
  have gg1 := HG.out.trans hg1
  obtain ⟨S, hS⟩ : ∃ S, S = w.heap.size := ⟨_, rfl⟩
  have HSS := Lib.hid hS
  rw [← hS] at ho1 hl
  clear hmo HR HG HO HL hg1 hl2
  go_wp2_with fail
  rw [← hS]
  clear hS
  go_loopw [5] (fun v wr => ∃ (ps : List (Nat × Nat × List Int)), ps.length ≤ 4 ∧ (∃ g c, v = .slice (some ⟨g, 0, none⟩) ps.length c) ∧ Hid (∀ p ∈ ps, p.2.2.length ≤ 8) ∧ RowsU wr S v ps ∧ Rdr wr rb (k + 1 + 30 * ps.length) ∧ w.grownBy wr (some rb))
    (fun v _ => 4 - lenW v)
  case atStart => exact ⟨[], Nat.zero_le _, ⟨S, 0, rfl⟩, Lib.hid (fun _ h => absurd h (by simp)), ho1, hr1, gg1⟩
  case round =>
    obtain ⟨ps, hps, ⟨g, c, rfl⟩, HP, hR, hr, hg⟩ := hrel
    by_cases hlt : (ps.length : Int) < most
    · have hp4 : ps.length < 4 := by omega
      have HRW := Lib.hid hR
      go_wp2_with fail
      refine (goodTable_any rb (k + 1 + 30 * ps.length) wr hr (by omega)).mono ?_
      rintro e w2 ⟨g2, c2, ys, rfl, hy8, _, o2, hr2, hg2⟩
      have hy : ys.length ≤ 8 := by omega
      have e8 : slU (g2, c2, ys) = .slice (some ⟨g2, 0, none⟩) 8 c2 := by show Value.slice _ ys.length _ = _; rw [hy8]
      have E8 := Lib.hid e8
      clear hy8
      have hR2 := HRW.out.ask hg2 hl
      have gg2 := hg.trans hg2
      have hnot := HRW.out.notIn (Nat.le_refl _) o2
      have HN := Lib.hid hnot
      have hS2 : S ≤ wr.heap.size := by rw [HSS.out]; exact hg.size
      have HT := Lib.hid (own_len hR2.row ((Below.refl _ w2).alloc (Nat.le_refl _) (.cells #[.slice (some ⟨g2, 0, none⟩) 8 c2] 23)))
      have hb63 : ps.length + 1 ≤ maxLen := by unfold maxLen; omega
      have hSz : S ≤ w2.heap.size + 1 := by have := hg2.size; omega
      clear hR hnot e8
      go_wp2_with (at_builtin; (refine wpList_append_own _ rfl _ _ 35 rfl S 23 i0 (.slice none 0 0) 1 24 Try.underlying35 hi hz0 hz1 hz2 rfl (by decide) (.slice (some ⟨g, 0, none⟩) ps.length c) ps.length (ps.map slU) rfl HT.out ⟨w2.heap.size, 0, none⟩ 1 1 [.slice (some ⟨g2, 0, none⟩) 8 c2] rfl rfl (cell_one_new _ _ _) (by simp [Value.oneCell']) hb63 (by omega) (by simpa using hSz) ?_; intro v5 w5 hown5 hg5 _))
      rw [← E8.out] at hown5
      have R5 : RowsU w5 S v5 (ps ++ [(g2, c2, ys)]) := hR2.more (p := (g2, c2, ys)) (o2.base hS2) HN.out hown5 hg5
      have hgeg : S ≤ g := (World.ownsRow.lt hR2.row g rfl).1
      have hr5 := (hr2.alloc (.cells #[.slice (some ⟨g2, 0, none⟩) 8 c2] 23)).grown (g := g) hg5 (by omega)
      have gg5 := gb_new (g := g) (gb_alloc gg2 (.cells #[.slice (some ⟨g2, 0, none⟩) 8 c2] 23)) hg5 (by rw [← HSS.out]; exact hgeg)
      obtain ⟨g5, c5, rfl⟩ := R5.one (by simp)
      have HP5 : Hid (∀ p ∈ ps ++ [(g2, c2, ys)], p.2.2.length ≤ 8) := Lib.hid (by
        intro p hp
        rcases List.mem_append.1 hp with hp | hp
        · exact HP.out p hp
        · obtain rfl : p = (g2, c2, ys) := by simpa using hp
          exact hy)
      have hlp : (ps ++ [(g2, c2, ys)]).length = ps.length + 1 := by simp
      have HLP := Lib.hid hlp
      clear hown5 hg5 hR2 HT o2 hlp
      go_roundw
      case rel => exact ⟨ps ++ [(g2, c2, ys)], by rw [HLP.out]; omega, ⟨g5, c5, rfl⟩, HP5, R5, hr5.more (by rw [HLP.out]; omega), gg5⟩
      case measure => simp [lenW]; omega
    · cases ps with
      | nil =>
        have hz : ¬ (0 : Int) < (([] : List (Nat × Nat × List Int)).length : Int) := by simp
        have HR0 := Lib.hid hR
        clear hR
        go_wp2
        go_ret
        exact ⟨_, [], rfl, HR0.out.base (by rw [HSS.out]; exact Nat.le_refl _), by simp, (fun _ h => absurd h (by simp)), hr.more (by simp), hg⟩
      | cons p rs =>
        obtain ⟨L, hL⟩ : ∃ L, L = (p :: rs).length := ⟨_, rfl⟩
        have hL0 : (0 : Int) < (L : Int) := by rw [hL]; simp
        have HLL := Lib.hid hL
        rw [← hL] at hr hps hlt ⊢
        have HRW := Lib.hid hR
        have hR' := hR
        rw [← hL] at hR'
        clear hR hL hR'
        go_wp2_with fail
        refine (pick_any rb (k + 1 + 30 * L) 40 wr hr (by omega) (by decide) (by decide)).mono ?_
        rintro e w2 ⟨m, rfl, hm2, _, hr2, hg2⟩
        have gg2 := hg.trans hg2
        have hR2 := HRW.out.ask hg2 hl
        by_cases hm : m = 0
        · have hmb : (m == 0) = true := by simpa using hm
          clear hm
          go_wp2_with fail
          refine (someTable_any rb (k + 1 + 30 * L + 1) w2 hr2 (by omega)).mono ?_
          rintro e w3 ⟨g3, c3, zs, rfl, hz8, o3, hr3, hg3⟩
          have hR3 := hR2.ask hg3 hl
          have gg3 := gg2.trans hg3
          have hS2 : S ≤ w2.heap.size := by rw [HSS.out]; exact gg2.size
          have HN3 := Lib.hid (hR2.notIn (Nat.le_refl _) o3)
          have hc0 : w3.cell? ⟨g, 0, none⟩ = some (slU p) := World.ownsRow.cellAt hR3.row 0 (by simp)
          have hf0 : w3.frozen? ⟨g, 0, none⟩ = false := World.ownsRow.frozenAt hR3.row 0
          have HPUT := Lib.hid (hR3.put (q := (g3, c3, zs)) (o3.base hS2) HN3.out)
          have hSg : S ≤ g := (World.ownsRow.lt hR3.row g rfl).1
          have HR4 := Lib.hid (hr3.set_ (g := g) (i := 0) (v := slU (g3, c3, zs)) (by omega))
          have HG4 := Lib.hid (gb_set (g := g) (i := 0) (v := slU (g3, c3, zs)) gg3 (by rw [← HSS.out]; exact hSg))
          have HQ : Hid (∀ q ∈ ((g3, c3, zs) :: rs), q.2.2.length ≤ 8) := Lib.hid (fun q hq => by
            rcases List.mem_cons.1 hq with rfl | hq
            · exact hz8
            · exact HP.out q (by simp [hq]))
          clear hR2 hR3 o3 hg3
          go_wp2
          go_ret
          exact ⟨_, (g3, c3, zs) :: rs, by rw [HLL.out]; rfl, HPUT.out.base (by rw [HSS.out]; exact Nat.le_refl _), by have := HLL.out; simp at this ⊢; omega, HQ.out, HR4.out.more (by omega), HG4.out⟩
        · have hmb : (m == 0) = false := by simpa using hm
          have HRF := Lib.hid (hR2.base (B' := w.heap.size) (by rw [HSS.out]; exact Nat.le_refl _))
          clear hm hR2
          go_wp2
          go_ret
          exact ⟨_, p :: rs, by rw [HLL.out]; rfl, HRF.out, by rw [← HLL.out]; exact hps, HP.out, hr2.more (by omega), gg2⟩

set_option maxRecDepth 100000 in
theorem DrawLeastCore_any (A : Option Addr) (c : Nat) (xs : List Int) (w : World) (h : Came .u8 w A c xs) :
    Calls Try.prog 32 #[.slice A xs.length c] w (DrawnTs w) := by
  go_enter Try.func32, Try.ntmps32
  go_wp2_with fail
  refine (newReader_any A c xs w h).mono ?_
  rintro e w1 ⟨rb, rfl, hrb, hr1, hb1⟩
  go_wp2_with fail
  refine (pick_any rb 0 2 w1 hr1 (by decide) (by decide) (by decide)).mono ?_
  rintro e w2 ⟨m, rfl, hm2, _, hr2, hg2⟩
  have B2 := hb1.trans (gb_below hg2 hb1.size hrb)
  by_cases hm : m = 0
  · have hmb : (m == 0) = true := by simpa using hm
    clear hm
    go_wp2_with fail
    refine (easyTables_any rb 1 w2 hr2 (by decide)).mono ?_
    rintro e w3 ⟨v, ps, rfl, R3, hp4, hp8, hr3, hg3⟩
    have B3 := B2.trans (gb_below hg3 B2.size hrb)
    have H6 := Lib.hid (eight_map hp4 hp8)
    have HLN : Hid (ps.length = (ps.map (·.2.2)).length) := Lib.hid (by rw [List.length_map])
    obtain ⟨A2, c2, rfl, hR3⟩ := R3.rdr rfl
    clear hp8 hg3 R3 hg2 hmb
    go_wp2
    go_ret
    exact ⟨A2, c2, ps.map (·.2.2), by rw [← HLN.out]; rfl, hR3, H6.out.1, H6.out.2, B3⟩
  · have hmb : (m == 0) = false := by simpa using hm
    clear hm
    go_wp2_with fail
    refine (someTables3_any rb 1 w2 hr2 (by decide)).mono ?_
    rintro e w3 ⟨v, ps, rfl, R3, hp4, hp8, hr3, hg3⟩
    have B3 := B2.trans (gb_below hg3 B2.size hrb)
    have H6 := Lib.hid (eight_map hp4 hp8)
    have HLN : Hid (ps.length = (ps.map (·.2.2)).length) := Lib.hid (by rw [List.length_map])
    obtain ⟨A2, c2, rfl, hR3⟩ := R3.rdr rfl
    clear hp8 hg3 R3 hg2 hmb
    go_wp2
    go_ret
    exact ⟨A2, c2, ps.map (·.2.2), by rw [← HLN.out]; rfl, hR3, H6.out.1, H6.out.2, B3⟩

end Go.Proofs.Ytpildecpabeanaa

/-
  The laws of chapter 9: the walk of FnLeastCore.
-/
namespace Go.Proofs.Ytpildecpabeanaa
open Go.RowKit Go.Lib

set_option maxHeartbeats 8000000 in
set_option maxRecDepth 100000 in
theorem fnLeastCore_walk {A : Option Addr} {c : Nat} {xs : List Int} {w : World} (h : Came .u8 w A c xs) :
    Calls Try.prog 9 #[.slice A xs.length c] w fun e w' => e = .returned (.bool true) ∧ Below w.heap.size w w' := by
  by_cases hlen : 1048576 < xs.length
  · go_enter Try.func9, Try.ntmps9
    go_wp2
    go_ret
    exact ⟨rfl, Below.refl _ _⟩
  have hl1 : xs.length ≤ 1048576 := by omega
  have HD := Lib.hid (DrawLeastCore_any A c xs w h)
  clear hlen h
  go_enter Try.func9, Try.ntmps9
  go_wp2_with fail
  refine HD.out.mono ?_
  rintro e w1 ⟨A1, c1, rows, rfl, hR, hl4, hl8, b1⟩
  have hl8' : ∀ r ∈ rows, r.length ≤ 1099511627776 := fun r hr => by have := hl8 r hr; omega
  clear HD hl8 hl1
  by_cases hv : VTs rows ∧ rows.length ≤ 3
  · obtain ⟨ps, sp, ib, nb, hs⟩ := lc_says hv.1 hv.2
    obtain ⟨hS, hI⟩ := lc_conc hv.1 hv.2 hl8'
    obtain ⟨zs, hz⟩ : ∃ zs, zs = lcF rows := ⟨_, rfl⟩
    obtain ⟨m, hm⟩ : ∃ m, m = sm4 (at0 (lcF rows)) := ⟨_, rfl⟩
    rw [← hm] at hs
    rw [← hz] at hs
    rw [← hm, ← hz] at hS hI
    have HS := Lib.hid hS
    have HI := Lib.hid hI
    have HPV := Lib.hid (fun w' (h : RdR w' A1 c1 rows) => (by have := PivotPays_any A1 c1 rows w' h hl8'; rwa [hs.pis] at this : Calls Try.prog 31 #[.slice A1 rows.length c1] w' (OwnIs w' ps)))
    have HIP := Lib.hid (fun B d w' (h : RdR w' A1 c1 rows) (g : Rd w' B d ps) => (by have := InCore_any A1 B c1 d rows ps w' h g hl8' (by have := hs.plen; omega); rwa [hs.inp] at this : Calls Try.prog 27 #[.slice A1 rows.length c1, .slice B ps.length d] w' fun e w'' => e = .returned (.bool ib) ∧ Below w'.heap.size w' w''))
    have HIZ := Lib.hid (fun B d w' (h : RdR w' A1 c1 rows) (g : Rd w' B d zs) => (by have := InCore_any A1 B c1 d rows zs w' h g hl8' (by have := hs.zlen; omega); rwa [hs.inz] at this : Calls Try.prog 27 #[.slice A1 rows.length c1, .slice B zs.length d] w' fun e w'' => e = .returned (.bool true) ∧ Below w'.heap.size w' w''))
    have HTZ := Lib.hid (fun B d w' (g : Rd w' B d zs) => (by have := totalU_any B d zs w' g (by have := hs.zlen; omega) hs.zabs; rwa [hs.zsum] at this : Calls Try.prog 36 #[.slice B zs.length d] w' fun e w'' => e = .returned (.int .i64 m) ∧ w' = w''))
    have HTP := Lib.hid (fun B d w' (g : Rd w' B d ps) => (by have := totalU_any B d ps w' g (by have := hs.plen; omega) hs.pabs; rwa [hs.psum] at this : Calls Try.prog 36 #[.slice B ps.length d] w' fun e w'' => e = .returned (.int .i64 sp) ∧ w' = w''))
    have HNE := Lib.hid (fun w' (h : RdR w' A1 c1 rows) => (by have := IsNested_any A1 c1 rows w' h hl8'; rwa [hs.nes] at this : Calls Try.prog 37 #[.slice A1 rows.length c1] w' fun e w'' => e = .returned (.bool nb) ∧ Below w'.heap.size w' w''))
    have hzl : zs.length ≤ 3 := hs.zlen
    have hmm : (m != m) = false := by simp
    have hm0 : decide (m < 0) = false := decide_eq_false (by have := hs.m0; omega)
    have hms : decide (sp ≤ m) = true := decide_eq_true hs.le
    have hme : (m == m) = true := by simp
    have hif := hs.iff
    have him := hs.imp
    clear hS hI hz hm hs hv hl8'
    by_cases he : m = sp
    · have hb1 : (m == sp) = true := by simpa using he
      obtain rfl : ib = true := by rw [hif]; exact decide_eq_true he
      clear hif him he
      go_wp2_with fail
      refine (HI.out A1 c1 w1 hR).mono ?_
      rintro e w2 ⟨A2, c2, rfl, r2, b2⟩
      have B2 := below_then b1 b2
      have hR2 := hR.below b2
      have HZ2 := Lib.hid r2
      clear b1 b2 hR r2 HI
      go_wp2_with fail
      refine (HS.out A1 c1 w2 hR2).mono ?_
      rintro e w3 ⟨A3, c3, rfl, r3, b3⟩
      have B3 := below_then B2 b3
      have hR3 := hR2.below b3
      have HZ3 := Lib.hid (HZ2.out.below b3)
      clear b3 hR2 B2 HZ2 HS
      go_wp2_with fail
      refine (equalU_any A2 A3 c2 c3 zs zs w3 HZ3.out r3 (by omega)).mono ?_
      rw [eqB_self]
      rintro e w4 ⟨rfl, n4, rfl⟩
      have B4 := below_drewN' B3 n4
      have hR4 := hR3.drewN n4
      have HZ4 := Lib.hid (HZ3.out.drewN n4)
      clear B3 hR3 HZ3 r3
      go_wp2_with fail
      refine (HPV.out _ hR4).mono ?_
      rintro e w5 ⟨A5, c5, rfl, o5, b5⟩
      have B5 := below_then B4 b5
      have hR5 := hR4.below b5
      have HZ5 := Lib.hid (HZ4.out.below b5)
      have HP5 := Lib.hid o5.rd
      clear B4 hR4 HZ4 b5 o5 HPV
      go_wp2_with fail
      refine (HIP.out A5 c5 w5 hR5 HP5.out).mono ?_
      rintro e w6 ⟨rfl, b6⟩
      have B6 := below_then B5 b6
      have hR6 := hR5.below b6
      have HZ6 := Lib.hid (HZ5.out.below b6)
      have HP6 := Lib.hid (HP5.out.below b6)
      clear B5 hR5 HZ5 HP5 b6
      go_wp2_with fail
      refine (HIZ.out A2 c2 w6 hR6 HZ6.out).mono ?_
      rintro e w7 ⟨rfl, b7⟩
      have B7 := below_then B6 b7
      have hR7 := hR6.below b7
      have HZ7 := Lib.hid (HZ6.out.below b7)
      have HP7 := Lib.hid (HP6.out.below b7)
      clear B6 hR6 HZ6 HP6 b7
      go_wp2_with fail
      refine (HTZ.out A2 c2 w7 HZ7.out).mono ?_
      rintro e w8 ⟨rfl, rfl⟩
      go_wp2_with fail
      refine (HTP.out A5 c5 w7 HP7.out).mono ?_
      rintro e w8 ⟨rfl, rfl⟩
      go_wp2_with fail
      refine (HTP.out A5 c5 w7 HP7.out).mono ?_
      rintro e w8 ⟨rfl, rfl⟩
      go_wp2_with fail
      refine (HNE.out w7 hR7).mono ?_
      rintro e w9 ⟨rfl, b9⟩
      have B9 := below_then B7 b9
      clear b9 B7 hR7 HZ7 HP7
      rcases nb with _ | _
      · go_wp2
        go_ret
        exact ⟨rfl, B9⟩
      · go_wp2
        go_ret
        exact ⟨rfl, B9⟩
    · have hb1 : (m == sp) = false := by simpa using he
      obtain rfl : ib = false := by rw [hif]; exact decide_eq_false he
      obtain rfl : nb = false := by cases nb with
        | false => rfl
        | true => exact absurd (him rfl) (by decide)
      clear hif him he
      go_wp2_with fail
      refine (HI.out A1 c1 w1 hR).mono ?_
      rintro e w2 ⟨A2, c2, rfl, r2, b2⟩
      have B2 := below_then b1 b2
      have hR2 := hR.below b2
      have HZ2 := Lib.hid r2
      clear b1 b2 hR r2 HI
      go_wp2_with fail
      refine (HS.out A1 c1 w2 hR2).mono ?_
      rintro e w3 ⟨A3, c3, rfl, r3, b3⟩
      have B3 := below_then B2 b3
      have hR3 := hR2.below b3
      have HZ3 := Lib.hid (HZ2.out.below b3)
      clear b3 hR2 B2 HZ2 HS
      go_wp2_with fail
      refine (equalU_any A2 A3 c2 c3 zs zs w3 HZ3.out r3 (by omega)).mono ?_
      rw [eqB_self]
      rintro e w4 ⟨rfl, n4, rfl⟩
      have B4 := below_drewN' B3 n4
      have hR4 := hR3.drewN n4
      have HZ4 := Lib.hid (HZ3.out.drewN n4)
      clear B3 hR3 HZ3 r3
      go_wp2_with fail
      refine (HPV.out _ hR4).mono ?_
      rintro e w5 ⟨A5, c5, rfl, o5, b5⟩
      have B5 := below_then B4 b5
      have hR5 := hR4.below b5
      have HZ5 := Lib.hid (HZ4.out.below b5)
      have HP5 := Lib.hid o5.rd
      clear B4 hR4 HZ4 b5 o5 HPV
      go_wp2_with fail
      refine (HIP.out A5 c5 w5 hR5 HP5.out).mono ?_
      rintro e w6 ⟨rfl, b6⟩
      have B6 := below_then B5 b6
      have hR6 := hR5.below b6
      have HZ6 := Lib.hid (HZ5.out.below b6)
      have HP6 := Lib.hid (HP5.out.below b6)
      clear B5 hR5 HZ5 HP5 b6
      go_wp2_with fail
      refine (HIZ.out A2 c2 w6 hR6 HZ6.out).mono ?_
      rintro e w7 ⟨rfl, b7⟩
      have B7 := below_then B6 b7
      have hR7 := hR6.below b7
      have HZ7 := Lib.hid (HZ6.out.below b7)
      have HP7 := Lib.hid (HP6.out.below b7)
      clear B6 hR6 HZ6 HP6 b7
      go_wp2_with fail
      refine (HTZ.out A2 c2 w7 HZ7.out).mono ?_
      rintro e w8 ⟨rfl, rfl⟩
      go_wp2_with fail
      refine (HTP.out A5 c5 w7 HP7.out).mono ?_
      rintro e w8 ⟨rfl, rfl⟩
      go_wp2_with fail
      refine (HTP.out A5 c5 w7 HP7.out).mono ?_
      rintro e w8 ⟨rfl, rfl⟩
      go_wp2_with fail
      refine (HNE.out w7 hR7).mono ?_
      rintro e w9 ⟨rfl, b9⟩
      have B9 := below_then B7 b9
      clear b9 B7 hR7 HZ7 HP7
      go_wp2
      go_ret
      exact ⟨rfl, B9⟩
  · obtain ⟨hS, hI⟩ := lc_none hv (by omega) hl8'
    have HS := Lib.hid (hS A1 c1)
    have HI := Lib.hid (hI A1 c1)
    have hq : ∀ w' : World, Calls Try.prog 35 #[.slice none 0 0, .slice none 0 0] w' (BoolIs w' true) := fun w' => by
      have := equalU_any none none 0 0 [] [] w' (Rd.nil _) (Rd.nil _) (by simp)
      rw [eqB_self] at this
      exact this
    have HQ := Lib.hid hq
    clear hS hI hv hq hl8'
    go_wp2_with fail
    refine (HI.out w1 hR).mono ?_
    rintro e w2 ⟨rfl, b2⟩
    have B2 := below_then b1 b2
    have hR2 := hR.below b2
    clear b1 b2 hR
    go_wp2_with fail
    refine (HS.out w2 hR2).mono ?_
    rintro e w3 ⟨rfl, b3⟩
    have B3 := below_then B2 b3
    clear b3 hR2 B2
    go_wp2_with fail
    refine (HQ.out w3).mono ?_
    rintro e w4 ⟨rfl, n4, rfl⟩
    go_wp2_with fail
    refine (HQ.out _).mono ?_
    rintro e w5 ⟨rfl, n5, rfl⟩
    go_wp2
    go_ret
    exact ⟨rfl, below_drewN' B3 (n4 + n5)⟩

end Go.Proofs.Ytpildecpabeanaa
