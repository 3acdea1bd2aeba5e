/-
  The generators of the laws of chapters 4 and 5: tables of bidders whose things may be moved.
-/
import Derived.Test.YtccbjgajmjcpjaaGQ
namespace Go.Proofs.Ytccbjgajmjcpjaa
open Go.RowKit Go.Lib

set_option maxHeartbeats 4000000 in
set_option maxRecDepth 100000 in
theorem easyTables_any (rb k : Nat) (w : World) (h : Rdr w rb k) (hk : k + 250 ≤ 1000000) :
    Calls Try.prog 66 #[.pointer (some ⟨rb, 0, none⟩)] w (TablesIs w rb (k + 170)) := by
  obtain ⟨i0, hi, hz0, hz1, hz2⟩ := info_parts intsU_info
  have hl := h.lt
  have HE := Lib.hid (rowsU_empty w)
  have HL : Hid (Own ((w.alloc (.cells #[] 24)).alloc (.cells #[.int .i64 2, .int .i64 3, .int .i64 1, .int .i64 2] 3)) (w.heap.size + 1) (some ⟨w.heap.size + 1, 0, none⟩) 4 [2, 3, 1, 2]) := Lib.hid (by
    have := own_lit (w.alloc (.cells #[] 24)) [2, 3, 1, 2] (by decide)
    rw [World.size_alloc] at this
    exact this)
  have HR := Lib.hid ((h.alloc (.cells #[] 24)).alloc (.cells #[.int .i64 2, .int .i64 3, .int .i64 1, .int .i64 2] 3))
  have HG : Hid (w.grownBy ((w.alloc (.cells #[] 24)).alloc (.cells #[.int .i64 2, .int .i64 3, .int .i64 1, .int .i64 2] 3)) (some rb)) := Lib.hid (gb_alloc (World.grownBy_alloc w _ (some rb)) _)
  have HO : Hid (RowsU ((w.alloc (.cells #[] 24)).alloc (.cells #[.int .i64 2, .int .i64 3, .int .i64 1, .int .i64 2] 3)) w.heap.size (.slice (some ⟨w.heap.size, 0, none⟩) 0 0) []) := Lib.hid (HE.out.below ((Below.refl _ _).alloc (Nat.le_refl _) _))
  have hl2 : w.heap.size + 1 ≠ rb := by omega
  clear HE
  go_enter Try.func66, Try.ntmps66
  go_wp2_with fail
  refine (one_any rb k (w.heap.size + 1) 4 4 (w.heap.size + 1) [2, 3, 1, 2] _ rfl HR.out HL.out hl2 (by decide) (by decide) (by omega)).mono ?_
  rintro e w1 ⟨most, hmo, rfl, hr1, hg1⟩
  have hm0 : 0 ≤ most := by simp only [List.mem_cons, List.not_mem_nil, or_false] at hmo; omega
  have hm1 : most ≤ 4 := by simp only [List.mem_cons, List.not_mem_nil, or_false] at hmo; omega
  have ho1 := HO.out.ask hg1 hl
  have gg1 := HG.out.trans hg1
  obtain ⟨S, hS⟩ : ∃ S, S = w.heap.size := ⟨_, rfl⟩
  have HSS := Lib.hid hS
  rw [← hS] at ho1 hl
  clear hmo HR HG HO HL hg1 hl2
  go_wp2_with fail
  rw [← hS]
  clear hS
  go_loopw [3] (fun v wr => ∃ (ps : List (Nat × Nat × List Int)), ps.length ≤ 4 ∧ (∃ g c, v = .slice (some ⟨g, 0, none⟩) ps.length c) ∧ Hid (∀ p ∈ ps, p.2.2.length ≤ 8) ∧ RowsU wr S v ps ∧ Rdr wr rb (k + 1 + 30 * ps.length) ∧ w.grownBy wr (some rb))
    (fun v _ => 4 - lenW v)
  case atStart => exact ⟨[], Nat.zero_le _, ⟨S, 0, rfl⟩, Lib.hid (fun _ h => absurd h (by simp)), ho1, hr1, gg1⟩
  case round =>
    obtain ⟨ps, hps, ⟨g, c, rfl⟩, HP, hR, hr, hg⟩ := hrel
    by_cases hlt : (ps.length : Int) < most
    · have hp4 : ps.length < 4 := by omega
      have HRW := Lib.hid hR
      clear hR
      go_wp2_with fail
      refine (pick_any rb (k + 1 + 30 * ps.length) 2 wr hr (by omega) (by decide) (by decide)).mono ?_
      rintro e w0 ⟨m, rfl, hm2, _, hr0, hg0⟩
      have hSw : S ≤ wr.heap.size := by rw [HSS.out]; exact hg.size
      have hR0 := HRW.out.ask hg0 hl
      have gg0 := hg.trans hg0
      have hs0 := hg0.size
      by_cases hm : m = 0
      · have hmb : (m == 0) = true := by simpa using hm
        clear hm
        go_wp2_with fail
        refine (oneTable_any rb (k + 1 + 30 * ps.length + 1) w0 hr0 (by omega)).mono ?_
        rintro e w2 ⟨g2, c2, ys, rfl, hy8, _, o2', hr2, hg2⟩
        have hR2 := hR0.ask hg2 hl
        have gg2 := gg0.trans hg2
        have HN := Lib.hid (hR0.notIn (Nat.le_refl _) o2')
        have o2 := o2'.base (show S ≤ w0.heap.size by omega)
        have hs2 := hg2.size
        clear o2' hg2 hR0 hmb
        have hy : ys.length ≤ 8 := by omega
        have e8 : slU (g2, c2, ys) = .slice (some ⟨g2, 0, none⟩) 8 c2 := by show Value.slice _ ys.length _ = _; rw [hy8]
        have E8 := Lib.hid e8
        clear hy8
        have HT := Lib.hid (own_len hR2.row ((Below.refl _ w2).alloc (Nat.le_refl _) (.cells #[.slice (some ⟨g2, 0, none⟩) 8 c2] 24)))
        have hb63 : ps.length + 1 ≤ maxLen := by unfold maxLen; omega
        have hSz : S ≤ w2.heap.size + 1 := by omega
        clear e8
        go_wp2_with (at_builtin; (refine wpList_append_own _ rfl _ _ 23 rfl S 24 i0 (.slice none 0 0) 1 24 Try.underlying23 hi hz0 hz1 hz2 rfl (by decide) (.slice (some ⟨g, 0, none⟩) ps.length c) ps.length (ps.map slU) rfl HT.out ⟨w2.heap.size, 0, none⟩ 1 1 [.slice (some ⟨g2, 0, none⟩) 8 c2] rfl rfl (cell_one_new _ _ _) (by simp [Value.oneCell']) hb63 (by omega) (by simpa using hSz) ?_; intro v5 w5 hown5 hg5 _))
        rw [← E8.out] at hown5
        have R5 : RowsU w5 S v5 (ps ++ [(g2, c2, ys)]) := hR2.more (p := (g2, c2, ys)) o2 HN.out hown5 hg5
        have hgeg : S ≤ g := (World.ownsRow.lt hR2.row g rfl).1
        have hr5 := (hr2.alloc (.cells #[.slice (some ⟨g2, 0, none⟩) 8 c2] 24)).grown (g := g) hg5 (by omega)
        have gg5 := gb_new (g := g) (gb_alloc gg2 (.cells #[.slice (some ⟨g2, 0, none⟩) 8 c2] 24)) hg5 (by rw [← HSS.out]; exact hgeg)
        obtain ⟨g5, c5, rfl⟩ := R5.one (by simp)
        have HP5 : Hid (∀ p ∈ ps ++ [(g2, c2, ys)], p.2.2.length ≤ 8) := Lib.hid (by
          intro p hp
          rcases List.mem_append.1 hp with hp | hp
          · exact HP.out p hp
          · obtain rfl : p = (g2, c2, ys) := by simpa using hp
            exact hy)
        have hlp : (ps ++ [(g2, c2, ys)]).length = ps.length + 1 := by simp
        have HLP := Lib.hid hlp
        clear hown5 hg5 hR2 HT o2 hlp
        go_roundw
        case rel => exact ⟨ps ++ [(g2, c2, ys)], by rw [HLP.out]; omega, ⟨g5, c5, rfl⟩, HP5, R5, hr5.more (by rw [HLP.out]; omega), gg5⟩
        case measure => simp [lenW]; omega
      · have hmb : (m == 0) = false := by simpa using hm
        clear hm
        go_wp2_with fail
        refine (oneTable_any rb (k + 1 + 30 * ps.length + 1) w0 hr0 (by omega)).mono ?_
        rintro e wa ⟨ga, ca, ysa, rfl, hla, hpa, oa, hra, hga⟩
        have hlta := hra.lt
        have hRa := hR0.ask hga hl
        have gga := gg0.trans hga
        have hsa := hga.size
        go_wp2_with fail
        refine (oneTable_any rb (k + 1 + 30 * ps.length + 1 + 3) wa hra (by omega)).mono ?_
        rintro e wb ⟨gb, cb, ysb, rfl, hlb, hpb, ob, hrb, hgb⟩
        have hRb := hRa.ask hgb hl
        have ggb := gga.trans hgb
        have hsb := hgb.size
        have oab : Own wb w0.heap.size (some ⟨ga, 0, none⟩) ca ysa := oa.kept_ (A2 := some ⟨rb, 0, none⟩) hgb (.inr (fun e => by have := Option.some.inj e; have h3 := oa.ge; have h4 : ga = rb := this; have h5 := hg.size; rw [HSS.out] at hl; omega))
        have HJ := Lib.hid (SJoinTables_any (some ⟨ga, 0, none⟩) (some ⟨gb, 0, none⟩) ca cb ysa ysb wb oab.rd ob.rd oab.cap.1 ob.cap.1 (by omega) (by omega))
        have HON := Lib.hid (ones_join hpa hpb)
        have HP2 := Lib.hid hpa.1
        have HP3 := Lib.hid hpb.1
        rw [hla, hlb] at HJ
        clear hpa hpb oa ob oab hga hgb hla hlb hmb hR0 hRa
        go_wp2_with fail
        refine HJ.out.mono ?_
        rintro e w2 ⟨hb4, ⟨_, _, _, g2, c2, rfl, o4⟩ | ⟨hno, _⟩⟩
        · obtain ⟨ys, hys⟩ : ∃ ys, ys = jnT ysa ysb := ⟨_, rfl⟩
          have hy8 : ys.length = 8 := by rw [hys]; exact jnT_len _ _
          rw [← hys] at o4
          have gg2 := ggb.trans (gb_of_below hb4 (some rb))
          have hR2 := hRb.below hb4
          have hr2 := hrb.below hb4
          have HN := Lib.hid (hRb.notIn (Nat.le_refl _) o4)
          have o2 := o4.base (show S ≤ wb.heap.size by omega)
          have hs2 := hb4.size
          clear o4 hys HON HP2 HP3 HJ hRb hb4
          have hy : ys.length ≤ 8 := by omega
          have e8 : slU (g2, c2, ys) = .slice (some ⟨g2, 0, none⟩) 8 c2 := by show Value.slice _ ys.length _ = _; rw [hy8]
          have E8 := Lib.hid e8
          clear hy8
          have HT := Lib.hid (own_len hR2.row ((Below.refl _ w2).alloc (Nat.le_refl _) (.cells #[.slice (some ⟨g2, 0, none⟩) 8 c2] 24)))
          have hb63 : ps.length + 1 ≤ maxLen := by unfold maxLen; omega
          have hSz : S ≤ w2.heap.size + 1 := by omega
          clear e8
          go_wp2_with (at_builtin; (refine wpList_append_own _ rfl _ _ 23 rfl S 24 i0 (.slice none 0 0) 1 24 Try.underlying23 hi hz0 hz1 hz2 rfl (by decide) (.slice (some ⟨g, 0, none⟩) ps.length c) ps.length (ps.map slU) rfl HT.out ⟨w2.heap.size, 0, none⟩ 1 1 [.slice (some ⟨g2, 0, none⟩) 8 c2] rfl rfl (cell_one_new _ _ _) (by simp [Value.oneCell']) hb63 (by omega) (by simpa using hSz) ?_; intro v5 w5 hown5 hg5 _))
          rw [← E8.out] at hown5
          have R5 : RowsU w5 S v5 (ps ++ [(g2, c2, ys)]) := hR2.more (p := (g2, c2, ys)) o2 HN.out hown5 hg5
          have hgeg : S ≤ g := (World.ownsRow.lt hR2.row g rfl).1
          have hr5 := (hr2.alloc (.cells #[.slice (some ⟨g2, 0, none⟩) 8 c2] 24)).grown (g := g) hg5 (by omega)
          have gg5 := gb_new (g := g) (gb_alloc gg2 (.cells #[.slice (some ⟨g2, 0, none⟩) 8 c2] 24)) hg5 (by rw [← HSS.out]; exact hgeg)
          obtain ⟨g5, c5, rfl⟩ := R5.one (by simp)
          have HP5 : Hid (∀ p ∈ ps ++ [(g2, c2, ys)], p.2.2.length ≤ 8) := Lib.hid (by
            intro p hp
            rcases List.mem_append.1 hp with hp | hp
            · exact HP.out p hp
            · obtain rfl : p = (g2, c2, ys) := by simpa using hp
              exact hy)
          have hlp : (ps ++ [(g2, c2, ys)]).length = ps.length + 1 := by simp
          have HLP := Lib.hid hlp
          clear hown5 hg5 hR2 HT o2 hlp
          go_roundw
          case rel => exact ⟨ps ++ [(g2, c2, ys)], by rw [HLP.out]; omega, ⟨g5, c5, rfl⟩, HP5, R5, hr5.more (by rw [HLP.out]; omega), gg5⟩
          case measure => simp [lenW]; omega
        · exact absurd ⟨HP2.out, HP3.out, HON.out⟩ hno
    · go_wp2
      go_ret
      exact ⟨_, ps, rfl, hR.base (by rw [HSS.out]; exact Nat.le_refl _), hps, HP.out, hr.more (by omega), hg⟩

end Go.Proofs.Ytccbjgajmjcpjaa
