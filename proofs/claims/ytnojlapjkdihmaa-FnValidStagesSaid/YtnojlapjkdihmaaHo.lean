/-
  The generator of the laws of chapter 11: stages.
-/
import Derived.Test.YtnojlapjkdihmaaG09
import Derived.Test.YtnojlapjkdihmaaG12
namespace Go.Proofs.Ytnojlapjkdihmaa
open Go.RowKit

/-- The three rows that are written out. -/
theorem litS (w : World) : RowsU ((((w.alloc (.cells #[] 3)).alloc (.cells #[.int .i64 0] 3)).alloc (.cells #[.int .i64 7] 3)).alloc
      (.cells #[.slice (some ⟨w.heap.size, 0, none⟩) 0 0, .slice (some ⟨w.heap.size + 1, 0, none⟩) 1 1, .slice (some ⟨w.heap.size + 1 + 1, 0, none⟩) 1 1] 24)) w.heap.size (.slice (some ⟨w.heap.size + 1 + 1 + 1, 0, none⟩) 3 3)
      [(w.heap.size, 0, []), (w.heap.size + 1, 1, [0]), (w.heap.size + 1 + 1, 1, [7])] := by
  have e1 := own_lit w [] (by decide)
  have e2 := own_lit (w.alloc (.cells #[] 3)) [0] (by decide)
  have e3 := own_lit ((w.alloc (.cells #[] 3)).alloc (.cells #[.int .i64 0] 3)) [7] (by decide)
  have e4 := World.ownsRow_lit (e := 24) (size := 1) (base := w.heap.size) (((w.alloc (.cells #[] 3)).alloc (.cells #[.int .i64 0] 3)).alloc (.cells #[.int .i64 7] 3))
    #[.slice (some ⟨w.heap.size, 0, none⟩) 0 0, .slice (some ⟨w.heap.size + 1, 0, none⟩) 1 1, .slice (some ⟨w.heap.size + 1 + 1, 0, none⟩) 1 1] 3 (by simp only [World.size_alloc]; omega) (by simp [maxLen]) (by simp)
  simp only [World.size_alloc] at e2 e3 e4
  refine ⟨e4, ?_, ?_⟩
  · intro p hp
    simp only [List.mem_cons, List.not_mem_nil, or_false] at hp
    rcases hp with rfl | rfl | rfl
    · exact ((e1.alloc_ _).alloc_ _).alloc_ _
    · exact ((e2.alloc_ _).alloc_ _).base (by omega)
    · exact (e3.alloc_ _).base (by omega)
  · simp <;> omega

/-- What someStages hands back. -/
def StagesIs (w : World) (rb k : Nat) (e : Ending) (w' : World) : Prop :=
  ∃ v ps, e = .returned v ∧ RowsU w' w.heap.size v ps ∧ ps.length ≤ 4 ∧ (∀ p ∈ ps, p.2.2.length ≤ 6) ∧ Rdr w' rb k ∧ w.grownBy w' (some rb)

def lenS : Value → Nat
  | .slice _ n _ => n
  | _ => 0

set_option maxHeartbeats 4000000 in
set_option maxRecDepth 100000 in
theorem someStages_any (rb k : Nat) (w : World) (h : Rdr w rb k) (hk : k + 60 ≤ 1000000) :
    Calls Try.prog 100 #[.pointer (some ⟨rb, 0, none⟩)] w (StagesIs w rb (k + 40)) := by
  obtain ⟨i0, hi, hz0, hz1, hz2⟩ := info_parts intsU_info
  have hl := h.lt
  have HE := Lib.hid (rowsU_empty w)
  have HL : Hid (Own ((w.alloc (.cells #[] 24)).alloc (.cells #[.int .i64 2, .int .i64 3, .int .i64 1, .int .i64 4, .int .i64 0] 3)) (w.heap.size + 1) (some ⟨w.heap.size + 1, 0, none⟩) 5 [2, 3, 1, 4, 0]) := Lib.hid (by
    have := own_lit (w.alloc (.cells #[] 24)) [2, 3, 1, 4, 0] (by decide)
    rw [World.size_alloc] at this
    exact this)
  have HR := Lib.hid ((h.alloc (.cells #[] 24)).alloc (.cells #[.int .i64 2, .int .i64 3, .int .i64 1, .int .i64 4, .int .i64 0] 3))
  have HG : Hid (w.grownBy ((w.alloc (.cells #[] 24)).alloc (.cells #[.int .i64 2, .int .i64 3, .int .i64 1, .int .i64 4, .int .i64 0] 3)) (some rb)) := Lib.hid (gb_alloc (World.grownBy_alloc w _ (some rb)) _)
  have HO : Hid (RowsU ((w.alloc (.cells #[] 24)).alloc (.cells #[.int .i64 2, .int .i64 3, .int .i64 1, .int .i64 4, .int .i64 0] 3)) w.heap.size (.slice (some ⟨w.heap.size, 0, none⟩) 0 0) []) := Lib.hid (HE.out.below ((Below.refl _ _).alloc (Nat.le_refl _) _))
  have hl2 : w.heap.size + 1 ≠ rb := by omega
  clear HE
  go_enter Try.func100, Try.ntmps100
  go_wp2_with fail
  refine (one_any rb k (w.heap.size + 1) 5 5 (w.heap.size + 1) [2, 3, 1, 4, 0] _ rfl HR.out HL.out hl2 (by decide) (by decide) (by omega)).mono ?_
  rintro e w1 ⟨most, hmo, rfl, hr1, hg1⟩
  have hm0 : 0 ≤ most := by simp only [List.mem_cons, List.not_mem_nil, or_false] at hmo; omega
  have hm1 : most ≤ 4 := by simp only [List.mem_cons, List.not_mem_nil, or_false] at hmo; omega
  have ho1 := HO.out.ask hg1 hl
  have gg1 := HG.out.trans hg1
  obtain ⟨S, hS⟩ : ∃ S, S = w.heap.size := ⟨_, rfl⟩
  have HSS := Lib.hid hS
  rw [← hS] at ho1 hl
  clear hmo HR HG HO HL hg1 hl2
  go_wp2_with fail
  rw [← hS]
  clear hS
  go_loopw [3] (fun v wr => ∃ (ps : List (Nat × Nat × List Int)), ps.length ≤ 4 ∧ (∃ g c, v = .slice (some ⟨g, 0, none⟩) ps.length c) ∧ Hid (∀ p ∈ ps, p.2.2.length ≤ 5) ∧ RowsU wr S v ps ∧ Rdr wr rb (k + 1 + 8 * ps.length) ∧ w.grownBy wr (some rb))
    (fun v _ => 4 - lenS v)
  case atStart => exact ⟨[], Nat.zero_le _, ⟨S, 0, rfl⟩, Lib.hid (fun _ h => absurd h (by simp)), ho1, hr1, gg1⟩
  case round =>
    obtain ⟨ps, hps, ⟨g, c, rfl⟩, HP, hR, hr, hg⟩ := hrel
    by_cases hlt : (ps.length : Int) < most
    · have hp4 : ps.length < 4 := by omega
      have HRW := Lib.hid hR
      have HE0 := Lib.hid (own_empty wr)
      have HL0 : Hid (Own ((wr.alloc (.cells #[] 3)).alloc (.cells #[.int .i64 3, .int .i64 2, .int .i64 4, .int .i64 1, .int .i64 5] 3)) (wr.heap.size + 1) (some ⟨wr.heap.size + 1, 0, none⟩) 5 [3, 2, 4, 1, 5]) := Lib.hid (by
        have := own_lit (wr.alloc (.cells #[] 3)) [3, 2, 4, 1, 5] (by decide)
        rw [World.size_alloc] at this
        exact this)
      have HR0 := Lib.hid ((hr.alloc (.cells #[] 3)).alloc (.cells #[.int .i64 3, .int .i64 2, .int .i64 4, .int .i64 1, .int .i64 5] 3))
      have HG0 : Hid (wr.grownBy ((wr.alloc (.cells #[] 3)).alloc (.cells #[.int .i64 3, .int .i64 2, .int .i64 4, .int .i64 1, .int .i64 5] 3)) (some rb)) := Lib.hid (gb_alloc (World.grownBy_alloc wr _ (some rb)) _)
      have HO0 : Hid (Own ((wr.alloc (.cells #[] 3)).alloc (.cells #[.int .i64 3, .int .i64 2, .int .i64 4, .int .i64 1, .int .i64 5] 3)) wr.heap.size (some ⟨wr.heap.size, 0, none⟩) 0 []) := Lib.hid (World.ownsRow.alloc HE0.out _)
      have hrbl := hr.lt
      have hl3 : wr.heap.size + 1 ≠ rb := by omega
      have hl4 : wr.heap.size ≠ rb := by omega
      clear hR HE0
      go_wp2_with fail
      refine (one_any rb (k + 1 + 8 * ps.length) (wr.heap.size + 1) 5 5 (wr.heap.size + 1) [3, 2, 4, 1, 5] _ rfl HR0.out HL0.out hl3 (by decide) (by decide) (by omega)).mono ?_
      rintro e w0 ⟨q, hq, rfl, hr0, hg0⟩
      have hq0 : 0 ≤ q := by simp only [List.mem_cons, List.not_mem_nil, or_false] at hq; omega
      have hq5 : q ≤ 5 := by simp only [List.mem_cons, List.not_mem_nil, or_false] at hq; omega
      have o0 : Own w0 wr.heap.size (some ⟨wr.heap.size, 0, none⟩) 0 [] := HO0.out.kept_ (A2 := some ⟨rb, 0, none⟩) hg0 (.inr (fun e => hl4 (by have := Option.some.inj e; simpa using this)))
      have gg0 := HG0.out.trans hg0
      clear hq hg0 HG0 HL0 HR0 HO0 hl3 hl4
      obtain ⟨WR, hWR⟩ : ∃ W : World, W = wr := ⟨_, rfl⟩
      subst hWR
      go_wp2_with fail
      have hWl : WR.heap.size ≤ WR.heap.size := Nat.le_refl _
      go_loopw [5] (fun v wr2 => ∃ (g2 c2 : Nat) (ys : List Int), ys.length ≤ 5 ∧ v = .slice (some ⟨g2, 0, none⟩) ys.length c2 ∧ Own wr2 WR.heap.size (some ⟨g2, 0, none⟩) c2 ys ∧ Rdr wr2 rb (k + 1 + 8 * ps.length + 1 + ys.length) ∧ WR.grownBy wr2 (some rb)) (fun v _ => 5 - lenOf v)
      case atStart => exact ⟨WR.heap.size, 0, [], Nat.zero_le _, rfl, o0, hr0, gg0⟩
      case round =>
        clear o0 hr0 gg0
        obtain ⟨g2, c2, ys, hy5, rfl, o2, hr2, hg2⟩ := hrel
        have hge2 := o2.ge
        by_cases hly : (ys.length : Int) < q
        · go_wp2_with fail
          refine (pick_any rb (k + 1 + 8 * ps.length + 1 + ys.length) 4 _ hr2 (by omega) (by decide) (by decide)).mono ?_
          rintro e w3 ⟨m, rfl, hm2, hm3, hr3, hg3⟩
          have hm4 : m ≤ 3 := by omega
          have o3 := o2.kept_ (A2 := some ⟨rb, 0, none⟩) hg3 (.inr (fun e => by have := Option.some.inj e; simp at this; omega))
          have HLm : Hid (Own (w3.alloc (.cells #[.int .i64 (1 + m)] 3)) w3.heap.size (some ⟨w3.heap.size, 0, none⟩) 1 [1 + m]) := Lib.hid (own_lit w3 [1 + m] (by simp))
          have HOm : Hid (Own (w3.alloc (.cells #[.int .i64 (1 + m)] 3)) WR.heap.size (some ⟨g2, 0, none⟩) c2 ys) := Lib.hid (World.ownsRow.alloc o3 _)
          have hgg := gb_alloc (hg2.trans hg3) (.cells #[.int .i64 (1 + m)] 3)
          have hsz := hgg.size
          have hrr := hr3.alloc (.cells #[.int .i64 (1 + m)] 3)
          have hny : ys.length + 1 ≤ 1099511627776 := by omega
          have HNY := Lib.hid hny
          clear hny o3 o2 hm3 hr2 hg2 hr3 hg3
          go_wp2_with (at_builtin; refine wpList_append_ints rfl _ _ rfl WR.heap.size g2 c2 ys ys.length rfl rfl HOm.out _ _ [1 + m] 1 rfl rfl HLm.out.rd HNY.out hsz ?_; intro g5 c5 w5 ho5 hg5)
          have hr5 := hrr.grown (g := g2) hg5 (by omega)
          have hg6 := gb_new (g := g2) hgg hg5 hge2
          clear hgg hg5 hrr
          go_roundw
          case rel => exact ⟨g5, c5, ys ++ [1 + m], by simp; omega, by simp, ho5, hr5.more (by simp; omega), hg6⟩
          case measure => simp [lenOf]; omega
        · have hy : ys.length ≤ 5 := hy5
          have hr2 : Rdr wr rb (k + 1 + 8 * ps.length + 8) := hr2.more (by omega)
          have hR2 := HRW.out.ask hg2 hl
          have gg2 := hg.trans hg2
          have hnot := HRW.out.notIn (Nat.le_refl _) o2
          have HN := Lib.hid hnot
          have hS2 : S ≤ WR.heap.size := by rw [HSS.out]; exact hg.size
          have HT := Lib.hid (own_len hR2.row ((Below.refl _ wr).alloc (Nat.le_refl _) (.cells #[slU (g2, c2, ys)] 24)))
          have hb63 : ps.length + 1 ≤ maxLen := by unfold maxLen; omega
          have hSz : S ≤ wr.heap.size + 1 := by have := hg2.size; omega
          clear hnot
          go_wp2_with (at_builtin; (refine wpList_append_own _ rfl _ _ 23 rfl S 24 i0 (.slice none 0 0) 1 24 Try.underlying23 hi hz0 hz1 hz2 rfl (by decide) (.slice (some ⟨g, 0, none⟩) ps.length c) ps.length (ps.map slU) rfl HT.out ⟨wr.heap.size, 0, none⟩ 1 1 [slU (g2, c2, ys)] rfl rfl (cell_one_new _ _ _) (by simp [slU, Value.oneCell']) hb63 (by omega) (by simpa using hSz) ?_; intro v5 w5 hown5 hg5 _))
          have R5 : RowsU w5 S v5 (ps ++ [(g2, c2, ys)]) := hR2.more (p := (g2, c2, ys)) (o2.base hS2) HN.out hown5 hg5
          have hgeg : S ≤ g := (World.ownsRow.lt hR2.row g rfl).1
          have hr5 := (hr2.alloc (.cells #[slU (g2, c2, ys)] 24)).grown (g := g) hg5 (by omega)
          have gg5 := gb_new (g := g) (gb_alloc gg2 (.cells #[slU (g2, c2, ys)] 24)) hg5 (by rw [← HSS.out]; exact hgeg)
          obtain ⟨g5, c5, rfl⟩ := R5.one (by simp)
          have HP5 : Hid (∀ p ∈ ps ++ [(g2, c2, ys)], p.2.2.length ≤ 5) := Lib.hid (by
            intro p hp
            rcases List.mem_append.1 hp with hp | hp
            · exact HP.out p hp
            · obtain rfl : p = (g2, c2, ys) := by simpa using hp
              exact hy)
          have hlp : (ps ++ [(g2, c2, ys)]).length = ps.length + 1 := by simp
          have HLP := Lib.hid hlp
          clear hown5 hg5 hR2 HT o2 hlp
          go_roundw
          case rel => exact ⟨ps ++ [(g2, c2, ys)], by rw [HLP.out]; omega, ⟨g5, c5, rfl⟩, HP5, R5, hr5.more (by rw [HLP.out]; omega), gg5⟩
          case measure => simp [lenS]; omega
    · cases ps with
      | nil =>
        have hz : ¬ (0 : Int) < (([] : List (Nat × Nat × List Int)).length : Int) := by simp
        have HR0 := Lib.hid hR
        clear hR
        go_wp2
        go_ret
        exact ⟨_, [], rfl, HR0.out.base (by rw [HSS.out]; exact Nat.le_refl _), by simp, (fun _ h => absurd h (by simp)), hr.more (by simp), hg⟩
      | cons p rs =>
        obtain ⟨L, hL⟩ : ∃ L, L = (p :: rs).length := ⟨_, rfl⟩
        have hL0 : (0 : Int) < (L : Int) := by rw [hL]; simp
        have HLL := Lib.hid hL
        rw [← hL] at hr hps hlt ⊢
        have HRW := Lib.hid hR
        have hR' := hR
        rw [← hL] at hR'
        clear hR hL hR'
        go_wp2_with fail
        refine (pick_any rb (k + 1 + 8 * L) 30 wr hr (by omega) (by decide) (by decide)).mono ?_
        rintro e w2 ⟨m, rfl, hm2, _, hr2, hg2⟩
        have gg2 := hg.trans hg2
        have hR2 := HRW.out.ask hg2 hl
        by_cases hm : m = 0
        · have hmb : (m == 0) = true := by simpa using hm
          clear hm
          go_wp2_with fail
          have HL3 := litS w2
          have B3 : Below w2.heap.size w2 ((((w2.alloc (.cells #[] 3)).alloc (.cells #[.int .i64 0] 3)).alloc (.cells #[.int .i64 7] 3)).alloc
            (.cells #[.slice (some ⟨w2.heap.size, 0, none⟩) 0 0, .slice (some ⟨w2.heap.size + 1, 0, none⟩) 1 1, .slice (some ⟨w2.heap.size + 1 + 1, 0, none⟩) 1 1] 24)) :=
            ((((Below.refl w2.heap.size w2).alloc (Nat.le_refl _) _).alloc (by simp) _).alloc (by simp <;> omega) _).alloc (by simp <;> omega) _
          have gg3 := gb_alloc (gb_alloc (gb_alloc (gb_alloc gg2 (.cells #[] 3)) (.cells #[.int .i64 0] 3)) (.cells #[.int .i64 7] 3)) (.cells #[.slice (some ⟨w2.heap.size, 0, none⟩) 0 0, .slice (some ⟨w2.heap.size + 1, 0, none⟩) 1 1, .slice (some ⟨w2.heap.size + 1 + 1, 0, none⟩) 1 1] 24)
          have hr3 := hr2.below B3
          have hR3 := hR2.below B3
          have hrb2 : rb < w2.heap.size := hr2.lt
          refine (one2_any rb (k + 1 + 8 * L + 1) w2.heap.size _ _ _ hr3 HL3 hrb2 (by simp) (by simp) (by omega)).mono ?_
          rintro e w4 ⟨q, hq, rfl, hr4, hg4⟩
          have hq6 : q.2.2.length ≤ 6 := by
            simp only [List.mem_cons, List.not_mem_nil, or_false] at hq
            rcases hq with rfl | rfl | rfl <;> simp
          have oq := HL3.each q hq
          have hnot := hR2.notIn (Nat.le_refl _) oq
          have hS2 : S ≤ w2.heap.size := by rw [HSS.out]; exact gg2.size
          have oq4 := (oq.ask hg4 hrb2).base hS2
          have hR4 := hR3.ask hg4 hl
          have hcell := World.ownsRow.cellAt hR4.row 0 (by simp)
          have hfr := World.ownsRow.frozenAt hR4.row 0
          have hput := hR4.put oq4 hnot
          have hgeg : S ≤ g := (World.ownsRow.lt hR4.row g rfl).1
          have hr5 := hr4.set_ (i := 0) (v := slU q) (show rb < g by omega)
          have gg5 := gb_set (i := 0) (v := slU q) (gg3.trans hg4) (show w.heap.size ≤ g by rw [← HSS.out]; exact hgeg)
          have HPUT : Hid (RowsU (w4.setCell ⟨g, 0, none⟩ (slU q)) S (.slice (some ⟨g, 0, none⟩) L c) (q :: rs)) := Lib.hid (by rw [HLL.out]; exact hput)
          have HR5 := Lib.hid hr5
          have HG5 := Lib.hid gg5
          have HQ6 := Lib.hid hq6
          have hlq : (q :: rs).length = L := by rw [HLL.out]; rfl
          have HLQ := Lib.hid hlq
          obtain ⟨qg, qc, ql⟩ := q
          simp only [slU, List.map_cons, List.getElem?_cons_zero] at hcell
          simp only [slU] at HPUT HR5 HG5
          clear HL3 B3 gg3 hr3 hR3 hq oq hnot oq4 hR4 hput hr5 gg5 hR2 hr2 hr4 hg4 gg2 hq6 hlq
          have hcell0 : w4.cell? ⟨g, 0, none⟩ = some (.slice (some ⟨p.1, 0, none⟩) p.2.2.length p.2.1) := hcell
          clear hcell
          simp only [slU]
          go_wp2
          go_ret
          exact ⟨.slice (some ⟨g, 0, none⟩) L c, (qg, qc, ql) :: rs, rfl, HPUT.out.base (by rw [HSS.out]; exact Nat.le_refl _), by rw [HLQ.out]; exact hps, (fun p' hp' => by
            rcases List.mem_cons.1 hp' with rfl | hp'
            · exact HQ6.out
            · have := HP.out p' (by simp [hp']); omega), HR5.out.more (by omega), HG5.out⟩
        · have hmb : (m == 0) = false := by simpa using hm
          have HR2 := Lib.hid hR2
          clear hm hR2
          go_wp2
          go_ret
          exact ⟨.slice (some ⟨g, 0, none⟩) L c, p :: rs, rfl, by rw [HLL.out]; exact HR2.out.base (by rw [HSS.out]; exact Nat.le_refl _), by rw [← HLL.out]; exact hps, (fun q hq => by have := HP.out q hq; omega), hr2.more (by omega), gg2⟩

end Go.Proofs.Ytnojlapjkdihmaa
