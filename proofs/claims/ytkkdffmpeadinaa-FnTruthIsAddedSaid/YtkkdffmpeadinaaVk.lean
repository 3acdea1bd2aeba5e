/-
  Chapter 3: the walk of FnTruthIsAdded.
-/
import Derived.Test.YtkkdffmpeadinaaVj
namespace Go.Proofs.Ytkkdffmpeadinaa
open Go.RowKit

theorem ownsRow_some {w : World} {B T : Nat} {v : Value} {n : Nat} {vs : List Value} (h : w.ownsRow B T 1 v n vs) (hn : 0 < n) : ∃ g c, v = .slice (some ⟨g, 0, none⟩) n c := by
  rcases h.2 with ⟨_, h0⟩ | ⟨g, cap, cur, hv, _⟩
  · omega
  · exact ⟨g, cap, hv⟩
theorem RowsV.snoc {w : World} {vs : List Value} {rows : List (List Int)} {v : Value} {r : List Int} (h : RowsV w vs rows) (hv : Row1 w v r) : RowsV w (vs ++ [v]) (rows ++ [r]) := by
  refine ⟨by simp [h.1], fun k q hk => ?_⟩
  rcases Nat.lt_or_ge k rows.length with hl | hl
  · rw [List.getElem?_append_left hl] at hk
    rw [List.getElem?_append_left (by rw [h.1]; exact hl)]
    exact h.2 k q hk
  · rw [List.getElem?_append_right hl] at hk
    have hk0 : k - rows.length = 0 := by have := (List.getElem?_eq_some_iff.1 hk).1; simp at this; omega
    rw [hk0] at hk
    simp at hk
    subst hk
    exact ⟨v, by rw [List.getElem?_append_right (by rw [h.1]; exact hl), h.1, hk0]; rfl, hv⟩
theorem take_set_at {rows : List (List Int)} {i j : Nat} {r : List Int} (hj : j < rows.length) : (rows.set i r).take (j + 1) = (rows.set i r).take j ++ [if i = j then r else RW rows j] := by
  have hl : j < (rows.set i r).length := by rw [List.length_set]; exact hj
  rw [List.take_add_one, List.getElem?_eq_getElem hl, Option.toList_some]
  congr 2
  rw [List.getElem_set]
  split
  · rfl
  · rw [rw_of (List.getElem?_eq_getElem hj)]

theorem added {rows : List (List Int)} {k i : Nat} (hv : VD rows) (hk : k ≤ 5) (hi : i < rows.length) : guF rows k i (RW rows i) = woF rows k - woF (rows.set i []) k := by
  have hs := hv.setVD i rowOk_nil
  have e1 := bst_but hv hi k
  rw [wo_yes (fuB_yes hv hk), wo_yes (fuB_yes hs hk), gain_truth hv hi, List.length_set, Int.toNat_natCast, e1]

set_option maxHeartbeats 8000000 in
theorem fnTruthIsAdded_walk {A : Option Addr} {c : Nat} {xs : List Int} {w : World} (h : Came .u8 w A c xs) :
    Calls Try.prog 9 #[.slice A xs.length c] w fun e w' => e = .returned (.bool true) ∧ Below w.heap.size w w' := by
  obtain ⟨i0, hi, hz0, hz1, hz2⟩ := info_parts intsU_info
  by_cases hlen : 1048576 < xs.length
  · go_enter Try.func9, Try.ntmps9
    go_wp2
    go_ret
    exact ⟨rfl, Below.refl _ _⟩
  have hl1 : xs.length ≤ 1048576 := by omega
  have HD := Lib.hid (DrawGainUnits_any A c xs w h)
  clear hlen h
  go_enter Try.func9, Try.ntmps9
  go_wp2_with fail
  refine HD.out.mono ?_
  rintro e w1 ⟨A1, c1, rows, k, i, T, d, told, rfl, hR, hl4, hl6, hT, hTd, ht6, hk0, hk1, hin0, hin1, b1⟩
  obtain ⟨hS, hI⟩ := GainUnits_both rows k i told (by omega) (six_len hl6) (by omega)
  have hI0 := (GainUnits_both rows k i [] (by omega) (six_len hl6) (by simp)).2
  obtain ⟨v, hv⟩ : ∃ v, v = gaF rows k i told := ⟨_, rfl⟩
  obtain ⟨bt, hbt⟩ : ∃ bt, bt = guB rows k i told := ⟨_, rfl⟩
  rw [← hv, ← hbt] at hS hI
  have HS := Lib.hid hS
  have HI := Lib.hid hI
  have hvv : (v != v) = false := by simp
  have hbb : (bt != bt) = false := by simp
  clear hS hI hv hbt HD
  go_wp2_with fail
  refine (HI.out A1 T c1 d w1 hR hT hTd).mono ?_
  rintro e w2 ⟨rfl, b2⟩
  have B2 := b1.trans (b2.mono b1.size)
  have hR2 := hR.below b2
  go_wp2_with fail
  refine (HS.out A1 T c1 d w2 hR2 (hT.below b2) hTd).mono ?_
  rintro e w3 ⟨rfl, b3⟩
  have B3 := B2.trans (b3.mono B2.size)
  have hR3 := hR2.below b3
  clear b1 b2 b3 B2 hR hR2 hT
  cases hf : guB rows k i [] with
  | false =>
    have hg0 : gaF rows k i [] = 0 := by unfold gaF; rw [hf]; simp
    rw [hf, hg0] at hI0
    have HI0 := Lib.hid hI0
    clear hI0 hf hg0 hl6
    go_wp2_with fail
    refine (HI0.out A1 none c1 0 w3 hR3 (Rd.nil _) (by simp)).mono ?_
    rintro e w4 ⟨rfl, b4⟩
    have B4 := B3.trans (b4.mono B3.size)
    go_wp2
    go_ret
    exact ⟨rfl, B4⟩
  | true =>
    obtain ⟨⟨hvd, hkk0, hkk1⟩, ⟨hii0, hii1⟩, hto⟩ := guB_iff.1 hf
    obtain ⟨q, rfl⟩ := Int.eq_ofNat_of_zero_le hin0
    have hq : q < rows.length := by omega
    obtain ⟨n, rfl⟩ := Int.eq_ofNat_of_zero_le hkk0
    have hn5 : n ≤ 5 := by omega
    obtain ⟨u0, hu0⟩ : ∃ u0, u0 = gaF rows (n : Int) (q : Int) [] := ⟨_, rfl⟩
    rw [← hu0, hf] at hI0
    have HI0 := Lib.hid hI0
    obtain ⟨b, off, r, A', c', rfl, hr, hc, hcap, hrd⟩ := hR3.at_ hq
    have hrw := rw_of hr.out
    have hrok : RowOk r := by rw [← hrw]; exact hvd.good q hq
    have hf2 : guB rows (n : Int) (q : Int) r = true := guB_iff.2 ⟨⟨hvd, hkk0, hkk1⟩, ⟨hii0, hii1⟩, hrok⟩
    have hI2 := (GainUnits_both rows (n : Int) (q : Int) r (by omega) (six_len hl6) (by have := hrok.1; omega)).2
    obtain ⟨u, hu⟩ : ∃ u, u = gaF rows (n : Int) (q : Int) r := ⟨_, rfl⟩
    have hW1 := (WorthOf_both rows (n : Int) (by omega) (six_len hl6)).2
    have hW2 := (WorthOf_both (rows.set q []) (n : Int) (by rw [List.length_set]; omega) (fun x hx => by
      rcases List.mem_or_eq_of_mem_set hx with hx | hx
      · exact six_len hl6 x hx
      · rw [hx]; simp)).2
    rw [List.length_set] at hW2
    have had : u = woF rows (n : Int) - woF (rows.set q []) (n : Int) := by
      rw [← added hvd hn5 hq, hu]
      unfold gaF
      rw [hf2, hrw]
      simp
    have hwb1 := wo_bd rows (n : Int)
    have hwb2 := wo_bd (rows.set q []) (n : Int)
    obtain ⟨x1, hx1⟩ : ∃ x1, x1 = woF rows (n : Int) := ⟨_, rfl⟩
    obtain ⟨x2, hx2⟩ : ∃ x2, x2 = woF (rows.set q []) (n : Int) := ⟨_, rfl⟩
    rw [← hx1] at hW1 had hwb1
    rw [← hx2] at hW2 had hwb2
    rw [← hu, hf2] at hI2
    have HI2 := Lib.hid hI2
    have HW1 := Lib.hid hW1
    have HW2 := Lib.hid hW2
    have HAD := Lib.hid had
    have hwb10 := hwb1.1
    have hwb11 := hwb1.2
    have hwb20 := hwb2.1
    have hwb21 := hwb2.2
    have hql : (q : Int) < (rows.length : Int) := by omega
    have hqb : b < w3.heap.size := World.block_lt_of_cell? w3 _ hc
    clear hf hI2 hu hf2 hvd hto hrok hrw hI0 hu0 hW1 hW2 had hx1 hx2 hwb1 hwb2 hl6
    go_wp2_with fail
    refine (HI0.out _ none c1 0 w3 hR3 (Rd.nil _) (by simp)).mono ?_
    rintro e w4 ⟨rfl, b4⟩
    have B4 := B3.trans (b4.mono B3.size)
    have hR4 := hR3.below b4
    have hc4 := (b4.cell (p := ⟨b, off + q, none⟩) hqb).trans hc
    have hrd4 := hrd.out.below b4
    clear hc
    go_wp2_with fail
    refine (HI2.out _ A' c1 c' w4 hR4 hrd4 hcap.out).mono ?_
    rintro e w5 ⟨rfl, b5⟩
    have B5 := B4.trans (b5.mono B4.size)
    have hR5 := hR4.below b5
    clear hc4 hrd4 b4 b5 B4 hR4 B3 hR3
    have ho0 := row_empty w5
    have hb0 := (Below.refl w5.heap.size w5).alloc (Nat.le_refl _) (.cells #[] 29)
    obtain ⟨S, hSe⟩ : ∃ S, S = w5.heap.size := ⟨_, rfl⟩
    have HSE := Lib.hid hSe
    have HO0 : Hid ((w5.alloc (.cells #[] 29)).ownsRow w5.heap.size 29 1 (.slice (some ⟨S, 0, none⟩) 0 0) 0 []) := Lib.hid (by rw [hSe]; exact ho0)
    have HR5 := Lib.hid hR5
    clear ho0 hR5
    go_wp2
    rw [← hSe]
    clear hSe
    go_loopw [13, 14] (fun o x wr => ∃ (j g cg : Nat) (vs : List Value), j ≤ rows.length ∧ x = .int .i64 j ∧ o = .slice (some ⟨g, 0, none⟩) j cg ∧ Hid (wr.ownsRow w5.heap.size 29 1 (.slice (some ⟨g, 0, none⟩) j cg) j vs) ∧ Hid (RowsV w5 vs ((rows.set q []).take j)) ∧ Below w5.heap.size w5 wr) (fun _ x _ => rows.length - (intOf x).toNat)
    case atStart => exact ⟨0, S, 0, [], Nat.zero_le _, rfl, rfl, HO0, Lib.hid ⟨by simp, fun k r hk => by simp at hk⟩, hb0⟩
    case round =>
      obtain ⟨j, g, cg, vs, hj, rfl, rfl, HO, HV, hb⟩ := hrel
      by_cases hlt : j < rows.length
      · have hb63 : j + 1 ≤ maxLen := by unfold maxLen; omega
        by_cases hjq : j = q
        · have HT := Lib.hid (own_len HO.out (((Below.refl _ wr).alloc (Nat.le_refl _) (.cells #[] 3)).alloc (by simp) (.cells #[.slice (some ⟨wr.heap.size, 0, none⟩) 0 0] 29)))
          have HVS : Hid (RowsV w5 (vs ++ [.slice (some ⟨wr.heap.size, 0, none⟩) 0 0]) ((rows.set q []).take (j + 1))) := Lib.hid (by
            rw [take_set_at hlt, if_pos hjq.symm]
            exact HV.out.snoc ⟨some ⟨wr.heap.size, 0, none⟩, 0, rfl, by simp, .inl ⟨rfl, fun h => by cases h⟩⟩)
          have hjb : ((j : Int) == (q : Int)) = true := by simp [hjq]
          have hsz : w5.heap.size ≤ wr.heap.size := hb.size
          clear hjq
          go_wp2_with (at_builtin; (refine wpList_append_own _ rfl _ _ 23 rfl w5.heap.size 29 i0 (.slice none 0 0) 1 24 Try.underlying23 hi hz0 hz1 hz2 rfl (by decide) (.slice (some ⟨g, 0, none⟩) j cg) j vs rfl HT.out ⟨wr.heap.size + 1, 0, none⟩ 1 1 [.slice (some ⟨wr.heap.size, 0, none⟩) 0 0] rfl rfl (by have := cell_one_new (wr.alloc (.cells #[] 3)) (.slice (some ⟨wr.heap.size, 0, none⟩) 0 0) 29; simpa using this) (by simp [Value.oneCell']) hb63 (by omega) (by simp; omega) ?_; intro v5 w6 hown6 hg6 _))
          obtain ⟨g6, c6, rfl⟩ := ownsRow_some hown6 (by omega)
          have hgeg := (World.ownsRow.lt HO.out g rfl).1
          have B6 : Below w5.heap.size w5 w6 := ((hb.alloc hb.size (.cells #[] 3)).alloc (by simp; omega) (.cells #[.slice (some ⟨wr.heap.size, 0, none⟩) 0 0] 29)).grown hg6 (by simp; omega) (fun k e => by first | (cases e; omega) | (simp at e; omega))
          have HO6 := Lib.hid hown6
          clear hown6 hg6 HT
          go_roundw
          case rel => exact ⟨j + 1, g6, c6, _, by omega, by go_num, rfl, HO6, HVS, B6⟩
          case measure => simp [intOf]; omega
        · obtain ⟨b', off', r2, A2, c2, hA, hr2, hc20, hcap2, hrd2⟩ := HR5.out.at_ hlt
          cases hA
          have hc2 := (hb.cell (p := ⟨b, off + j, none⟩) (World.block_lt_of_cell? w5 _ hc20)).trans hc20
          have HT := Lib.hid (own_len HO.out ((Below.refl _ wr).alloc (Nat.le_refl _) (.cells #[.slice A2 r2.length c2] 29)))
          have HVS : Hid (RowsV w5 (vs ++ [.slice A2 r2.length c2]) ((rows.set q []).take (j + 1))) := Lib.hid (by
            rw [take_set_at hlt, if_neg (fun e => hjq e.symm), rw_of hr2.out]
            exact HV.out.snoc ⟨A2, c2, rfl, hcap2.out, hrd2.out⟩)
          have hjb : ((j : Int) == (q : Int)) = false := beq_eq_false_iff_ne.2 (by omega)
          have hsz : w5.heap.size ≤ wr.heap.size := hb.size
          have hjl : (j : Int) < (rows.length : Int) := by omega
          clear hjq hc20
          go_wp2_with (at_builtin; (refine wpList_append_own _ rfl _ _ 23 rfl w5.heap.size 29 i0 (.slice none 0 0) 1 24 Try.underlying23 hi hz0 hz1 hz2 rfl (by decide) (.slice (some ⟨g, 0, none⟩) j cg) j vs rfl HT.out ⟨wr.heap.size, 0, none⟩ 1 1 [.slice A2 r2.length c2] rfl rfl (cell_one_new _ _ _) (by simp [Value.oneCell']) hb63 (by omega) (by simp; omega) ?_; intro v5 w6 hown6 hg6 _))
          obtain ⟨g6, c6, rfl⟩ := ownsRow_some hown6 (by omega)
          have hgeg := (World.ownsRow.lt HO.out g rfl).1
          have B6 : Below w5.heap.size w5 w6 := (hb.alloc hb.size (.cells #[.slice A2 r2.length c2] 29)).grown hg6 (by simp; omega) (fun k e => by first | (cases e; omega) | (simp at e; omega))
          have HO6 := Lib.hid hown6
          clear hown6 hg6 HT hc2
          go_roundw
          case rel => exact ⟨j + 1, g6, c6, _, by omega, by go_num, rfl, HO6, HVS, B6⟩
          case measure => simp [intOf]; omega
      · obtain rfl : j = rows.length := by omega
        have hLess : RdR wr (some ⟨g, 0, none⟩) cg (rows.set q []) := by
          have h1 := HO.out
          have h2 := HV.out
          rw [List.take_of_length_le (by rw [List.length_set]; exact Nat.le_refl _)] at h2
          exact CopyIs.shape_ h1 h2 (by rw [List.length_set]) hb
        have hRr := HR5.out.below hb
        have B7 := B5.trans (hb.mono B5.size)
        have hee : (u == x1 - x2) = true := by rw [HAD.out]; simp
        go_wp2_with fail
        refine (HW1.out _ c1 wr hRr).mono ?_
        rintro e w8 ⟨rfl, b8⟩
        have B8 := B7.trans (b8.mono B7.size)
        go_wp2_with fail
        refine (HW2.out _ cg w8 (hLess.below b8)).mono ?_
        rintro e w9 ⟨rfl, b9⟩
        have B9 := B8.trans (b9.mono B8.size)
        go_wp2
        go_ret
        exact ⟨by first | rfl | (simp; exact HAD.out), B9⟩

end Go.Proofs.Ytkkdffmpeadinaa
