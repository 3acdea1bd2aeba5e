/-
  The laws of chapter 6: the draw and the walk of FnGainAsTwo.
-/
import Derived.Test.YtfjncipekjnbjaaMc
import Derived.Test.YtfjncipekjnbjaaKm
import Derived.Test.YtfjncipekjnbjaaQk
import Derived.Test.YtfjncipekjnbjaaZo
namespace Go.Proofs.Ytfjncipekjnbjaa
open Go.RowKit Go.Lib

/-- What is drawn: tables, a bidder, and two tables. -/
def DrawnG2 (w : World) (e : Ending) (w' : World) : Prop :=
  ∃ (A : Option Addr) (c : Nat) (rows : List (List Int)) (i : Int) (U : Option Addr) (d : Nat) (ta : List Int) (V : Option Addr) (f : Nat) (tb : List Int), e = .returned (.tuple #[.slice A rows.length c, .int .i64 i, .slice U ta.length d, .slice V tb.length f]) ∧ RdR w' A c rows ∧ rows.length ≤ 4 ∧ (∀ r ∈ rows, r.length ≤ 8) ∧
    Rd w' U d ta ∧ ta.length ≤ d ∧ ta.length ≤ 8 ∧ Rd w' V f tb ∧ tb.length ≤ f ∧ tb.length ≤ 8 ∧ -1 ≤ i ∧ i ≤ 4 ∧ Below w.heap.size w w'
theorem results_fourT {fn : Func} {t u v x : Tmp} (h : fn.results = #[.tmp t, .tmp u, .tmp v, .tmp x]) (tmps : Array Value) (P : Program) (w : World) :
    (results fn tmps).run P w = .ok (.tuple #[tmps.getD t undef, tmps.getD u undef, tmps.getD v undef, tmps.getD x undef]) w := by simp [results, h]

set_option maxRecDepth 100000 in
set_option maxHeartbeats 1600000 in
theorem DrawGainAsTwo_any (A : Option Addr) (c : Nat) (xs : List Int) (w : World) (h : Came .u8 w A c xs) :
    Calls Try.prog 14 #[.slice A xs.length c] w (DrawnG2 w) := by
  go_enter Try.func14, Try.ntmps14
  go_wp2_with fail
  refine (newReader_any A c xs w h).mono ?_
  rintro e w1 ⟨rb, rfl, hrb, hr1, hb1⟩
  go_wp2_with fail
  refine (someTables_any rb 0 w1 hr1 (by decide)).mono ?_
  rintro e w0 ⟨v, ps, rfl, R0, hp4, hp8, hr0, hg0⟩
  have B0 := hb1.trans (gb_below hg0 hb1.size hrb)
  have hlt1 := hr1.lt
  clear hg0
  go_wp2_with fail
  refine (pick_any rb 170 2 w0 hr0 (by decide) (by decide) (by decide)).mono ?_
  rintro e w2 ⟨m, rfl, hm0, hm1, hr2, hg2⟩
  have R2 := R0.ask hg2 hlt1
  have B2 := B0.trans (gb_below hg2 B0.size hrb)
  have hlt2 := hr2.lt
  clear R0 hg2 hr0 B0
  by_cases hm : m = 0
  · have hmb : (m == 0) = true := by simpa using hm
    clear hm R2 hp4 hp8
    go_wp2_with fail
    refine (easyTables_any rb 171 w2 hr2 (by decide)).mono ?_
    rintro e w3 ⟨ve, pse, rfl, R3, hpe4, hpe8, hr3, hg3⟩
    have B3 := B2.trans (gb_below hg3 B2.size hrb)
    clear hg3 hr2 B2
    have H6 := Lib.hid (eight_map hpe4 hpe8)
    have HLN : Hid (pse.length = (pse.map (·.2.2)).length) := Lib.hid (by rw [List.length_map])
    obtain ⟨A2, c2, hv, hcc⟩ : ∃ A2 c2, ve = .slice A2 pse.length c2 ∧ True := by
      obtain ⟨A2, c2, hv, _⟩ := R3.rdr rfl
      exact ⟨A2, c2, by rw [hv, List.length_map], trivial⟩
    subst hv
    clear hpe8 hcc
    go_wp2_with fail
    refine (pick_any rb 341 pse.length w3 hr3 (by decide) (by omega) (by omega)).mono ?_
    rintro e w4 ⟨i1, rfl, hi10, hi11, hr4, hg4⟩
    have R4 := R3.ask hg4 hlt2
    have B4 := B3.trans (gb_below hg4 B3.size hrb)
    clear R3 hg4 hr3 B3
    go_wp2_with fail
    refine (pick_any rb 342 pse.length w4 hr4 (by decide) (by omega) (by omega)).mono ?_
    rintro e w5 ⟨i2, rfl, hi20, hi21, hr5, hg5⟩
    have R5 := R4.ask hg5 hlt2
    have B5 := B4.trans (gb_below hg5 B4.size hrb)
    clear R4 hg5 hr4 B4
    go_wp2_with fail
    refine (one_new rb 343 5 [i1, i2, 0, pse.length, -1] _ w5 rfl rfl hr5 (by decide) (by decide) (by decide)).mono ?_
    rintro e w6 ⟨i, hi, rfl, hr6, hg6⟩
    have hi0 : -1 ≤ i := by simp only [List.mem_cons, List.not_mem_nil, or_false] at hi; omega
    have hi1 : i ≤ 4 := by simp only [List.mem_cons, List.not_mem_nil, or_false] at hi; omega
    have R6 := R5.ask hg6 hlt2
    have B6 := B5.trans (gb_below hg6 B5.size hrb)
    clear R5 hg6 hr5 B5 hi
    go_wp2_with fail
    refine (someTable_any rb 344 w6 hr6 (by decide)).mono ?_
    rintro e w7 ⟨g7, c7, ta, rfl, ht8, o7, hr7, hg7⟩
    have R7 := R6.ask hg7 hlt2
    have B7 := B6.trans (gb_below hg7 B6.size hrb)
    have hl6 := hr6.lt
    have hge7 := o7.ge
    clear R6 hg7 hr6 B6
    go_wp2_with fail
    refine (someTable_any rb 384 w7 hr7 (by decide)).mono ?_
    rintro e w8 ⟨g8, c8, tb, rfl, hu8, o8, hr8, hg8⟩
    have o78 : Own w8 w6.heap.size (some ⟨g7, 0, none⟩) c7 ta := o7.kept_ (A2 := some ⟨rb, 0, none⟩) hg8 (.inr (fun e => by have h3 : g7 = rb := Option.some.inj e; omega))
    have R8 := R7.ask hg8 hlt2
    have B8 := B7.trans (gb_below hg8 B7.size hrb)
    obtain ⟨A9, c9, hv9, hR9⟩ := R8.rdr rfl
    rw [List.length_map] at hv9
    injection hv9 with e1 _ e3
    subst e1 e3
    have HO7 := Lib.hid o78
    have HO8 := Lib.hid o8
    clear R7 R8 hg8 hr7 B7 o7 o78 o8
    go_wp2
    refine bodyPost_ret (results_fourT rfl _ _ _) rfl ?_
    exact ⟨A2, c2, pse.map (·.2.2), i, _, c7, ta, _, c8, tb, by rw [← HLN.out]; rfl, hR9, H6.out.1, H6.out.2, HO7.out.rd, HO7.out.cap.1, ht8, HO8.out.rd, HO8.out.cap.1, hu8, hi0, hi1, B8⟩
  · have hmb : (m == 0) = false := by simpa using hm
    clear hm
    have H6 := Lib.hid (eight_map hp4 hp8)
    have HLN : Hid (ps.length = (ps.map (·.2.2)).length) := Lib.hid (by rw [List.length_map])
    obtain ⟨A2, c2, hv, hcc⟩ : ∃ A2 c2, v = .slice A2 ps.length c2 ∧ True := by
      obtain ⟨A2, c2, hv, _⟩ := R2.rdr rfl
      exact ⟨A2, c2, by rw [hv, List.length_map], trivial⟩
    subst hv
    clear hp8 hcc
    go_wp2_with fail
    refine (pick_any rb 171 ps.length w2 hr2 (by decide) (by omega) (by omega)).mono ?_
    rintro e w4 ⟨i1, rfl, hi10, hi11, hr4, hg4⟩
    have R4 := R2.ask hg4 hlt1
    have B4 := B2.trans (gb_below hg4 B2.size hrb)
    clear R2 hg4 hr2 B2
    go_wp2_with fail
    refine (pick_any rb 172 ps.length w4 hr4 (by decide) (by omega) (by omega)).mono ?_
    rintro e w5 ⟨i2, rfl, hi20, hi21, hr5, hg5⟩
    have R5 := R4.ask hg5 hlt1
    have B5 := B4.trans (gb_below hg5 B4.size hrb)
    clear R4 hg5 hr4 B4
    go_wp2_with fail
    refine (one_new rb 173 5 [i1, i2, 0, ps.length, -1] _ w5 rfl rfl hr5 (by decide) (by decide) (by decide)).mono ?_
    rintro e w6 ⟨i, hi, rfl, hr6, hg6⟩
    have hi0 : -1 ≤ i := by simp only [List.mem_cons, List.not_mem_nil, or_false] at hi; omega
    have hi1 : i ≤ 4 := by simp only [List.mem_cons, List.not_mem_nil, or_false] at hi; omega
    have R6 := R5.ask hg6 hlt1
    have B6 := B5.trans (gb_below hg6 B5.size hrb)
    clear R5 hg6 hr5 B5 hi
    go_wp2_with fail
    refine (someTable_any rb 174 w6 hr6 (by decide)).mono ?_
    rintro e w7 ⟨g7, c7, ta, rfl, ht8, o7, hr7, hg7⟩
    have R7 := R6.ask hg7 hlt1
    have B7 := B6.trans (gb_below hg7 B6.size hrb)
    have hl6 := hr6.lt
    have hge7 := o7.ge
    clear R6 hg7 hr6 B6
    go_wp2_with fail
    refine (someTable_any rb 214 w7 hr7 (by decide)).mono ?_
    rintro e w8 ⟨g8, c8, tb, rfl, hu8, o8, hr8, hg8⟩
    have o78 : Own w8 w6.heap.size (some ⟨g7, 0, none⟩) c7 ta := o7.kept_ (A2 := some ⟨rb, 0, none⟩) hg8 (.inr (fun e => by have h3 : g7 = rb := Option.some.inj e; omega))
    have R8 := R7.ask hg8 hlt1
    have B8 := B7.trans (gb_below hg8 B7.size hrb)
    obtain ⟨A9, c9, hv9, hR9⟩ := R8.rdr rfl
    rw [List.length_map] at hv9
    injection hv9 with e1 _ e3
    subst e1 e3
    have HO7 := Lib.hid o78
    have HO8 := Lib.hid o8
    clear R7 R8 hg8 hr7 B7 o7 o78 o8
    go_wp2
    refine bodyPost_ret (results_fourT rfl _ _ _) rfl ?_
    exact ⟨A2, c2, ps.map (·.2.2), i, _, c7, ta, _, c8, tb, by rw [← HLN.out]; rfl, hR9, H6.out.1, H6.out.2, HO7.out.rd, HO7.out.cap.1, ht8, HO8.out.rd, HO8.out.cap.1, hu8, hi0, hi1, B8⟩

set_option maxHeartbeats 4000000 in
set_option maxRecDepth 100000 in
theorem fnGainAsTwo_walk {A : Option Addr} {c : Nat} {xs : List Int} {w : World} (h : Came .u8 w A c xs) :
    Calls Try.prog 3 #[.slice A xs.length c] w fun e w' => e = .returned (.bool true) ∧ Below w.heap.size w w' := by
  by_cases hlen : 1048576 < xs.length
  · go_enter Try.func3, Try.ntmps3
    go_wp2
    go_ret
    exact ⟨rfl, Below.refl _ _⟩
  have hl1 : xs.length ≤ 1048576 := by omega
  have HD := Lib.hid (DrawGainAsTwo_any A c xs w h)
  clear hlen h
  go_enter Try.func3, Try.ntmps3
  go_wp2_with fail
  refine HD.out.mono ?_
  rintro e w1 ⟨A1, c1, rows, i, U, d, ta, V, f, tb, rfl, hR, hl4, hl8, hT, hTd, ht8, hT2, hTf, hu8, hi0, hi1, b1⟩
  have hl8' : ∀ r ∈ rows, r.length ≤ 1099511627776 := fun r hr => by have := hl8 r hr; omega
  have hMV := fun w' (h : RdR w' A1 c1 rows) => movable_any A1 c1 rows.length rows w' rfl h hl8' (by omega)
  have hMA := fun w' (h : Rd w' U d ta) => SwapsByMoves_any U d ta w' h (by omega)
  have hMB := fun w' (h : Rd w' V f tb) => SwapsByMoves_any V f tb w' h (by omega)
  by_cases hf : hbB rows i = true ∧ rows.length ≤ 3 ∧ vt ta = true ∧ vt tb = true
  · obtain ⟨hb, h3, ht, hu⟩ := hf
    rw [hb_iff] at hb
    rw [vt_iff] at ht hu
    obtain ⟨hv, h0, h1⟩ := hb
    obtain ⟨k, rfl⟩ := Int.eq_ofNat_of_zero_le h0
    have hk : k < rows.length := by omega
    have HI := Lib.hid (fun (W : World) (h : RdR W A1 c1 rows) (T1 : Rd W U d ta) (T2 : Rd W V f tb) => GainAsTwo_yes A1 U V c1 d f k rows ta tb W h T1 hTd T2 hTf hl8' hv hk h3 ht hu)
    have HS := Lib.hid (fun (W : World) (h : RdR W A1 c1 rows) (T1 : Rd W U d ta) (T2 : Rd W V f tb) => SGainAsTwo_yes A1 U V c1 d f k rows ta tb W h T1 hTd T2 hTf hl8' hv hk h3 ht hu)
    have hle := fun (hm : mvA rows = true) => two_names (mvA_at hm) h3 hk ht hu
    obtain ⟨x, hx⟩ : ∃ x, x = gwF rows k ta tb := ⟨_, rfl⟩
    obtain ⟨y, hy⟩ : ∃ y, y = gtF rows k (rows.getD k []) := ⟨_, rfl⟩
    rw [← hx] at HI HS hle
    rw [← hy] at hle
    have HY := Lib.hid hy
    have HLE := Lib.hid hle
    have HV := Lib.hid hv
    have H8 := Lib.hid hl8'
    have p1 : (x != x) = false := by simp
    have hk0 : (0 : Int) ≤ (k : Int) := by omega
    have hk1 : (k : Int) < (rows.length : Int) := by omega
    clear hx hy hle hv ht hu hl8 hl8' HD hl1 h0 h1 hi0 hi1
    go_wp2_with fail
    refine (HI.out w1 hR hT hT2).mono ?_
    rintro e w2 ⟨rfl, b2⟩
    have hR2 := hR.below b2
    have hT_2 := hT.below b2
    have hT2_2 := hT2.below b2
    have B2 := below_then b1 b2
    clear b1 b2 hR hT hT2
    go_wp2_with fail
    refine (HS.out w2 hR2 hT_2 hT2_2).mono ?_
    rintro e w3 ⟨rfl, b3⟩
    have hR3 := hR2.below b3
    have hT3 := hT_2.below b3
    have hU3 := hT2_2.below b3
    have B3 := below_then B2 b3
    clear b3 hR2 hT_2 hT2_2 B2 HI HS
    obtain ⟨b, off, r, A', c', rfl, hr, hc, hcap, hrd⟩ := hR3.at_ hk
    have hvt := HV.out.2 r (List.mem_of_getElem? hr.out)
    have HI2 := Lib.hid (GainTold_yes (some ⟨b, off, none⟩) A' c1 c' k rows r w3 hR3 hrd.out hcap H8.out HV.out hk hvt)
    rw [show gtF rows k r = y by rw [HY.out, getD_row hr.out]] at HI2
    clear hcap hvt hr hrd
    go_wp2_with fail
    refine HI2.out.mono ?_
    rintro e w4 ⟨rfl, b4⟩
    have hR4 := hR3.below b4
    have hT4 := hT3.below b4
    have hU4 := hU3.below b4
    have B4 := below_then B3 b4
    clear b4 hR3 hT3 hU3 B3 hc HI2
    rcases hma : mvA rows with _ | _
    · rw [hma] at hMV
      have HMV := Lib.hid hMV
      clear hma hMV hMA hMB
      go_wp2_with fail
      refine (HMV.out _ hR4).mono ?_
      rintro e w5 ⟨rfl, b5⟩
      go_wp2
      go_ret
      exact ⟨rfl, below_then B4 b5⟩
    · have hxy := HLE.out hma
      rw [hma] at hMV
      have HMV := Lib.hid hMV
      have q1 : decide (x ≤ y) = true := by simpa using hxy
      rcases h5 : mvB ta with _ | _
      · rw [h5] at hMA
        have HMA := Lib.hid hMA
        clear hma hMV hMA hMB h5
        go_wp2_with fail
        refine (HMV.out _ hR4).mono ?_
        rintro e w5 ⟨rfl, b5⟩
        go_wp2_with fail
        refine (HMA.out _ (hT4.below b5)).mono ?_
        rintro e w6 ⟨rfl, b6⟩
        go_wp2
        go_ret
        exact ⟨rfl, below_then (below_then B4 b5) b6⟩
      · rw [h5] at hMA
        have HMA := Lib.hid hMA
        rcases h6 : mvB tb with _ | _
        · rw [h6] at hMB
          have HMB := Lib.hid hMB
          clear hma hMV hMA hMB h5 h6
          go_wp2_with fail
          refine (HMV.out _ hR4).mono ?_
          rintro e w5 ⟨rfl, b5⟩
          go_wp2_with fail
          refine (HMA.out _ (hT4.below b5)).mono ?_
          rintro e w6 ⟨rfl, b6⟩
          go_wp2_with fail
          refine (HMB.out _ ((hU4.below b5).below b6)).mono ?_
          rintro e w7 ⟨rfl, b7⟩
          go_wp2
          go_ret
          exact ⟨rfl, below_then (below_then (below_then B4 b5) b6) b7⟩
        · rw [h6] at hMB
          have HMB := Lib.hid hMB
          clear hma hMV hMA hMB h5 h6
          go_wp2_with fail
          refine (HMV.out _ hR4).mono ?_
          rintro e w5 ⟨rfl, b5⟩
          go_wp2_with fail
          refine (HMA.out _ (hT4.below b5)).mono ?_
          rintro e w6 ⟨rfl, b6⟩
          go_wp2_with fail
          refine (HMB.out _ ((hU4.below b5).below b6)).mono ?_
          rintro e w7 ⟨rfl, b7⟩
          go_wp2
          go_ret
          exact ⟨rfl, below_then (below_then (below_then B4 b5) b6) b7⟩
  · have HI := Lib.hid (fun (W : World) (h : RdR W A1 c1 rows) (T1 : Rd W U d ta) (T2 : Rd W V f tb) => GainAsTwo_no A1 U V c1 d f i rows ta tb W h T1 T2 (by omega) hl8' (by omega) (by omega) hf)
    have HS := Lib.hid (fun (W : World) (h : RdR W A1 c1 rows) (T1 : Rd W U d ta) (T2 : Rd W V f tb) => SGainAsTwo_no A1 U V c1 d f i rows ta tb W h T1 T2 (by omega) hl8' (by omega) (by omega) hf)
    clear hf hMV hMA hMB hl8 hl8' HD hl1
    go_wp2_with fail
    refine (HI.out w1 hR hT hT2).mono ?_
    rintro e w2 ⟨rfl, b2⟩
    go_wp2_with fail
    refine (HS.out w2 (hR.below b2) (hT.below b2) (hT2.below b2)).mono ?_
    rintro e w3 ⟨rfl, b3⟩
    go_wp2
    go_ret
    exact ⟨rfl, below_then (below_then b1 b2) b3⟩

end Go.Proofs.Ytfjncipekjnbjaa
