/-
  The laws of chapter 5: what FnGainTold draws, and its walk.
-/
import Derived.Test.YtdbpjlconbifpaaQk
import Derived.Test.YtdbpjlconbifpaaZl
namespace Go.Proofs.Ytdbpjlconbifpaa
open Go.RowKit Go.Lib

/-- What is drawn: tables, a bidder, and another table. -/
def DrawnG (w : World) (e : Ending) (w' : World) : Prop :=
  ∃ (A : Option Addr) (c : Nat) (rows : List (List Int)) (i : Int) (U : Option Addr) (d : Nat) (told : List Int), e = .returned (.tuple #[.slice A rows.length c, .int .i64 i, .slice U told.length d]) ∧ RdR w' A c rows ∧ rows.length ≤ 4 ∧ (∀ r ∈ rows, r.length ≤ 8) ∧
    Rd w' U d told ∧ told.length ≤ d ∧ told.length ≤ 8 ∧ -1 ≤ i ∧ i ≤ 4 ∧ Below w.heap.size w w'
theorem results_threeT {fn : Func} {t u v : Tmp} (h : fn.results = #[.tmp t, .tmp u, .tmp v]) (tmps : Array Value) (P : Program) (w : World) :
    (results fn tmps).run P w = .ok (.tuple #[tmps.getD t undef, tmps.getD u undef, tmps.getD v undef]) w := by simp [results, h]

set_option maxRecDepth 100000 in
set_option maxHeartbeats 1000000 in
theorem DrawGainTold_any (A : Option Addr) (c : Nat) (xs : List Int) (w : World) (h : Came .u8 w A c xs) :
    Calls Try.prog 24 #[.slice A xs.length c] w (DrawnG w) := by
  go_enter Try.func24, Try.ntmps24
  go_wp2_with fail
  refine (newReader_any A c xs w h).mono ?_
  rintro e w1 ⟨rb, rfl, hrb, hr1, hb1⟩
  go_wp2_with fail
  refine (someTables_any rb 0 w1 hr1 (by decide)).mono ?_
  rintro e w2 ⟨v, ps, rfl, R2, hp4, hp8, hr2, hg2⟩
  have B2 := hb1.trans (gb_below hg2 hb1.size hrb)
  have H6 := Lib.hid (eight_map hp4 hp8)
  have HLN : Hid (ps.length = (ps.map (·.2.2)).length) := Lib.hid (by rw [List.length_map])
  have hlt1 := hr1.lt
  obtain ⟨A2, c2, hv, hcc⟩ : ∃ A2 c2, v = .slice A2 ps.length c2 ∧ True := by
    obtain ⟨A2, c2, hv, _⟩ := R2.rdr rfl
    exact ⟨A2, c2, by rw [hv, List.length_map], trivial⟩
  subst hv
  clear hp8 hg2 hcc
  go_wp2_with fail
  refine (pick_any rb 170 ps.length w2 hr2 (by decide) (by omega) (by omega)).mono ?_
  rintro e w4 ⟨i1, rfl, hi10, hi11, hr4, hg4⟩
  have R4 := R2.ask hg4 hlt1
  have B4 := B2.trans (gb_below hg4 B2.size hrb)
  clear R2 hg4 hr2 B2
  go_wp2_with fail
  refine (pick_any rb 171 ps.length w4 hr4 (by decide) (by omega) (by omega)).mono ?_
  rintro e w5 ⟨i2, rfl, hi20, hi21, hr5, hg5⟩
  have R5 := R4.ask hg5 hlt1
  have B5 := B4.trans (gb_below hg5 B4.size hrb)
  clear R4 hg5 hr4 B4
  go_wp2_with fail
  refine (one_new rb 172 5 [i1, i2, 0, ps.length, -1] _ w5 rfl rfl hr5 (by decide) (by decide) (by decide)).mono ?_
  rintro e w6 ⟨i, hi, rfl, hr6, hg6⟩
  have hi0 : -1 ≤ i := by simp only [List.mem_cons, List.not_mem_nil, or_false] at hi; omega
  have hi1 : i ≤ 4 := by simp only [List.mem_cons, List.not_mem_nil, or_false] at hi; omega
  have R6 := R5.ask hg6 hlt1
  have B6 := B5.trans (gb_below hg6 B5.size hrb)
  clear R5 hg6 hr5 B5 hi
  go_wp2_with fail
  refine (someTable_any rb 173 w6 hr6 (by decide)).mono ?_
  rintro e w7 ⟨g7, c7, told, rfl, ht8, o7, hr7, hg7⟩
  have R7 := R6.ask hg7 hlt1
  have B7 := B6.trans (gb_below hg7 B6.size hrb)
  obtain ⟨A8, c8, hv8, hR7⟩ := R7.rdr rfl
  rw [List.length_map] at hv8
  injection hv8 with e1 _ e3
  subst e1 e3
  have HO7 := Lib.hid o7
  clear R6 R7 hg7 hr7 B6 o7
  go_wp2
  refine bodyPost_ret (results_threeT rfl _ _ _) rfl ?_
  exact ⟨A2, c2, ps.map (·.2.2), i, _, c7, told, by rw [← HLN.out]; rfl, hR7, H6.out.1, H6.out.2, HO7.out.rd, HO7.out.cap.1, ht8, hi0, hi1, B7⟩

set_option maxHeartbeats 4000000 in
set_option maxRecDepth 100000 in
theorem fnGainTold_walk {A : Option Addr} {c : Nat} {xs : List Int} {w : World} (h : Came .u8 w A c xs) :
    Calls Try.prog 7 #[.slice A xs.length c] w fun e w' => e = .returned (.bool true) ∧ Below w.heap.size w w' := by
  by_cases hlen : 1048576 < xs.length
  · go_enter Try.func7, Try.ntmps7
    go_wp2
    go_ret
    exact ⟨rfl, Below.refl _ _⟩
  have hl1 : xs.length ≤ 1048576 := by omega
  have HD := Lib.hid (DrawGainTold_any A c xs w h)
  clear hlen h
  go_enter Try.func7, Try.ntmps7
  go_wp2_with fail
  refine HD.out.mono ?_
  rintro e w1 ⟨A1, c1, rows, i, U, d, told, rfl, hR, hl4, hl8, hT, hTd, ht8, hi0, hi1, b1⟩
  have hl8' : ∀ r ∈ rows, r.length ≤ 1099511627776 := fun r hr => by have := hl8 r hr; omega
  by_cases hf : hbB rows i = true ∧ vt told = true
  · obtain ⟨hb, ht⟩ := hf
    rw [hb_iff] at hb
    rw [vt_iff] at ht
    obtain ⟨hv, h0, h1⟩ := hb
    obtain ⟨k, rfl⟩ := Int.eq_ofNat_of_zero_le h0
    have hk : k < rows.length := by omega
    have HI := Lib.hid (fun (W : World) (h : RdR W A1 c1 rows) (T : Rd W U d told) => GainTold_yes A1 U c1 d k rows told W h T hTd hl8' hv hk ht)
    have HS := Lib.hid (fun (W : World) (h : RdR W A1 c1 rows) (T : Rd W U d told) => SGainTold_yes A1 U c1 d k rows told W h T hTd hl8' hv hk ht)
    have HAD := Lib.hid (fun (W : World) (hW : RdR W A1 c1 rows) => AddsOf_yes A1 c1 rows.length rows W rfl hW hl8' hv)
    have hgl := gt_le (ts := rows) told hk
    have hgt := gt_truth hv.2 hv.1.2 hk
    have had := ad_nn hv.2 hk
    obtain ⟨x, hx⟩ : ∃ x, x = gtF rows k told := ⟨_, rfl⟩
    obtain ⟨y, hy⟩ : ∃ y, y = adF rows k := ⟨_, rfl⟩
    rw [← hx] at HI HS hgl
    rw [← hy] at hgl hgt had
    have HY := Lib.hid hy
    have HGT := Lib.hid hgt
    have HV := Lib.hid hv
    have H8 := Lib.hid hl8'
    have p1 : (x != x) = false := by simp
    have p3 : decide (x ≤ y) = true := by simp; omega
    have p5 : (y == y) = true := by simp
    have hk0 : (0 : Int) ≤ (k : Int) := by omega
    have hk1 : (k : Int) < (rows.length : Int) := by omega
    clear hx hy hgl hgt had hv ht hl8 hl8' HD hl1 h0 h1 hi0 hi1
    go_wp2_with fail
    refine (HI.out w1 hR hT).mono ?_
    rintro e w2 ⟨rfl, b2⟩
    go_wp2_with fail
    refine (HS.out w2 (hR.below b2) (hT.below b2)).mono ?_
    rintro e w3 ⟨rfl, b3⟩
    have hR3 := (hR.below b2).below b3
    have B3 := below_then b1 (b2.trans (b3.mono b2.size))
    clear b1 b2 b3 hR hT HI HS
    obtain ⟨b, off, r, A', c', rfl, hr, hc, hcap, hrd⟩ := hR3.at_ hk
    have hvt := HV.out.2 r (List.mem_of_getElem? hr.out)
    have HI2 := Lib.hid (fun (W : World) (hW : Below w3.heap.size w3 W) => GainTold_yes (some ⟨b, off, none⟩) A' c1 c' k rows r W (hR3.below hW) (hrd.out.below hW) hcap H8.out HV.out hk hvt)
    rw [show gtF rows k r = y by rw [← HGT.out, getD_row hr.out]] at HI2
    clear hcap
    have HRV := Lib.hid hvt
    clear hvt hr hrd
    go_wp2_with fail
    refine (HI2.out w3 (Below.refl _ _)).mono ?_
    rintro e w4 ⟨rfl, b4⟩
    have hR4 := hR3.below b4
    have B4 := B3.trans (b4.mono B3.size)
    clear b4 B3
    go_wp2_with fail
    refine (HAD.out w4 hR4).mono ?_
    rintro e w5 ⟨g5, c5, rfl, o5, b5⟩
    have hc5 := o5.cell (show (vls (adF rows) rows.length)[k]? = some y by rw [vls_at hk, HY.out])
    have B5 := Lib.hid (B4.trans (b5.mono B4.size))
    clear o5 b5
    go_wp2
    go_ret
    exact ⟨rfl, B5.out⟩
  · have hno : (hbB rows i && vt told) = false := by
      cases h1 : hbB rows i <;> cases h2 : vt told <;> simp_all
    have HI := Lib.hid (fun (W : World) (h : RdR W A1 c1 rows) (T : Rd W U d told) => GainTold_no A1 U c1 d i rows told W h T hl8' (by omega) hno)
    have HS := Lib.hid (fun (W : World) (h : RdR W A1 c1 rows) (T : Rd W U d told) => SGainTold_no A1 U c1 d i rows told W h T (by omega) hl8' (by omega) hno)
    clear hf hno HD hl8 hl8' hl1
    go_wp2_with fail
    refine (HI.out w1 hR hT).mono ?_
    rintro e w2 ⟨rfl, b2⟩
    go_wp2_with fail
    refine (HS.out w2 (hR.below b2) (hT.below b2)).mono ?_
    rintro e w3 ⟨rfl, b3⟩
    have B3 := below_then b1 (b2.trans (b3.mono b2.size))
    clear b1 b2 b3
    go_wp2
    go_ret
    exact ⟨rfl, B3⟩

end Go.Proofs.Ytdbpjlconbifpaa
