/-
  Chapter 5, the program: GainAsTwo.
-/
import Derived.Test.YtdbpjlconbifpabZl
namespace Go.Proofs.Ytdbpjlconbifpab
open Go.RowKit

/-- The tables that are said under two names. -/
def saidF (ts : List (List Int)) (i : Nat) (a b : List Int) : List (List Int) := ts.set i a ++ [b]
/-- What bidder i has under two names. -/
noncomputable def gwF (ts : List (List Int)) (i : Nat) (a b : List Int) : Int := T (ts.getD i []) (hasOf (wayF (saidF ts i a b)) [i, ts.length]) - paidOf (saidF ts i a b) [i, ts.length]
theorem ints_two (w : World) (x y : Int) : Rd (w.alloc (.cells #[.int .i64 x, .int .i64 y] 3)) (some ⟨w.heap.size, 0, none⟩) 2 [x, y] := (own_lit w [x, y] (by simp)).rd
theorem cell_row_one (w : World) (v : Value) : ∀ j u, [v][j]? = some u → (w.alloc (.cells #[v] 24)).cell? ((⟨w.heap.size, 0, none⟩ : Addr).add j) = some u := cell_one_new _ _ _

set_option maxHeartbeats 1000000 in
theorem GainAsTwo_yes (A U V : Option Addr) (c d f i : Nat) (ts : List (List Int)) (ta tb : List Int) (w : World) (hR : RdR w A c ts) (hT : Rd w U d ta) (hTd : ta.length ≤ d) (hT2 : Rd w V f tb) (hTf : tb.length ≤ f) (hl2 : ∀ r ∈ ts, r.length ≤ 1099511627776) (hv : VTs ts) (hi : i < ts.length) (h3 : ts.length ≤ 3) (ht : VT ta) (ht2 : VT tb) :
    Calls Try.prog 23 #[.slice A ts.length c, .int .i64 i, .slice U ta.length d, .slice V tb.length f] w (GnIs w (gwF ts i ta tb) true) := by
  have h1l : 1 ≤ ts.length := hv.1.1
  have HB := Lib.hid (hasBidder_any A c ts i w hR hl2)
  have hbt : hbB ts i = true := hb_iff.2 ⟨hv, by omega, by omega⟩
  rw [hbt] at HB
  have HVT := Lib.hid (fun (W : World) (hW : Below w.heap.size w W) => ValidTable_any U d ta W (hT.below hW) (by have := ht.1; omega))
  rw [vt_true ht] at HVT
  have HVT2 := Lib.hid (fun (W : World) (hW : Below w.heap.size w W) => ValidTable_any V f tb W (hT2.below hW) (by have := ht2.1; omega))
  rw [vt_true ht2] at HVT2
  obtain ⟨b, off, rfl, hcapR, hrows⟩ := hR.open_ h1l
  have HSB := Lib.hid (fun (W : World) (hW : Below w.heap.size w W) => saidBy_any b off c i ts.length d ta.length U ts ta W rfl rfl (hR.below hW) (hT.below hW) hTd hi (by omega))
  obtain ⟨A0, c0, hc0, hcap0, hrd0⟩ := hrows i _ (List.getElem?_eq_getElem hi)
  obtain ⟨r, hr⟩ : ∃ r, r = ts[i] := ⟨_, rfl⟩
  rw [← hr] at hc0 hcap0 hrd0
  have hgd : ts.getD i [] = r := by rw [List.getD_eq_getElem?_getD, List.getElem?_eq_getElem hi, hr]; rfl
  have hrt : VT r := by rw [hr]; exact hv.2 _ (List.getElem_mem hi)
  obtain ⟨b0, off0, rfl⟩ := hrd0.some_ hrt.1
  rw [hrt.1] at hc0
  have hsl : (saidF ts i ta tb).length = ts.length + 1 := by simp [saidF]
  have hsv : VTs (saidF ts i ta tb) := (hv.set_ i ht).snoc (by simpa using h3) ht2
  have HGU := Lib.hid (fun (W : World) (hW : Below w.heap.size w W) (g5 c5 gN : Nat) (hs : RdR W (some ⟨g5, 0, none⟩) c5 (saidF ts i ta tb)) (hN : Rd W (some ⟨gN, 0, none⟩) 2 [(i : Int), (ts.length : Int)]) =>
    gainUnder_any (some ⟨b0, off0, none⟩) (some ⟨g5, 0, none⟩) (some ⟨gN, 0, none⟩) c0 c5 2 (ts.length + 1) 2 r (saidF ts i ta tb) [i, ts.length] W hsl rfl (hrd0.below hW) hs hN hrt hsv (fun j hj => by
      simp only [List.mem_cons, List.not_mem_nil, or_false] at hj; omega) (by omega))
  have HE : Hid (gwF ts i ta tb = T r (hasOf (wayF (saidF ts i ta tb)) [i, ts.length]) - paidOf (saidF ts i ta tb) [i, ts.length]) := Lib.hid (by unfold gwF; rw [hgd])
  obtain ⟨G, hG⟩ : ∃ G, G = gwF ts i ta tb := ⟨_, rfl⟩
  rw [← hG] at HE ⊢
  rw [← HE.out] at HGU
  have HSL : Hid ((ts.set i ta).length = ts.length) := Lib.hid (by simp)
  have HSZ := Lib.hid hsl
  have HR1 : Hid (Row1 w (.slice V tb.length f) tb) := Lib.hid ⟨V, f, rfl, hTf, hT2⟩
  have hblk := World.block_lt_of_cell? w _ hc0
  have HKC := Lib.hid (fun (W : World) (hW : Below w.heap.size w W) => (hW.cell (p := ⟨b, off + i, none⟩) hblk).trans hc0)
  have hi0 : (0 : Int) ≤ (i : Int) := by omega
  have hi1 : (i : Int) < (ts.length : Int) := by omega
  have h4n : decide ((4 : Int) ≤ (ts.length : Int)) = false := by simp; omega
  clear hR hT hT2 hl2 hv ht ht2 hrows hrd0 hr hgd hrt hG hbt hcap0 HE hsl hsv hTd hTf hc0
  go_enter Try.func23, Try.ntmps23
  go_wp2_with fail
  refine HB.out.mono ?_
  rintro e w1 ⟨rfl, b1⟩
  go_wp2_with fail
  refine (HVT.out w1 b1).mono ?_
  rintro e w2 ⟨rfl, b2⟩
  have B2 := b1.trans (b2.mono b1.size)
  go_wp2_with fail
  refine (HVT2.out w2 B2).mono ?_
  rintro e w3 ⟨rfl, b3⟩
  have B3 := B2.trans (b3.mono B2.size)
  clear b1 b2 b3 B2 HVT HVT2 HB
  go_wp2_with fail
  refine (HSB.out w3 B3).mono ?_
  rintro e w4 ⟨g4, c4, vs4, rfl, o4, v4, b4⟩
  have B4 := B3.trans (b4.mono B3.size)
  have b4s := Lib.hid b4.size
  have HR3 := Lib.hid (v4.1)
  have hal := (Below.refl w4.heap.size w4).alloc (Nat.le_refl _) (.cells #[.slice V tb.length f] 24)
  have BL := B4.trans (hal.mono B4.size)
  have BL3 := Lib.hid (b4.trans (hal.mono b4.size))
  have o5 := own_len o4 hal
  have HV4 := Lib.hid (v4.more1 (HR1.out.below B3) : RowsV w3 (vs4 ++ [.slice V tb.length f]) (saidF ts i ta tb))
  clear o4 v4 b4
  have hg3 : w3.heap.size ≤ g4 := (World.ownsRow.lt o5 g4 rfl).1
  have hg0 := Nat.le_trans B3.size hg3
  have HGB := Lib.hid (fun (W : World) (hg : (w4.alloc (.cells #[.slice V tb.length f] 24)).grownBy W (some g4)) => (⟨BL.grown hg BL.size (fun k e => by cases e; exact hg0), BL3.out.grown hg BL3.out.size (fun k e => by cases e; exact hg3)⟩ : Below w.heap.size w W ∧ Below w3.heap.size w3 W))
  have HRR := Lib.hid (fun (W : World) (g5 c5 : Nat) (hb : Below w3.heap.size w3 W) (ho : W.ownsRow w3.heap.size 24 1 (.slice (some ⟨g5, 0, none⟩) (ts.length + 1) c5) (ts.length + 1) (vs4 ++ [.slice V tb.length f])) => (rdr_of_own (B := w3.heap.size) (w0 := w3) (rows := saidF ts i ta tb) (by rw [HSZ.out]; exact ho) HV4.out hb : RdR W (some ⟨g5, 0, none⟩) c5 (saidF ts i ta tb)))
  have hbs : w3.heap.size ≤ (w4.alloc (.cells #[.slice V tb.length f] 24)).heap.size := BL3.out.size
  go_wp2_with (at_builtin; refine wpList_append_rows rfl _ _ rfl w3.heap.size g4 c4 ts.length vs4 rfl o5 ⟨w4.heap.size, 0, none⟩ 1 1 [.slice V tb.length f] rfl rfl (cell_row_one w4 _) (by simp [Value.oneCell']) (ts.length + 1) rfl (by omega) hbs ?_; intro g5 c5 w5 o6 g6; obtain ⟨B5, B35⟩ := HGB.out w5 g6; have hK5 := HKC.out w5 B5; have HR5 := Lib.hid (HRR.out w5 g5 c5 B35 o6))
  have HN := Lib.hid (ints_two w5 (i : Int) (ts.length : Int))
  have hal5 := (Below.refl w5.heap.size w5).alloc (Nat.le_refl _) (.cells #[.int .i64 (i : Int), .int .i64 (ts.length : Int)] 3)
  have BX := B5.trans (hal5.mono B5.size)
  go_wp2_with fail
  refine (HGU.out _ BX g5 c5 _ (HR5.out.below hal5) HN.out).mono ?_
  rintro e w7 ⟨rfl, b7⟩
  have B7 := Lib.hid (BX.trans (b7.mono BX.size))
  go_wp2
  go_ret2
  exact ⟨rfl, B7.out⟩

end Go.Proofs.Ytdbpjlconbifpab
