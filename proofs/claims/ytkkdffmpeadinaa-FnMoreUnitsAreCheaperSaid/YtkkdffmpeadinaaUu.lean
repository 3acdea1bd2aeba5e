/-
  Chapter 3: the contracts of GainUnits, of the program and of the model.
-/
import Derived.Test.YtkkdffmpeadinaaUt
namespace Go.Proofs.Ytkkdffmpeadinaa
open Go.RowKit

set_option maxHeartbeats 400000 in
theorem CloneRows_any (b off c n : Nat) (rows : List (List Int)) (w : World) (hn : rows.length = n) (hR : RdR w (some ⟨b, off, none⟩) c rows) (hl : n ≤ 1000) (h1 : 1 ≤ n) :
    Calls Try.prog 69 #[.slice (some ⟨b, off, none⟩) n c] w (CopyIs w rows n) := by
  subst hn
  have qT : ∀ (w : World) (a : Option Addr) (n c n' c' : Nat), (binOp .eql 23 (.slice a n c) (.slice none n' c')).run Try.prog w = .ok (.bool a.isNone) w := fun w a n c n' c' => Lib.run_eql_slice_nil w _ _ a n c n' c' Try.underlying23
  have hb0 := (Below.refl w.heap.size w).alloc (Nat.le_refl _) (.cells #[] 29)
  have HR := Lib.hid hR
  have ho := row_empty w
  clear hR
  go_enter Try.func69, Try.ntmps69
  go_wp2_with (at_builtin; refine wpList_copy_rows rfl _ _ rfl w.heap.size w.heap.size rfl ho w b off c rows.length rows rfl rfl HR.out hb0 (by omega) h1 hb0.size ?_; intro g2 c2 vs w2 o2 v2 g2'; have B2 : Below w.heap.size w w2 := hb0.grown g2' hb0.size (fun k e => by cases e; exact Nat.le_refl _); have HV := Lib.hid v2; have HO := Lib.hid o2; clear o2 v2 g2')
  go_ret
  exact ⟨g2, c2, vs, rfl, HO.out, HV.out, B2⟩

/-- Demands, a number of units, a bidder, and a row that is told. -/
noncomputable def guB (rows : List (List Int)) (k i : Int) (told : List Int) : Bool := fuB rows k && (inR i 0 ((rows.length : Int) - 1) && rowB told)
/-- What a bidder has when another row is told. -/
def guF (rows : List (List Int)) (k i : Nat) (told : List Int) : Int := pre (RW rows i) (aw (RW (rows.set i told)) rows.length k i) - pivF (rows.set i told) k i

/-- What GainUnits hands back. -/
def PairIs (w : World) (x : Int) (b : Bool) (e : Ending) (w' : World) : Prop := e = .returned (.tuple #[.int .i64 x, .bool b]) ∧ Below w.heap.size w w'

theorem pre_piv_bd {rows : List (List Int)} (hv : VD rows) {i : Nat} (hi : i < rows.length) (k : Nat) : -600 ≤ pivF rows k i ∧ pivF rows k i ≤ 600 := by
  have hb := hv.butGood (i := i)
  rw [but_len hi] at hb
  have h1 := bst_bd (x := k) hb (Nat.le_refl _) (by have := hv.1.2; omega)
  have h2 := sumBut_bd (f := fun j => pre (RW rows j) (aw (RW rows) rows.length k j)) (i := i) rows.length (fun q hq => pre_le150 (hv.good q hq) _)
  have h3 := hv.1.2
  unfold pivF
  omega

theorem takenBy_n (A B : Option Addr) (c d k i n : Nat) (rows : List (List Int)) (w : World) (hn : rows.length = n) (hR : RdR w A c rows) (hv : VD rows) (hk : k ≤ 5) (hB : Rd w B d (lst (aw (RW rows) n k) n)) (hi : i < n) :
    Calls Try.prog 70 #[.slice A n c, .int .i64 k, .slice B n d, .int .i64 i] w fun e w' => e = .returned (.int .i64 (pivF rows k i)) ∧ Below w.heap.size w w' := by
  subst hn; exact takenBy_any A B c d k i rows _ w hR hv hk hB (aw_small hk) hi

set_option maxHeartbeats 2000000 in
theorem GainUnits_yes (A T : Option Addr) (c d k i : Nat) (rows : List (List Int)) (told : List Int) (w : World) (hR : RdR w A c rows) (hT : Rd w T d told) (hTd : told.length ≤ d) (hv : VD rows) (hk : k ≤ 5) (hi : i < rows.length) (ht : RowOk told) :
    Calls Try.prog 34 #[.slice A rows.length c, .int .i64 k, .int .i64 i, .slice T told.length d] w (PairIs w (guF rows k i told) true) := by
  have hl : rows.length ≤ 4 := hv.1.2
  have h1l : 1 ≤ rows.length := hv.1.1
  obtain ⟨b, off, rfl, hcapR, _⟩ := hR.open_ h1l
  have HC := Lib.hid (areForUnits_any (some ⟨b, off, none⟩) c rows k w hR (by have := hv.1; omega) hv.lens)
  rw [fuB_yes hv hk] at HC
  have HI := Lib.hid (fun n => isRow_any T d told (w.drewN n) (hT.drewN n) (by have := ht.1; omega))
  rw [rowB_true ht] at HI
  have HCl := Lib.hid (fun n => CloneRows_any b off c rows.length rows (w.drewN n) rfl (hR.drewN n) (by omega) h1l)
  have hsv : VD (rows.set i told) := hv.setVD i ht
  have HSV := Lib.hid hsv
  have HV := Lib.hid hv
  have HRR := Lib.hid hR
  have HTT : Hid (∀ w' : World, Below w.heap.size w w' → Row1 w (.slice T told.length d) told) := Lib.hid (fun w' _ => ⟨T, d, rfl, hTd, hT⟩)
  have hi1 : ¬ ((i : Int) < 0) := by omega
  have hi2 : ¬ ((rows.length : Int) ≤ (i : Int)) := by omega
  obtain ⟨G, hG⟩ : ∃ G, G = guF rows k i told := ⟨_, rfl⟩
  rw [← hG]
  have HGE := Lib.hid hG
  clear hR hT hv ht hsv hG
  go_enter Try.func34, Try.ntmps34
  go_wp2_with fail
  refine HC.out.mono ?_
  rintro e w1 ⟨rfl, m, rfl⟩
  go_wp2_with fail
  refine (HI.out m).mono ?_
  rintro e w2 ⟨rfl, m2, rfl⟩
  have hmm : (w.drewN m).drewN m2 = w.drewN (m + m2) := World.drewN_drewN _ _ _
  rw [hmm]
  clear hmm
  go_wp2_with fail
  refine (HCl.out (m + m2)).mono ?_
  rintro e w3 ⟨g3, c3, vs, rfl, o3, v3, b3⟩
  have B3 : Below w.heap.size w w3 := (below_drewN' (Below.refl _ w) (m + m2)).trans b3
  have hcell := World.ownsRow.cellAt o3 i (by omega)
  have hfr := World.ownsRow.frozenAt o3 i
  have hst := (World.ownsRow.stored o3 i (.slice T told.length d)).1
  obtain ⟨vi, hvi⟩ : ∃ vi, vs[i]? = some vi := ⟨_, List.getElem?_eq_getElem (by rw [v3.1]; exact hi)⟩
  rw [hvi] at hcell
  have hge := (World.ownsRow.lt o3 g3 rfl).1
  have B4 := B3.setCell (p := ⟨g3, i, none⟩) hge (.slice T told.length d)
  have hv4 : RowsV w (vs.set i (.slice T told.length d)) (rows.set i told) := RowsV.set_ (w := w) v3 i (HTT.out w (Below.refl _ _))
  have HR4 : Hid (RdR (w3.setCell ⟨g3, i, none⟩ (.slice T told.length d)) (some ⟨g3, 0, none⟩) c3 (rows.set i told)) := Lib.hid (by
    have hst' : (w3.setCell ⟨g3, i, none⟩ (.slice T told.length d)).ownsRow w.heap.size 29 1 (.slice (some ⟨g3, 0, none⟩) (rows.set i told).length c3) (rows.set i told).length (vs.set i (.slice T told.length d)) := by
      rw [List.length_set]; exact hst
    exact rdr_of_own hst' hv4 B4)
  have HB4 := Lib.hid B4
  clear o3 v3 b3 hst hvi B3 B4 hv4
  have HA := AwardUnits_yes (some ⟨g3, 0, none⟩) c3 (rows.set i told) k _ HR4.out HSV.out hk
  rw [List.length_set] at HA
  have HA := Lib.hid HA
  go_wp2_with fail
  refine HA.out.mono ?_
  rintro e w5 ⟨g5, c5, rfl, o5, b5⟩
  have B5 : Below w.heap.size w w5 := HB4.out.trans (b5.mono HB4.out.size)
  have hwr := worthTo_any (some ⟨b, off, none⟩) (some ⟨g5, 0, none⟩) c c5 rows (aw (RW (rows.set i told)) rows.length k) i w5 (HRR.out.below B5) o5.rd hi (HV.out.good i hi) (by have := aw_le (R := RW (rows.set i told)) (n := rows.length) k i; omega)
  have htk := fun n => takenBy_n (some ⟨g3, 0, none⟩) (some ⟨g5, 0, none⟩) c3 c5 k i rows.length (rows.set i told) (w5.drewN n) (by simp) ((HR4.out.below b5).drewN n) HSV.out hk (o5.rd.drewN n) hi
  obtain ⟨x, hx⟩ : ∃ x, x = pre (RW rows i) (aw (RW (rows.set i told)) rows.length k i) := ⟨_, rfl⟩
  obtain ⟨y, hy⟩ : ∃ y, y = pivF (rows.set i told) k i := ⟨_, rfl⟩
  have hxb := pre_le150 (HV.out.good i hi) (aw (RW (rows.set i told)) rows.length k i)
  have hyb := pre_piv_bd HSV.out (i := i) (by simpa using hi) k
  have HE : Hid (G = x - y) := Lib.hid (by rw [HGE.out, hx, hy]; rfl)
  rw [← hx] at hwr hxb
  rw [← hy] at hyb
  have HWR := Lib.hid hwr
  have HTK : Hid (∀ n, Calls Try.prog 70 #[.slice (some ⟨g3, 0, none⟩) rows.length c3, .int .i64 k, .slice (some ⟨g5, 0, none⟩) rows.length c5, .int .i64 i] (w5.drewN n) fun e w' => e = .returned (.int .i64 y) ∧ Below (w5.drewN n).heap.size (w5.drewN n) w') := Lib.hid (fun n => by rw [hy]; exact htk n)
  have hx0 := hxb.1
  have hx1 := hxb.2
  have hy0 := hyb.1
  have hy1 := hyb.2
  clear o5 b5 hwr htk hx hy hxb hyb hcell hfr
  go_wp2_with fail
  refine HWR.out.mono ?_
  rintro e w6 ⟨rfl, n6, rfl⟩
  go_wp2_with fail
  refine (HTK.out n6).mono ?_
  rintro e w7 ⟨rfl, b7⟩
  have B7 : Below w.heap.size w w7 := (below_drewN' B5 n6).trans (b7.mono B5.size)
  clear b7
  go_wp2
  go_ret2
  exact ⟨by rw [HE.out]; rfl, B7⟩

set_option maxHeartbeats 800000 in
theorem GainUnits_no (A T : Option Addr) (c d : Nat) (k i : Int) (rows : List (List Int)) (told : List Int) (w : World) (hR : RdR w A c rows) (hT : Rd w T d told) (hl : rows.length ≤ 1099511627776) (hl2 : ∀ r ∈ rows, r.length ≤ 1099511627776) (hl3 : told.length ≤ 1099511627776) (hf : guB rows k i told = false) :
    Calls Try.prog 34 #[.slice A rows.length c, .int .i64 k, .int .i64 i, .slice T told.length d] w (PairIs w 0 false) := by
  have HC := areForUnits_any A c rows k w hR hl hl2
  have HI := Lib.hid (fun n => isRow_any T d told (w.drewN n) (hT.drewN n) hl3)
  unfold guB at hf
  cases hb : fuB rows k with
  | false =>
    rw [hb] at HC
    have HC := Lib.hid HC
    clear hf hb
    go_enter Try.func34, Try.ntmps34
    go_wp2_with (go_at_call 51; refine HC.out.mono ?_; rintro e w1 ⟨rfl, m, rfl⟩)
    go_ret2
    exact ⟨rfl, below_drewN' (Below.refl _ _) _⟩
  | true =>
    rw [hb] at HC hf
    have HC := Lib.hid HC
    rw [Bool.true_and] at hf
    cases hr : inR i 0 ((rows.length : Int) - 1) with
    | false =>
      have hri := inR_false.1 hr
      clear hf hb hr
      by_cases h0 : i < 0
      · have h0' : decide (i < 0) = true := by simpa using h0
        go_enter Try.func34, Try.ntmps34
        go_wp2_with (go_at_call 51; refine HC.out.mono ?_; rintro e w1 ⟨rfl, m, rfl⟩)
        go_ret2
        exact ⟨rfl, below_drewN' (Below.refl _ _) _⟩
      · have hi2 : (rows.length : Int) ≤ i := by omega
        clear hri
        go_enter Try.func34, Try.ntmps34
        go_wp2_with (go_at_call 51; refine HC.out.mono ?_; rintro e w1 ⟨rfl, m, rfl⟩)
        go_ret2
        exact ⟨rfl, below_drewN' (Below.refl _ _) _⟩
    | true =>
      have hri := inR_true.1 hr
      rw [hr, Bool.true_and] at hf
      rw [hf] at HI
      have hi1 : ¬ (i < 0) := by omega
      have hi2 : ¬ ((rows.length : Int) ≤ i) := by omega
      clear hf hb hr hri
      go_enter Try.func34, Try.ntmps34
      go_wp2_with fail
      refine HC.out.mono ?_
      rintro e w1 ⟨rfl, m, rfl⟩
      go_wp2_with fail
      refine (HI.out m).mono ?_
      rintro e w2 ⟨rfl, m2, rfl⟩
      go_wp2
      go_ret2
      exact ⟨rfl, below_drewN' (Below.refl _ _) _⟩

end Go.Proofs.Ytkkdffmpeadinaa
