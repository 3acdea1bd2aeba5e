/-
  The laws of chapter 6: prices drawn, the draws of a table and prices, lists in which a number is, and that rise.
-/
import Derived.Test.YtccbjgajmjcpjabG32
namespace Go.Proofs.Ytccbjgajmjcpjab
open Go.RowKit Go.Lib

/-- What is drawn: prices, most often. -/
def PrsIs (w : World) (rb k : Nat) (e : Ending) (w' : World) : Prop :=
  ∃ (g off c : Nat) (p : List Int), e = .returned (.slice (some ⟨g, off, none⟩) p.length c) ∧ (p.length = 3 ∨ p.length = 2) ∧ (∀ x ∈ p, -1 ≤ x ∧ x ≤ 41) ∧ Rd w' (some ⟨g, off, none⟩) c p ∧ p.length ≤ c ∧ w.heap.size ≤ g ∧ g < w'.heap.size ∧ Rdr w' rb k ∧ w.grownBy w' (some rb)

theorem mem3 {x y z : Int} {P : Int → Prop} (hx : P x) (hy : P y) (hz : P z) : ∀ v ∈ [x, y, z], P v := by
  intro v hv
  simp only [List.mem_cons, List.not_mem_nil, or_false] at hv
  rcases hv with rfl | rfl | rfl <;> assumption
theorem mem2 {y z : Int} {P : Int → Prop} (hy : P y) (hz : P z) : ∀ v ∈ [y, z], P v := by
  intro v hv
  simp only [List.mem_cons, List.not_mem_nil, or_false] at hv
  rcases hv with rfl | rfl <;> assumption

set_option maxHeartbeats 1600000 in
set_option maxRecDepth 100000 in
theorem somePrices_any (rb k : Nat) (w : World) (h : Rdr w rb k) (hk : k + 50 ≤ 1000000) :
    Calls Try.prog 80 #[.pointer (some ⟨rb, 0, none⟩)] w (PrsIs w rb (k + 6)) := by
  have hl := h.lt
  go_enter Try.func80, Try.ntmps80
  go_wp2_with fail
  refine (pick_any rb k 8 w h (by omega) (by decide) (by decide)).mono ?_
  rintro e w1 ⟨x, rfl, hx0, hx1, hr1, hg1⟩
  go_wp2_with fail
  refine (pick_any rb (k + 1) 8 w1 hr1 (by omega) (by decide) (by decide)).mono ?_
  rintro e w2 ⟨y, rfl, hy0, hy1, hr2, hg2⟩
  have gg2 := hg1.trans hg2
  clear hg1 hg2
  go_wp2_with fail
  refine (pick_any rb (k + 1 + 1) 8 w2 hr2 (by omega) (by decide) (by decide)).mono ?_
  rintro e w3 ⟨z, rfl, hz0, hz1, hr3, hg3⟩
  have gg3 := gg2.trans hg3
  have hl3 := hr3.lt
  have HX : Hid (-1 ≤ x ∧ x ≤ 41) := Lib.hid (by have := pick_lt hx0 hx1 (by decide); omega)
  have HY : Hid (-1 ≤ y ∧ y ≤ 41) := Lib.hid (by have := pick_lt hy0 hy1 (by decide); omega)
  have HZ : Hid (-1 ≤ z ∧ z ≤ 41) := Lib.hid (by have := pick_lt hz0 hz1 (by decide); omega)
  clear gg2 hg3 hx0 hx1 hy0 hy1 hz0 hz1
  have hr4 := hr3.alloc (.cells #[.int .i64 x, .int .i64 y, .int .i64 z] 3)
  have o4 : Own (w3.alloc (.cells #[.int .i64 x, .int .i64 y, .int .i64 z] 3)) w3.heap.size (some ⟨w3.heap.size, 0, none⟩) 3 [x, y, z] := own_lit w3 [x, y, z] (by simp)
  have gg4 := gb_alloc gg3 (.cells #[.int .i64 x, .int .i64 y, .int .i64 z] 3)
  have hsz := gg3.size
  obtain ⟨w4, hw4⟩ : ∃ w4, w4 = w3.alloc (.cells #[.int .i64 x, .int .i64 y, .int .i64 z] 3) := ⟨_, rfl⟩
  have hs4 : w4.heap.size = w3.heap.size + 1 := by rw [hw4]; simp
  rw [← hw4] at hr4 o4 gg4
  have HW := Lib.hid hw4
  go_wp2_with fail
  rw [← HW.out]
  clear hw4 gg3
  refine (pick_any rb (k + 1 + 1 + 1) 30 w4 hr4 (by omega) (by decide) (by decide)).mono ?_
  rintro e w5 ⟨m, rfl, hm0, hm1, hr5, hg5⟩
  have o5 : Own w5 w3.heap.size (some ⟨w3.heap.size, 0, none⟩) 3 [x, y, z] := o4.kept_ (A2 := some ⟨rb, 0, none⟩) hg5 (.inr (fun e => by have h3 : w3.heap.size = rb := Option.some.inj e; omega))
  have gg5 := gg4.trans hg5
  have hs5 := hg5.size
  have hlt5 : w3.heap.size < w5.heap.size := by omega
  clear hg5 gg4 o4 hr4 HW
  by_cases h0 : m = 0
  · subst h0
    go_wp2_with fail
    refine (one_new rb (k + 1 + 1 + 1 + 1) 3 [-1, 40, 41] _ w5 rfl rfl hr5 (by decide) (by decide) (by omega)).mono ?_
    rintro e w6 ⟨v, hv, rfl, hr6, hg6⟩
    have HV : Hid (-1 ≤ v ∧ v ≤ 41) := Lib.hid (by simp only [List.mem_cons, List.not_mem_nil, or_false] at hv; omega)
    have o6 : Own w6 w3.heap.size (some ⟨w3.heap.size, 0, none⟩) 3 [x, y, z] := o5.kept_ (A2 := some ⟨rb, 0, none⟩) hg6 (.inr (fun e => by have h3 : w3.heap.size = rb := Option.some.inj e; omega))
    have gg6 := gg5.trans hg6
    have hs6 := hg6.size
    have hcell := o6.cell (show [x, y, z][0]? = some x from rfl)
    have hfree := o6.free 0
    have HO := Lib.hid (o6.set_ 0 v)
    have HR := Lib.hid (hr6.set_ (g := w3.heap.size) (i := 0) (v := .int .i64 v) (by omega))
    have HG := Lib.hid (gb_set (g := w3.heap.size) (i := 0) (v := .int .i64 v) gg6 hsz)
    have HLT : Hid (w3.heap.size < (w6.setCell ⟨w3.heap.size, 0, none⟩ (.int .i64 v)).heap.size) := Lib.hid (by simp; omega)
    clear hg6 o5 hv hs5
    go_wp2
    go_ret
    exact ⟨w3.heap.size, 0, 3, [v, y, z], rfl, .inl rfl, mem3 HV.out HY.out HZ.out, HO.out.rd, by simp, hsz, HLT.out, HR.out.more (by omega), HG.out⟩
  by_cases h1 : m = 1
  · subst h1
    have hrd : Rd w5 (some ⟨w3.heap.size, 0 + 1, none⟩) 2 [y, z] := Rd.drop_ o5.rd 1
    go_wp2
    go_ret
    exact ⟨w3.heap.size, 1, 2, [y, z], rfl, .inr rfl, mem2 HY.out HZ.out, hrd, by simp, hsz, hlt5, hr5.more (by omega), gg5⟩
  · have q0 : (m == 0) = false := by simpa using h0
    have q1 : (m == 1) = false := by simpa using h1
    clear h0 h1
    go_wp2
    go_ret
    exact ⟨w3.heap.size, 0, 3, [x, y, z], rfl, .inl rfl, mem3 HX.out HY.out HZ.out, o5.rd, by simp, hsz, hlt5, hr5.more (by omega), gg5⟩

/-- What is drawn: a list of at most eight numbers, and prices. -/
def DrawnTP (w : World) (e : Ending) (w' : World) : Prop :=
  ∃ (g c : Nat) (t : List Int) (g2 off c2 : Nat) (p : List Int), e = .returned (.tuple #[.slice (some ⟨g, 0, none⟩) t.length c, .slice (some ⟨g2, off, none⟩) p.length c2]) ∧ Rd w' (some ⟨g, 0, none⟩) c t ∧ Rd w' (some ⟨g2, off, none⟩) c2 p ∧ t.length ≤ 8 ∧ t.length ≤ c ∧
    (p.length = 3 ∨ p.length = 2) ∧ (∀ x ∈ p, -1 ≤ x ∧ x ≤ 41) ∧ p.length ≤ c2 ∧ Below w.heap.size w w'

end Go.Proofs.Ytccbjgajmjcpjab

/-
  The laws of chapter 6: the walks of FnSurplusAt and FnDemandAt.
-/
namespace Go.Proofs.Ytccbjgajmjcpjab
open Go.RowKit Go.Lib

theorem eight_all {t : List Int} (h : t.length ≤ 8) : t.length ≤ 1099511627776 := by omega

/-- Prices that are 1 more. -/
def upL (p : List Int) : List Int := p.map (fun x => x + 1)
theorem upL_len (p : List Int) : (upL p).length = p.length := by simp [upL]
theorem upL_snoc {p : List Int} {k : Nat} {x : Int} (h : p[k]? = some x) : (upL p).take (k + 1) = (upL p).take k ++ [x + 1] := by
  rw [List.take_add_one, show (upL p)[k]? = some (x + 1) by unfold upL; rw [List.getElem?_map, h]; rfl]
  rfl
theorem upL_T {p : List Int} {k : Nat} (h : k < p.length) : T (upL p) k = T p k + 1 := by
  have hx := T_at h
  exact T_of (by unfold upL; rw [List.getElem?_map, hx]; rfl)
theorem suB_yes {t p : List Int} (h : ¬ suB t p < 0) : VT t ∧ VP p ∧ suB t p = su t p := by
  unfold suB at h ⊢
  rcases hv : vt t && vp p with _ | _
  · rw [hv] at h; simp at h
  · obtain ⟨h1, h2⟩ := Bool.and_eq_true_iff.1 hv
    exact ⟨vt_iff.1 h1, vp_iff.1 h2, rfl⟩
theorem su_top {t p : List Int} (hv : VT t) (hp : VP p) : su t p ≤ T t 7 := by
  obtain ⟨s, hs, h⟩ := su_got (p := p) hv.2.1
  have a := hv.all
  have b := hp.bd hs
  rw [h]
  unfold lf
  rcases nat8 hs with rfl | rfl | rfl | rfl | rfl | rfl | rfl | rfl <;> omega
theorem su_up {t p : List Int} (hv : VT t) (hp : VP p) : su t (upL p) ≤ su t p ∧ su t p - 3 ≤ su t (upL p) := by
  have h3 := hp.1
  have u0 := upL_T (p := p) (k := 0) (by omega)
  have u1 := upL_T (p := p) (k := 1) (by omega)
  have u2 := upL_T (p := p) (k := 2) (by omega)
  have v := pr_vals p
  have v' := pr_vals (upL p)
  have key : ∀ s, s < 8 → lf t (upL p) s ≤ lf t p s ∧ lf t p s - 3 ≤ lf t (upL p) s := fun s hs => by
    unfold lf
    rcases nat8 hs with rfl | rfl | rfl | rfl | rfl | rfl | rfl | rfl <;> omega
  obtain ⟨s, hs, h⟩ := su_got (p := upL p) hv.2.1
  obtain ⟨r, hr, h'⟩ := su_got (p := p) hv.2.1
  have a := su_le (t := t) (p := p) hs
  have b := su_le (t := t) (p := upL p) hr
  have k1 := key s hs
  have k2 := key r hr
  omega
/-- What the law says of the surplus. -/
theorem su_says {t p : List Int} (h : ¬ suB t p < 0) : t.length = 8 ∧ p.length = 3 ∧ suB t p ≤ T t 7 ∧ (suB t (upL p) < 0 ∨ (suB t (upL p) ≤ suB t p ∧ suB t p - 3 ≤ suB t (upL p))) ∧ -1 ≤ suB t (upL p) ∧ suB t p ≤ 30 := by
  obtain ⟨hv, hp, e⟩ := suB_yes h
  have a := hv.bd (show 7 < 8 by omega)
  have b := su_top hv hp
  have ge : -1 ≤ suB t (upL p) := by
    unfold suB
    split
    · have := su_ge t (upL p); omega
    · omega
  refine ⟨hv.1, hp.1, by rw [e]; exact b, ?_, ge, by omega⟩
  by_cases h2 : suB t (upL p) < 0
  · exact .inl h2
  · obtain ⟨_, _, e2⟩ := suB_yes h2
    have := su_up hv hp
    exact .inr (by omega)

end Go.Proofs.Ytccbjgajmjcpjab

/-
  Chapter 6: the program's DemandAt.
-/
namespace Go.Proofs.Ytccbjgajmjcpjab
open Go.RowKit

set_option maxRecDepth 100000 in
set_option maxHeartbeats 1600000 in
theorem DemandAt_any (A B : Option Addr) (c d : Nat) (t p : List Int) (w : World) (h : Rd w A c t) (g : Rd w B d p) (hl : t.length ≤ 1099511627776) :
    Calls Try.prog 30 #[.slice A t.length c, .slice B p.length d] w (OwnIs w (dmB t p)) := by
  have HI := Lib.hid (isPriced_any A B c d t p w h g hl)
  rcases hv : vt t && vp p with _ | _
  · have HE : Hid (dmB t p = []) := Lib.hid (by unfold dmB; rw [hv]; rfl)
    rw [hv] at HI
    clear hv
    go_enter Try.func30, Try.ntmps30
    go_wp2_with (go_at_call 91; refine HI.out.mono ?_; rintro e w1 ⟨rfl, hb⟩)
    go_ret
    exact ⟨none, 0, by rw [HE.out]; rfl, by rw [HE.out]; exact own_none _ _, hb⟩
  · rw [hv] at HI
    have HE : Hid (dmB t p = dm t p) := Lib.hid (by unfold dmB; rw [hv]; rfl)
    obtain ⟨h1, h2⟩ := Bool.and_eq_true_iff.1 hv
    have hvt := vt_iff.1 h1
    have hvp := vp_iff.1 h2
    have h8 := hvt.1
    have h3 := hvp.1
    have HL0 := fun w1 => leftAt_any t p w1 hvt hvp
    unfold ag8 ag3 at HL0
    have HL := Lib.hid HL0
    clear HL0
    have HM := Lib.hid (lfL_max (p := p) hvt.2.1)
    have HZ : Hid (0 ≤ T (lfL t p) 0) := Lib.hid (by show 0 ≤ lf t p 0; rw [lf_zero hvt.2.1]; omega)
    obtain ⟨b, off, rfl⟩ := h.some_ h8
    obtain ⟨b2, off2, rfl⟩ := g.some3 h3
    have hap := arr_ptr b off c
    have hap3 := arr3_ptr b2 off2 d
    rw [HE.out]
    rw [h8, h3] at HI ⊢
    clear hv h1 h2 hvt hvp HE
    go_enter Try.func30, Try.ntmps30
    go_wp2_with fail
    refine HI.out.mono ?_
    rintro e w1 ⟨rfl, hb⟩
    have hbd : Below w1.heap.size w1 w1.drew := (Below.refl _ w1).drew
    have hba : Below w1.heap.size w1 (w1.alloc (.cells #[.int .i64 0, .int .i64 0, .int .i64 0, .int .i64 0, .int .i64 0, .int .i64 0, .int .i64 0, .int .i64 0] 63)) := (Below.refl _ w1).alloc (Nat.le_refl _) _
    have hA1 := Arr.new w1 (List.replicate 8 0) rfl
    obtain ⟨c0, c1, c2, c3, c4, c5, c6, c7⟩ := ((h.below hb).below hbd).eight h8
    obtain ⟨g0, g1, g2⟩ := ((g.below hb).below hbd).three h3
    obtain ⟨c0', c1', c2', c3', c4', c5', c6', c7'⟩ := ((h.below hb).below hba).eight h8
    obtain ⟨g0', g1', g2'⟩ := ((g.below hb).below hba).three h3
    go_wp2_with fail
    refine wp_alike (fun M => ⟨#[.slice (some ⟨b, off, none⟩) 8 c, .slice (some ⟨b2, off2, none⟩) 3 d, undef, undef, .slice none 0 0, .pointer (some ⟨M, 0, none⟩), undef, undef, undef, undef, .slice (some ⟨b, off, none⟩) 8 c, .slice (some ⟨b2, off2, none⟩) 3 d, .bool true, .bool false, .slice (some ⟨b, off, none⟩) 8 c, .pointer (some ⟨b, off, none⟩), .agg #[.int .i64 (T t 0), .int .i64 (T t 1), .int .i64 (T t 2), .int .i64 (T t 3), .int .i64 (T t 4), .int .i64 (T t 5), .int .i64 (T t 6), .int .i64 (T t 7)], .slice (some ⟨b2, off2, none⟩) 3 d, .pointer (some ⟨b2, off2, none⟩), .agg #[.int .i64 (T p 0), .int .i64 (T p 1), .int .i64 (T p 2)], .agg #[.int .i64 (lf t p 0), .int .i64 (lf t p 1), .int .i64 (lf t p 2), .int .i64 (lf t p 3), .int .i64 (lf t p 4), .int .i64 (lf t p 5), .int .i64 (lf t p 6), .int .i64 (lf t p 7)], undef, undef, undef, undef, undef, undef, undef, undef, undef, undef, undef, undef, undef, undef, undef, undef], []⟩) (PutAt w1 (lit8 (lf t p))) (fun K1 h1 => ?first) ?rest
    case first =>
      go_region_law (first
        | (go_simp; go_at_call 92; (with_reducible refine (HL.out (w1.alloc (.cells #[.int .i64 0, .int .i64 0, .int .i64 0, .int .i64 0, .int .i64 0, .int .i64 0, .int .i64 0, .int .i64 0] 63)).drew).mono ?_); rintro e w2 ⟨rfl, hb2⟩; have hA2 := hA1.keep (hb2.block _ hA1.lt); have hB2 := below_then hba.drew hb2; have hP := put8 hB2 hA2 (Nat.le_refl _) (lf t p); obtain ⟨e0, e1, e2, e3, e4, e5, e6, e7⟩ := hA2.all; have f0 := hA2.free 0; have f1 := hA2.free 1; have f2 := hA2.free 2; have f3 := hA2.free 3; have f4 := hA2.free 4; have f5 := hA2.free 5; have f6 := hA2.free 6; have f7 := hA2.free 7)
        | (go_simp; go_at_call 92; (with_reducible refine (HL.out w1.drew).mono ?_); rintro e w2 ⟨rfl, hb2⟩; have hB2 := below_then hbd hb2; have hP := put_new hB2 (lf t p)))
      all_goals with_reducible exact exit_normal (h1 _ _ hP)
    case rest =>
      rintro M w2 ⟨hM, hB2, hA⟩
      clear hba hA1 c0 c1 c2 c3 c4 c5 c6 c7 g0 g1 g2 c0' c1' c2' c3' c4' c5' c6' c7' g0' g1' g2'
      have HX := Lib.hid (MaxFrom_any (some ⟨M, 0, none⟩) 8 8 (lfL t p) w2 rfl (hA.rd 8) (by omega) (by omega) HZ.out)
      rw [HM.out] at HX
      go_wp2_with fail
      refine HX.out.mono ?_
      rintro e w3 ⟨rfl, rfl⟩
      have BB := below_then hb hB2
      obtain ⟨e0, e1, e2, e3, e4, e5, e6, e7⟩ := hA.all
      have HI8 : Hid (∀ (k : Nat), k < 8 → ∀ w1, (Instr.index 63 (.agg #[.int .i64 (T (lit8 (lf t p)) 0), .int .i64 (T (lit8 (lf t p)) 1), .int .i64 (T (lit8 (lf t p)) 2), .int .i64 (T (lit8 (lf t p)) 3), .int .i64 (T (lit8 (lf t p)) 4), .int .i64 (T (lit8 (lf t p)) 5), .int .i64 (T (lit8 (lf t p)) 6), .int .i64 (T (lit8 (lf t p)) 7)]) (.int .i64 (k : Int))).run Try.prog w1 = .ok (.int .i64 (lf t p k)) w1) := Lib.hid (fun k hk w1 => by have h1 := idx8 (T (lit8 (lf t p))) hk w1; rw [lit8_at _ hk] at h1; exact h1)
      go_wp2
      clear e0 e1 e2 e3 e4 e5 e6 e7 hA hB2 HX HL HM HZ
      go_loopw [7, 24] (fun o i wr => ∃ (k m : Nat) (A1 : Option Addr) (c1 : Nat), k ≤ 8 ∧ o = .slice A1 m c1 ∧ i = .int .i64 (k : Int) ∧ Hid (m = (dmTo t p k).length) ∧ m ≤ 8 ∧ Hid (Own wr w.heap.size A1 c1 (dmTo t p k)) ∧ Below w.heap.size w wr) (fun _ i _ => 8 - (intOf i).toNat)
      case atStart => exact ⟨0, 0, none, 0, by omega, rfl, rfl, Lib.hid rfl, by omega, Lib.hid (own_none _ _), BB⟩
      case round =>
        obtain ⟨k, m, A1, c1, hk, rfl, rfl, HN, hm, HO, hbr⟩ := hrel
        by_cases hlt : k < 8
        · have hi := HI8.out k hlt
          have hkk := dmTo_len t p k
          have hmk : m ≤ k := by rw [HN.out]; exact hkk
          have HYE : lf t p k = su t p → Hid (dmTo t p (k + 1) = dmTo t p k ++ [(k : Int)]) := fun h => Lib.hid (dmTo_yes h)
          have HNO : ¬ lf t p k = su t p → Hid (dmTo t p (k + 1) = dmTo t p k) := fun h => Lib.hid (dmTo_no h)
          have hk8 : (k : Int) < 8 := by omega
          have hk0 : (0 : Int) ≤ (k : Int) := by omega
          have hk1 : k + 1 ≤ 8 := hlt
          clear hkk hlt
          by_cases he : lf t p k = su t p
          · have HT := HYE he
            have hq : (lf t p k == su t p) = true := by simp [he]
            have HOL := Lib.hid (own_lit wr [(k : Int)] (by simp))
            have HOA : Hid (Own (wr.alloc (.cells #[.int .i64 (k : Int)] 3)) w.heap.size A1 c1 (dmTo t p k)) := Lib.hid (World.ownsRow.alloc HO.out _)
            have hbA := hbr.alloc hbr.size (.cells #[.int .i64 (k : Int)] 3)
            clear he HYE HNO HO
            go_wp2_with (at_builtin; refine wpList_append_any rfl _ _ 26 Try.underlying26 rfl w.heap.size A1 c1 (dmTo t p k) m HN.out.symm rfl HOA.out _ _ [(k : Int)] 1 rfl rfl HOL.out.rd (by omega) hbA.size ?_; intro A4 c4 w4 o4 g4)
            have B4 := Own.grownBelow0 hbA HOA.out hbA.size g4
            have HO4 : Hid (Own w4 w.heap.size A4 c4 (dmTo t p (k + 1))) := Lib.hid (by rw [HT.out]; exact o4)
            have HN4 : Hid (m + 1 = (dmTo t p (k + 1)).length) := Lib.hid (by rw [HT.out, List.length_append, ← HN.out]; rfl)
            go_wp2
            go_roundw
            case rel => exact ⟨k + 1, m + 1, A4, c4, hk1, rfl, by go_num, HN4, by omega, HO4, B4⟩
            case measure => simp [intOf]; omega
          · have HT := HNO he
            have hq : (lf t p k == su t p) = false := by simp [he]
            have HO' : Hid (Own wr w.heap.size A1 c1 (dmTo t p (k + 1))) := Lib.hid (by rw [HT.out]; exact HO.out)
            have HN' : Hid (m = (dmTo t p (k + 1)).length) := Lib.hid (by rw [HT.out]; exact HN.out)
            clear he HYE HNO HO HN
            go_wp2
            go_roundw
            case rel => exact ⟨k + 1, m, A1, c1, hk1, rfl, by go_num, HN', hm, HO', hbr⟩
            case measure => simp [intOf]; omega
        · obtain rfl : k = 8 := by omega
          have HN' : Hid (m = (dm t p).length) := HN
          go_wp2
          go_ret
          exact ⟨A1, c1, by rw [← HN'.out]; rfl, HO.out, hbr⟩

theorem dmB_len (t p : List Int) : (dmB t p).length ≤ 8 := by unfold dmB; split; exact dm_len t p; simp
end Go.Proofs.Ytccbjgajmjcpjab

/-
  The laws of chapter 6: lists in which a number is, lists that rise, and the walk of FnDemandAt.
-/
namespace Go.Proofs.Ytccbjgajmjcpjab
open Go.RowKit Go.Lib

/-- Whether a number is in a list. -/
def inB (xs : List Int) (x : Int) : Bool := decide (x ∈ xs)
theorem inB_true {xs : List Int} {k : Nat} {x : Int} (h : xs[k]? = some x) : inB xs x = true := by unfold inB; simpa using List.mem_of_getElem? h
def NotTo (xs : List Int) (x : Int) (k : Nat) : Prop := ∀ j, j < k → xs[j]? ≠ some x
theorem NotTo.step {xs : List Int} {x y : Int} {k : Nat} (h : NotTo xs x k) (hy : xs[k]? = some y) (hne : ¬ y = x) : NotTo xs x (k + 1) := fun j hj => by
  rcases Nat.lt_or_ge j k with h1 | h1
  · exact h j h1
  · obtain rfl : j = k := by omega
    rw [hy]
    intro e
    injection e with e
    exact hne e
theorem NotTo.all {xs : List Int} {x : Int} (h : NotTo xs x xs.length) : inB xs x = false := by
  unfold inB
  simp only [decide_eq_false_iff_not]
  intro hm
  obtain ⟨k, hk, he⟩ := List.mem_iff_getElem.1 hm
  exact h k hk (by rw [List.getElem?_eq_getElem hk, he])

set_option maxHeartbeats 400000 in
theorem isIn_any (A : Option Addr) (c : Nat) (xs : List Int) (x : Int) (w : World) (h1 : Rd w A c xs) (hl : xs.length ≤ 1099511627776) :
    Calls Try.prog 29 #[.slice A xs.length c, .int .i64 x] w fun e w' => e = .returned (.bool (inB xs x)) ∧ w = w' := by
  go_enter Try.func29, Try.ntmps29
  go_wp2
  go_loop [5] (fun i => ∃ k : Nat, k ≤ xs.length ∧ i = .int .i64 k ∧ Hid (NotTo xs x k)) (fun i => xs.length - (intOf i).toNat)
  case atStart => exact ⟨0, Nat.zero_le _, rfl, Lib.hid (fun j hj => absurd hj (by omega))⟩
  case round =>
    obtain ⟨k, hk, rfl, HT⟩ := hrel
    by_cases hlt : k < xs.length
    · obtain ⟨b1, o1, y, rfl, _, hy, hc1⟩ := h1.at_ hlt
      by_cases hxy : y = x
      · have hne : (y == x) = true := by simpa using hxy
        have HE : Hid (inB xs x = true) := Lib.hid (by rw [← hxy]; exact inB_true hy.out)
        clear hxy hy
        go_wp2
        go_ret
        exact ⟨by rw [HE.out]; rfl, rfl⟩
      · have hne : (y == x) = false := by simpa using hxy
        have HT' := Lib.hid (HT.out.step hy.out hxy)
        clear hxy hy
        go_wp2
        go_round
        case rel => exact ⟨k + 1, by omega, by go_num, HT'⟩
        case measure => simp [intOf]; omega
    · obtain rfl : k = xs.length := by omega
      have HE := Lib.hid HT.out.all
      go_wp2
      go_ret
      exact ⟨by rw [HE.out]; rfl, rfl⟩

/-- Each number is more than the one ahead. -/
def Rise (xs : List Int) : Prop := ∀ k, k + 1 < xs.length → T xs k < T xs (k + 1)
/-- What is in demand rises. -/
theorem dmTo_asc (t p : List Int) : ∀ k, Rise (dmTo t p k)
  | 0 => fun j hj => by simp [dmTo] at hj
  | k + 1 => by
    have ih := dmTo_asc t p k
    simp only [dmTo]
    split
    · intro j hj
      simp only [List.length_append, List.length_singleton] at hj
      rcases Nat.lt_or_ge (j + 1) (dmTo t p k).length with h1 | h1
      · have := ih j h1
        unfold T at this ⊢
        rw [List.getD_eq_getElem?_getD, List.getD_eq_getElem?_getD, List.getElem?_append_left (by omega), List.getElem?_append_left h1, ← List.getD_eq_getElem?_getD, ← List.getD_eq_getElem?_getD]
        exact this
      · have hj1 : j + 1 = (dmTo t p k).length := by omega
        have hm : T (dmTo t p k) j ∈ dmTo t p k := List.mem_of_getElem? (T_at (show j < (dmTo t p k).length by omega))
        obtain ⟨s, hs, hlt, _⟩ := dmTo_mem.1 hm
        have e1 : T (dmTo t p k ++ [(k : Int)]) (j + 1) = (k : Int) := T_of (by rw [hj1]; simp)
        have e2 : T (dmTo t p k ++ [(k : Int)]) j = T (dmTo t p k) j := by unfold T; rw [List.getD_eq_getElem?_getD, List.getD_eq_getElem?_getD, List.getElem?_append_left (by omega)]
        rw [e1, e2, hs]
        omega
    · exact ih
theorem dmB_yes {t p : List Int} (h : (dmB t p).length ≠ 0) : VT t ∧ VP p ∧ dmB t p = dm t p := by
  unfold dmB at h ⊢
  rcases hv : vt t && vp p with _ | _
  · rw [hv] at h; simp at h
  · obtain ⟨h1, h2⟩ := Bool.and_eq_true_iff.1 hv
    exact ⟨vt_iff.1 h1, vp_iff.1 h2, rfl⟩
/-- What the law says of what is in demand. -/
theorem dm_says {t p : List Int} (h : (dmB t p).length ≠ 0) : VT t ∧ VP p ∧ suB t p = su t p ∧ Rise (dmB t p) ∧ ∀ s : Nat, s < 8 → lf t p s ≤ su t p ∧ inB (dmB t p) (s : Int) = (lf t p s == su t p) := by
  obtain ⟨hv, hp, e⟩ := dmB_yes h
  refine ⟨hv, hp, ?_, by rw [e]; exact dmTo_asc t p 8, fun s hs => ⟨su_le hs, ?_⟩⟩
  · unfold suB; rw [vt_true hv, vp_true hp]; rfl
  · rw [e]
    unfold inB
    by_cases hx : lf t p s = su t p
    · rw [decide_eq_true (dm_mem.2 ⟨s, rfl, hs, hx⟩)]; simp [hx]
    · rw [decide_eq_false (fun hm => by
        obtain ⟨r, hr, _, h2⟩ := dm_mem.1 hm
        have : r = s := by omega
        subst this
        exact hx h2)]
      simp [hx]

end Go.Proofs.Ytccbjgajmjcpjab
