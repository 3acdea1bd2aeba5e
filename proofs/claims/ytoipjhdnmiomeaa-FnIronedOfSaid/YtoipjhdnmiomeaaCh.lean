/-
  Chapter 2, the program: the contracts of slopeOf and steepestFrom.
-/
import Derived.Test.YtoipjhdnmiomeaaCg
namespace Go.Proofs.Ytoipjhdnmiomeaa
open Go.RowKit

theorem slope_parts {xs : List Int} {u v : Nat} {n d : Int} (hv : vW xs = true) (huv : u < v) (hvl : v ≤ xs.length) (hq : FrIs (slopeQ xs u v) n d) :
    FrIs (fq (u * tailW xs u - v * tailW xs v) (tailW xs u - tailW xs v)) n d ∧ 1 ≤ tailW xs u - tailW xs v ∧ -216 ≤ n ∧ n ≤ 216 ∧ 1 ≤ d ∧ d ≤ 36 := by
  have h1 := tailW_lt (vW_valid hv) huv hvl
  have l6 := (vW_le hv).2
  have r1 := revW_le hv (show u ≤ 6 by omega)
  have r2 := revW_le hv (show v ≤ 6 by omega)
  have r3 := revW_nn hv u
  have r4 := revW_nn hv v
  have t1 := rev_b hv u
  have t2 := rev_b hv v
  have hf := fq_le (up := revW xs u - revW xs v) (dn := tailW xs u - tailW xs v) (by omega) hq
  exact ⟨hq, by omega, by omega, by omega, by omega, by omega⟩

theorem mul_bd {a d A D : Int} (h1 : -A ≤ a) (h2 : a ≤ A) (h3 : 1 ≤ d) (h4 : d ≤ D) (hA : 0 ≤ A) : -(A * D) ≤ a * d ∧ a * d ≤ A * D := by
  have e1 : A * d ≤ A * D := Int.mul_le_mul_of_nonneg_left h4 hA
  have e2 : a * d ≤ A * d := Int.mul_le_mul_of_nonneg_right h2 (by omega)
  have e3 : -A * d ≤ a * d := Int.mul_le_mul_of_nonneg_right h1 (by omega)
  have e4 : -A * d = -(A * d) := Int.neg_mul _ _
  constructor <;> omega

set_option maxHeartbeats 1000000 in
theorem slopeOf_any (b off c : Nat) (xs : List Int) (u v : Nat) (n d : Int) (w : World) (h : Rd w (some ⟨b, off, none⟩) c xs) (hcc : xs.length ≤ c) (hv : vW xs = true) (huv : u < v) (hvl : v ≤ xs.length) (hq : FrIs (slopeQ xs u v) n d) :
    Calls Try.prog 85 #[.slice (some ⟨b, off, none⟩) xs.length c, .int .i64 u, .int .i64 v] w fun e w' => e = .returned (frV n d) ∧ Below w.heap.size w w' := by
  obtain ⟨p1, p2, _⟩ := slope_parts hv huv hvl hq
  obtain ⟨l1, l2⟩ := vW_le hv
  have hR := fun o => h.below (below_al w o)
  have HU := Lib.hid (fun w h => manyFrom_any b off c xs u w h hcc (by omega) (by omega) (vW_small hv))
  have HV := Lib.hid (fun w h => manyFrom_any b off c xs v w h hcc (by omega) (by omega) (vW_small hv))
  obtain ⟨t1, t2⟩ := rev_b hv u
  obtain ⟨t3, t4⟩ := rev_b hv v
  have r1 := revW_le hv (show u ≤ 6 by omega)
  have r2 := revW_le hv (show v ≤ 6 by omega)
  have r3 := revW_nn hv u
  have r4 := revW_nn hv v
  unfold revW at r1 r2 r3 r4
  generalize tailW xs u = T at p1 p2 HU t1 t2 r1 r3
  generalize tailW xs v = S at p1 p2 HV t3 t4 r2 r4
  have HC := Lib.hid (fun w => fracOf_any _ _ _ _ w p1 p2 (by omega) (by omega) (by omega))
  clear p1 hq hv
  go_enter Try.func85, Try.ntmps85
  go_wp2_with fail
  refine (HU.out _ (hR _)).mono ?_
  rintro e w1 ⟨rfl, rfl⟩
  go_wp2_with fail
  refine (HV.out _ (hR _)).mono ?_
  rintro e w1 ⟨rfl, rfl⟩
  go_wp2_with fail
  refine (HC.out _).mono ?_
  rintro e w1 ⟨rfl, hb⟩
  have hk := pair_old (B := w.heap.size) hb (pair_new w _)
  obtain ⟨c0, c1, f0, f1⟩ := pair_facts hk
  unfold frV
  go_wp2
  obtain ⟨e0, e1, _, _⟩ := pair_facts (pair_set (.int .i64 n) (.int .i64 d) hk)
  have hB := pair_below2 (a := w) (B := w.heap.size) (.int .i64 n) (.int .i64 d) hb (below_al w _) (Nat.le_refl _)
  refine bodyPost_ret (v := frV n d) (by simp [results, Try.results85, go_sem, frV, e0, e1]) rfl ⟨rfl, hB⟩

/-- The pair x, y lies in the block B, and nothing else. -/
def PairAt (w : World) (B : Nat) (x y : Int) : Prop := w.heap[B]? = some (.cells #[.int .i64 x, .int .i64 y] 30 (0, 0))
theorem PairAt.lt {w : World} {B : Nat} {x y : Int} (h : PairAt w B x y) : B < w.heap.size := (Array.getElem?_eq_some_iff.1 h).1
theorem PairAt.below {w w' : World} {B : Nat} {x y : Int} (h : PairAt w B x y) (hb : Below w.heap.size w w') : PairAt w' B x y := (hb.block _ h.lt).trans h
theorem PairAt.new {w : World} {x y : Int} : PairAt (w.alloc (.cells #[.int .i64 x, .int .i64 y] 30)) w.heap.size x y := pair_new w _
theorem PairAt.old {w : World} {B : Nat} {x y : Int} (h : PairAt w B x y) (o : Obj) : PairAt (w.alloc o) B x y := h.below (below_al w o)
theorem PairAt.set_ {w : World} {B : Nat} {x y : Int} (h : PairAt w B x y) (u v : Int) : PairAt ((w.setCell ⟨B, 0, none⟩ (.int .i64 u)).setCell ⟨B, 1, none⟩ (.int .i64 v)) B u v := pair_set _ _ h
theorem PairAt.other {w : World} {B C : Nat} {x y : Int} (h : PairAt w B x y) (hne : B ≠ C) (u v : Value) : PairAt ((w.setCell ⟨C, 0, none⟩ u).setCell ⟨C, 1, none⟩ v) B x y := by
  unfold PairAt at *
  rw [Below.heap_setCell _ _ _ _ (by exact hne), Below.heap_setCell _ _ _ _ (by exact hne)]
  exact h
theorem PairAt.facts {w : World} {B : Nat} {x y : Int} (h : PairAt w B x y) : w.cell? ⟨B, 0, none⟩ = some (.int .i64 x) ∧ w.cell? ⟨B, 1, none⟩ = some (.int .i64 y) ∧ w.frozen? ⟨B, 0, none⟩ = false ∧ w.frozen? ⟨B, 1, none⟩ = false := pair_facts h
theorem below_set2 {a w : World} {B : Nat} (h : Below a.heap.size a w) (hB : a.heap.size ≤ B) (u v : Value) : Below a.heap.size a ((w.setCell ⟨B, 0, none⟩ u).setCell ⟨B, 1, none⟩ v) := (h.setCell hB u).setCell hB v

theorem steepTo_less {w : List Int} {h u : Nat} {s : Nat × Rat} (hl : slopeQ w u h < s.2) : steepTo w h (u + 1) s = steepTo w h u s := by rw [steepTo, if_pos hl]
theorem steepTo_more {w : List Int} {h u : Nat} {s : Nat × Rat} (hl : ¬ slopeQ w u h < s.2) : steepTo w h (u + 1) s = steepTo w h u (u, slopeQ w u h) := by rw [steepTo, if_neg hl]

set_option maxHeartbeats 2000000 in
theorem steepestFrom_any (b off c : Nat) (xs : List Int) (v at_ : Nat) (n d : Int) (w : World) (h : Rd w (some ⟨b, off, none⟩) c xs) (hcc : xs.length ≤ c) (hv : vW xs = true) (hv1 : 1 ≤ v) (hvl : v ≤ xs.length) (hat : (steep xs v).1 = at_) (hq : FrIs (steep xs v).2 n d) :
    Calls Try.prog 56 #[.slice (some ⟨b, off, none⟩) xs.length c, .int .i64 v] w fun e w' => e = .returned (.tuple #[.int .i64 at_, frV n d]) ∧ Below w.heap.size w w' := by
  obtain ⟨l1, l2⟩ := vW_le hv
  have HV := Lib.hid hv
  have HQ := Lib.hid hq
  have HAT := Lib.hid hat
  obtain ⟨_, _, z1, z2, z3, z4⟩ := slope_parts hv (show v - 1 < v by omega) hvl (FrIs.self _)
  have HSL := Lib.hid (fun (u : Nat) (hu : u < v) w h => slopeOf_any b off c xs u v _ _ w h hcc hv hu hvl (FrIs.self _))
  have hR := fun o => h.below (below_al w o)
  clear hv hq hat
  have e1 : ((v : Int) - 1) = ((v - 1 : Nat) : Int) := by omega
  have HF := Lib.hid (HSL.out (v - 1) (by omega))
  generalize hz : (slopeQ xs (v - 1) v).num = z at HF z1 z2
  generalize hy : ((slopeQ xs (v - 1) v).den : Int) = y at HF z3 z4
  have HZ := Lib.hid (show FrIs (slopeQ xs (v - 1) v) z y from ⟨hz.symm, hy.symm⟩)
  clear hz hy
  go_enter Try.func56, Try.ntmps56
  go_wp2_with fail
  refine (HF.out _ (hR _)).mono ?_
  rintro e w1 ⟨rfl, hb⟩
  have hb0 := below_up (below_al w _) hb
  have hk := PairAt.below (PairAt.new (w := w)) hb
  have hlt := hk.lt
  unfold frV
  go_wp2
  have hlw : w.heap.size < w1.heap.size := hlt
  have hr0 := h.below hb0
  go_loopw [6, 8] (fun s i wr => ∃ (k to : Nat) (n' d' : Int) (q : Rat), s = .int .i64 to ∧ i = .int .i64 ((k : Int) - 1) ∧ k ≤ v - 1 ∧ to < v ∧ Below w.heap.size w wr ∧ PairAt wr w.heap.size 0 0 ∧ PairAt wr w1.heap.size n' d' ∧
      -216 ≤ n' ∧ n' ≤ 216 ∧ 1 ≤ d' ∧ d' ≤ 36 ∧ Hid (FrIs q n' d') ∧ Hid (steepTo xs v k (to, q) = steep xs v)) (fun _ i _ => (intOf i + 1).toNat)
  case atStart => exact ⟨v - 1, v - 1, z, y, _, rfl, by go_num, Nat.le_refl _, by omega, below_up hb0 (below_al _ _), hk.old _, PairAt.new, z1, z2, z3, z4, HZ, Lib.hid rfl⟩
  case round =>
    obtain ⟨k, to, n', d', q, rfl, rfl, hkv, hto, hbr, hP5, hP7, m1, m2, m3, m4, HQ', HS⟩ := hrel
    have hl7 := hP7.lt
    rcases Nat.eq_zero_or_pos k with rfl | hk0
    · have HE := Lib.hid (show to = at_ by have := HS.out; rw [steepTo] at this; rw [← HAT.out, ← this])
      have HE2 := Lib.hid (show n' = n ∧ d' = d by have := HS.out; rw [steepTo] at this; have h2 := HQ.out; rw [← this] at h2; exact HQ'.out.same h2)
      obtain ⟨c0, c1, f0, f1⟩ := hP7.facts
      obtain ⟨c2, c3, f2, f3⟩ := hP5.facts
      go_wp2
      go_region
      all_goals go_wp2
      obtain ⟨g0, g1, _, _⟩ := (hP5.set_ n' d').facts
      have hB := below_set2 hbr (Nat.le_refl _) (.int .i64 n') (.int .i64 d')
      obtain ⟨rfl, rfl⟩ := HE2.out
      refine bodyPost_ret (v := .tuple #[.int .i64 at_, frV n' d']) (by simp [results, Try.results56, go_sem, frV, g0, g1]; have := HE.out; omega) rfl ⟨rfl, hB.drew⟩
    · obtain ⟨m, rfl⟩ : ∃ m, k = m + 1 := ⟨k - 1, by omega⟩
      have em : (((m + 1 : Nat) : Int) - 1) = (m : Int) := by omega
      rw [em]
      clear em
      obtain ⟨_, _, y1, y2, y3, y4⟩ := slope_parts HV.out (show m < v by omega) hvl (FrIs.self _)
      have HF2 := Lib.hid (HSL.out m (by omega))
      have HY := Lib.hid (fun hh => steepTo_less (w := xs) (h := v) (u := m) (s := (to, q)) hh)
      have HN := Lib.hid (fun hh => steepTo_more (w := xs) (h := v) (u := m) (s := (to, q)) hh)
      generalize hx : (slopeQ xs m v).num = x at HF2 y1 y2
      generalize hyy : ((slopeQ xs m v).den : Int) = yy at HF2 y3 y4
      have HZ2 := Lib.hid (show FrIs (slopeQ xs m v) x yy from ⟨hx.symm, hyy.symm⟩)
      have HL := Lib.hid (lessF_is HZ2.out HQ'.out)
      obtain ⟨u1, u2⟩ := mul_bd y1 y2 m3 m4 (by omega)
      obtain ⟨u3, u4⟩ := mul_bd m1 m2 y3 y4 (by omega)
      clear hx hyy
      have hr1 := h.below hbr
      by_cases hlt2 : slopeQ xs m v < q
      · have HS2 := Lib.hid ((HY.out hlt2).symm.trans HS.out)
        have HLL := Lib.hid (show lessF x yy n' d' = true by rw [HL.out]; simpa using hlt2)
        clear HY HN hlt2
        go_wp2_with fail
        refine (HF2.out _ hr1).mono ?_
        rintro e w2 ⟨rfl, hb2⟩
        have hP52 := hP5.below hb2
        have hP72 := hP7.below hb2
        have hl72 := hP72.lt
        have hbr2 := below_up hbr hb2
        obtain ⟨c0, c1, f0, f1⟩ := hP72.facts
        unfold frV
        go_wp2_with fail
        refine (less_any x yy n' d' _ _ HLL.out (by omega) (by omega) (by omega) (by omega)).mono ?_
        rintro e w3 ⟨rfl, hb3⟩
        have hP53 := (hP52.old (.cells #[.int .i64 x, .int .i64 yy] 30)).below hb3
        have hP73 := (hP72.old (.cells #[.int .i64 x, .int .i64 yy] 30)).below hb3
        have hbr3 := below_up (below_up hbr2 (below_al _ _)) hb3
        go_wp2
        go_roundw
        case rel => exact ⟨m, to, n', d', q, rfl, by go_num, by omega, hto, hbr3, hP53, hP73, m1, m2, m3, m4, HQ', HS2⟩
        case measure => simp [intOf] <;> omega
      · have HS2 := Lib.hid ((HN.out hlt2).symm.trans HS.out)
        have HLL := Lib.hid (show lessF x yy n' d' = false by rw [HL.out]; simpa using hlt2)
        clear HY HN hlt2
        go_wp2_with fail
        refine (HF2.out _ hr1).mono ?_
        rintro e w2 ⟨rfl, hb2⟩
        have hP52 := hP5.below hb2
        have hP72 := hP7.below hb2
        have hl72 := hP72.lt
        have hbr2 := below_up hbr hb2
        obtain ⟨c0, c1, f0, f1⟩ := hP72.facts
        unfold frV
        go_wp2_with fail
        refine (less_any x yy n' d' _ _ HLL.out (by omega) (by omega) (by omega) (by omega)).mono ?_
        rintro e w3 ⟨rfl, hb3⟩
        have hP53 := (hP52.old (.cells #[.int .i64 x, .int .i64 yy] 30)).below hb3
        have hP73 := (hP72.old (.cells #[.int .i64 x, .int .i64 yy] 30)).below hb3
        have hP93 := (PairAt.new (w := w2) (x := x) (y := yy)).below hb3
        have hbr3 := below_up (below_up hbr2 (below_al _ _)) hb3
        have hne : w.heap.size ≠ w1.heap.size := by omega
        obtain ⟨c2, c3, f2, f3⟩ := hP73.facts
        obtain ⟨c4, c5, f4, f5⟩ := hP93.facts
        go_wp2
        go_region
        all_goals go_wp2
        go_roundw
        case rel => exact ⟨m, m, x, yy, _, rfl, by go_num, by omega, by omega, (below_set2 hbr3 (by omega) _ _).drew, hP53.other hne _ _, hP73.set_ x yy, y1, y2, y3, y4, HZ2, HS2⟩
        case measure => simp [intOf] <;> omega
end Go.Proofs.Ytoipjhdnmiomeaa
