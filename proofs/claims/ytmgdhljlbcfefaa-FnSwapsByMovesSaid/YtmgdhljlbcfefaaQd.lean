/-
  The generators of the laws of chapter 4: a table.
-/
import Derived.Test.YtmgdhljlbcfefaaQc
import Derived.Deep.RegionWith
namespace Go.Proofs.Ytmgdhljlbcfefaa
open Go.RowKit Go.Lib

/-- The sum of what the first j things alone are worth, of those in the set. -/
def sumV (xs : List Int) (s : Nat) : Nat → Int
  | 0 => 0
  | j + 1 => sumV xs s j + ((s / 2 ^ j % 2 : Nat) : Int) * xs.getD j 0
def sumT (x y z : Int) : List Int := (List.range 8).map (fun s => sumV [x, y, z] s 3)
theorem sumT_len (x y z : Int) : (sumT x y z).length = 8 := by simp [sumT]
theorem sumT_at (x y z : Int) {s : Nat} (hs : s < 8) : (sumT x y z)[s]? = some (sumV [x, y, z] s 3) := by simp [sumT, hs]
theorem sumV_bd {x y z : Int} (hx : 0 ≤ x ∧ x ≤ 9) (hy : 0 ≤ y ∧ y ≤ 9) (hz : 0 ≤ z ∧ z ≤ 9) (s : Nat) : ∀ j, j ≤ 3 → 0 ≤ sumV [x, y, z] s j ∧ sumV [x, y, z] s j ≤ 9 * j := by
  intro j
  induction j with
  | zero => intro _; simp [sumV]
  | succ j ih =>
    intro hj
    have := ih (by omega)
    have hv : [x, y, z].getD j 0 = x ∨ [x, y, z].getD j 0 = y ∨ [x, y, z].getD j 0 = z := by
      rcases nat3 (show j < 3 by omega) with rfl | rfl | rfl <;> simp
    have hb : s / 2 ^ j % 2 = 0 ∨ s / 2 ^ j % 2 = 1 := by omega
    simp only [sumV]
    generalize [x, y, z].getD j 0 = v at hv ⊢
    rcases hb with h | h <;> rw [h]
    · simp only [Int.natCast_zero, Int.zero_mul]; omega
    · simp only [Int.natCast_one, Int.one_mul]; omega

/-- A region that draws its order, all ways of which end in the same. -/
theorem wp_once {P : Program} {c : Code} {K : Act → World → Prop} {Q : Exit → Act → World → Prop} {a : Act} {w : World} {a0 : Act} {w0 : World} (h : ∀ K1 : Act → World → Prop, K1 a0 w0 → c.wp P (Exit.then K1 Q) a w) (hk : K a0 w0) : c.wp P (Exit.then K Q) a w := h K hk

theorem wp_onceB {P : Program} {c : Code} {K : Act → World → Prop} {n : Nat} {Q : Exit → Act → World → Prop} {a : Act} {w : World} {a0 : Act} {w0 : World} (h : ∀ K1 : Act → World → Prop, K1 a0 w0 → c.wp P (Exit.inBlock n (Exit.then K1 Q)) a w) (hk : K a0 w0) : c.wp P (Exit.inBlock n (Exit.then K Q)) a w := h K hk

theorem OneAt.drew {w : World} {rb k gS : Nat} {xs zs : List Int} {wr : World} (h : OneAt w rb k gS xs zs wr) : OneAt w rb k gS xs zs wr.drew := ⟨h.out, h.single, h.rdr, h.grown.trans ⟨rfl, rfl, rfl, Nat.le_refl _, fun _ _ _ => rfl⟩⟩

theorem TblIs.base {w w0 : World} {rb k k' : Nat} {P : List Int → Prop} {e : Ending} {w' : World} (h : TblIs w0 rb k P e w') (hg : w.grownBy w0 (some rb)) (hk : k ≤ k') : TblIs w rb k' (fun _ => True) e w' := by
  obtain ⟨g, c, ys, he, hl, _, ho, hr, hg2⟩ := h
  exact ⟨g, c, ys, he, hl, trivial, ho.base hg.size, hr.more hk, hg.trans hg2⟩

set_option maxHeartbeats 4000000 in
set_option maxRecDepth 100000 in
theorem goodTable_any (rb k : Nat) (w : World) (h : Rdr w rb k) (hk : k + 50 ≤ 1000000) :
    Calls Try.prog 91 #[.pointer (some ⟨rb, 0, none⟩)] w (TblIs w rb (k + 30) fun _ => True) := by
  have hl := h.lt
  go_enter Try.func91, Try.ntmps91
  go_wp2_with fail
  refine (pick_any rb k 6 w h (by omega) (by decide) (by decide)).mono ?_
  rintro e w1 ⟨m, rfl, hm0, hm1, hr1, hg1⟩
  have hl1 := hr1.lt
  by_cases ha : m = 0 ∨ m = 1
  · as_aux_lemma =>
    have hs : (m == 0) = true ∨ (m == 1) = true := by simpa using ha
    rcases ha with rfl | rfl <;> (
      go_wp2_with fail
      refine (offerText_any rb (k + 1) w1 hr1 (by omega)).mono ?_
      rintro e w2 ⟨s, rfl, hsz, hr2, hg2⟩
      have gg2 := hg1.trans hg2
      go_wp2_with fail
      refine (SreadOffer_any s w2 (by omega)).mono ?_
      rintro e w3 ⟨hb3, ⟨t, g, c, htt, rfl, ho3⟩ | ⟨_, rfl⟩⟩
      · have hr3 := hr2.below hb3
        have gg3 := gg2.trans (gb_of_below hb3 (some rb))
        have HLE := Lib.hid (rdF_len htt)
        rcases hvt : vt t with _ | _
        · clear hvt
          go_wp2_with fail
          refine (oneTable_any rb (k + 1 + 12) w3 hr3 (by omega)).mono ?_
          rintro e w4 ⟨g4, c4, ys, rfl, hl4, _, o4, hr4, hg4⟩
          go_wp2
          go_ret
          exact ⟨g4, c4, ys, rfl, hl4, trivial, o4.base gg3.size, hr4.more (by omega), gg3.trans hg4⟩
        · clear hvt
          go_wp2
          go_ret
          exact ⟨g, c, t, rfl, HLE.out, trivial, ho3.base gg2.size, hr3.more (by omega), gg3⟩
      · have hr3 := hr2.below hb3
        have gg3 := gg2.trans (gb_of_below hb3 (some rb))
        go_wp2_with fail
        refine (oneTable_any rb (k + 1 + 12) w3 hr3 (by omega)).mono ?_
        rintro e w4 ⟨g4, c4, ys, rfl, hl4, _, o4, hr4, hg4⟩
        go_wp2
        go_ret
        exact ⟨g4, c4, ys, rfl, hl4, trivial, o4.base gg3.size, hr4.more (by omega), gg3.trans hg4⟩)
  by_cases hb : m = 2
  · subst hb
    go_wp2_with (at_make; refine wpList_make_ints rfl _ _ rfl w1.heap.size 8 rfl rfl (by omega) (by simp) ?_; intro w2 ho2 hb2)
    have hr2 := hr1.below hb2
    have hg2 := gb_of_below hb2 (some rb)
    have hs2 := ho2.lt
    refine (pick_any rb (k + 1) 8 w2 hr2 (by omega) (by decide) (by decide)).mono ?_
    rintro e w3 ⟨x, rfl, hx0, hx1, hr3, hg3⟩
    have ho3 : Own w3 w1.heap.size (some ⟨w1.heap.size, 0, none⟩) 8 (List.replicate 8 0) := ho2.kept_ (A2 := some ⟨rb, 0, none⟩) hg3 (.inr (fun e => by have h3 : w1.heap.size = rb := Option.some.inj e; omega))
    have gg3 := hg2.trans hg3
    have hs3 := hg3.size
    clear ho2 hb2 hg3 hr2 hg2
    go_wp2_with fail
    refine (pick_any rb (k + 1 + 1) 8 w3 hr3 (by omega) (by decide) (by decide)).mono ?_
    rintro e w4 ⟨y, rfl, hy0, hy1, hr4, hg4⟩
    have ho4 : Own w4 w1.heap.size (some ⟨w1.heap.size, 0, none⟩) 8 (List.replicate 8 0) := ho3.kept_ (A2 := some ⟨rb, 0, none⟩) hg4 (.inr (fun e => by have h3 : w1.heap.size = rb := Option.some.inj e; omega))
    have gg4 := gg3.trans hg4
    have hs4 := hg4.size
    clear ho3 hg4 hr3 gg3
    go_wp2_with fail
    refine (pick_any rb (k + 1 + 1 + 1) 8 w4 hr4 (by omega) (by decide) (by decide)).mono ?_
    rintro e w5 ⟨z, rfl, hz0, hz1, hr5, hg5⟩
    have ho5 : Own w5 w1.heap.size (some ⟨w1.heap.size, 0, none⟩) 8 (List.replicate 8 0) := ho4.kept_ (A2 := some ⟨rb, 0, none⟩) hg5 (.inr (fun e => by have h3 : w1.heap.size = rb := Option.some.inj e; omega))
    have gg5 := gg4.trans hg5
    have hs5 := hg5.size
    have HX : Hid (0 ≤ x ∧ x ≤ 9) := Lib.hid (by have := pick_lt hx0 hx1 (by decide); omega)
    have HY : Hid (0 ≤ y ∧ y ≤ 9) := Lib.hid (by have := pick_lt hy0 hy1 (by decide); omega)
    have HZ : Hid (0 ≤ z ∧ z ≤ 9) := Lib.hid (by have := pick_lt hz0 hz1 (by decide); omega)
    clear ho4 hg5 hr4 gg4 hx0 hx1 hy0 hy1 hz0 hz1
    go_wp2_with fail
    have HI0 : Hid (OneAt w1 rb (k + 4) w5.heap.size [x, y, z] (filled (sumT x y z) 0) (w5.alloc (.cells #[.int .i64 x, .int .i64 y, .int .i64 z] 3))) := Lib.hid
      ⟨by rw [filled_zero, sumT_len]; exact World.ownsRow.alloc ho5 _, own_base (own_lit w5 [x, y, z] (by simp)) (by omega), hr5.alloc _, gb_alloc gg5 _⟩
    have HT8 := Lib.hid (fun s (hs : s < 8) => sumT_at x y z hs)
    have HTL : Hid ((sumT x y z).length = 8) := Lib.hid (sumT_len x y z)
    have HBD := Lib.hid (fun s j (hj : j ≤ 3) => sumV_bd HX.out HY.out HZ.out s j hj)
    have HVB : Hid (∀ j, j < 3 → 0 ≤ [x, y, z].getD j 0 ∧ [x, y, z].getD j 0 ≤ 9) := Lib.hid (fun j hj => by rcases nat3 hj with rfl | rfl | rfl <;> first | exact HX.out | exact HY.out | exact HZ.out)
    have HBIT := Lib.hid (fun (s j : Nat) (hs : s < 8) (hj : j < 3) w => Sbit_any s j hs hj w)
    have HSG : Hid (∀ j, j < 3 → [x, y, z][j]? = some ([x, y, z].getD j 0)) := Lib.hid (fun j hj => by rcases nat3 hj with rfl | rfl | rfl <;> rfl)
    obtain ⟨xs, hxs⟩ : ∃ xs, xs = [x, y, z] := ⟨_, rfl⟩
    obtain ⟨tab, htab⟩ : ∃ tab, tab = sumT x y z := ⟨_, rfl⟩
    rw [← hxs] at HT8 HSG HVB HBD
    rw [← htab, ← hxs] at HI0
    rw [← htab] at HT8 HTL
    clear hxs htab HX HY HZ ho5 hr5 gg5
    go_loopw [7] (fun sv wr => ∃ s, sv = .int .i64 (s : Nat) ∧ s ≤ 8 ∧ Hid (OneAt w1 rb (k + 4) w5.heap.size xs (filled tab s) wr)) (fun i _ => 8 - (intOf i).toNat)
    case atStart => exact ⟨0, rfl, by omega, HI0⟩
    case round =>
      obtain ⟨s, rfl, hs, HI⟩ := hrel
      by_cases hlt : s < 8
      · have HIN : Hid (OneAt w1 rb (k + 4) w5.heap.size xs ((filled tab s).set s (sumV xs s 0)) wr) := Lib.hid (by
          rw [show sumV xs s 0 = 0 from rfl, filled_same1 (by rw [HTL.out]; exact hlt)]; exact HI.out)
        have HSET : Hid ((filled tab s).set s (sumV xs s 3) = filled tab (s + 1)) := Lib.hid (filled_set tab s _ (HT8.out s hlt))
        have HFL : Hid (s < (filled tab s).length) := Lib.hid (by rw [filled_len _ _ (by rw [HTL.out]; omega), HTL.out]; exact hlt)
        have hs0 : (0 : Int) ≤ (s : Int) := by omega
        have hs8 : (s : Int) < 8 := by omega
        have hss : s < 8 := hlt
        clear hlt HI
        go_wp2_with fail
        go_loopw [8] (fun jv wr' => ∃ j, jv = .int .i64 (j : Nat) ∧ j ≤ 3 ∧ Hid (OneAt w1 rb (k + 4) w5.heap.size xs ((filled tab s).set s (sumV xs s j)) wr')) (fun i _ => 3 - (intOf i).toNat)
        case atStart => exact ⟨0, rfl, by omega, HIN⟩
        case round =>
          obtain ⟨j, rfl, hj, HI⟩ := hrel
          by_cases hlt : j < 3
          · have HB := Lib.hid (HBIT.out s j hss hlt)
            have hj0 : (0 : Int) ≤ (j : Int) := by omega
            have hj3 : (j : Int) < 3 := by omega
            obtain ⟨V, hV⟩ : ∃ V, V = sumV xs s j := ⟨_, rfl⟩
            obtain ⟨b, hbb⟩ : ∃ b, b = s / 2 ^ j % 2 := ⟨_, rfl⟩
            have hcell := HI.out.out.cell (i := s) (x := V) (by rw [List.getElem?_set_self HFL.out, hV])
            have hfree := HI.out.out.free s
            obtain ⟨u, hu⟩ : ∃ u, u = xs.getD j 0 := ⟨_, rfl⟩
            have hc2 := HI.out.single.cell (i := j) (x := u) (by rw [HSG.out j hlt, hu])
            have hub := HVB.out j hlt
            have hvb := HBD.out s j (by omega)
            rw [← hu] at hub
            rw [← hV] at hvb
            have hb2 : b ≤ 1 := by omega
            have hmul : 0 ≤ (b : Int) * u ∧ (b : Int) * u ≤ 9 := by
              rcases (show b = 0 ∨ b = 1 by omega) with rfl | rfl <;> simp <;> omega
            have e1 : IntKind.i64.wrap ((b : Int) * u) = (b : Int) * u := IntWalk.i64_in _ (by omega)
            have e2 : IntKind.i64.wrap (V + (b : Int) * u) = V + (b : Int) * u := IntWalk.i64_in _ (by omega)
            have HSD : Hid (OneAt w1 rb (k + 4) w5.heap.size xs ((filled tab s).set s (sumV xs s (j + 1))) (wr.setCell ⟨w1.heap.size, s, none⟩ (.int .i64 (V + (b : Int) * u))).drew) := Lib.hid (by
              have h9 := HI.out.set_ hl1 s (V + (b : Int) * u)
              rw [List.set_set] at h9
              rw [show sumV xs s (j + 1) = V + (b : Int) * u by simp only [sumV]; rw [← hV, ← hbb, ← hu]]
              exact h9.drew)
            rw [← hbb] at HB
            have hj1 : j + 1 ≤ 3 := hlt
            clear hV hu hbb hlt HI hub hvb hmul
            go_wp2_with fail
            refine wp_onceB (a0 := ?a0) (w0 := ?w0) (fun K1 h1 => ?first) ?rest
            case first =>
              go_region_with (go_at_call 55; refine (HB.out _).mono ?_; rintro e w6 ⟨rfl, rfl⟩)
              all_goals exact h1
            case rest =>
              go_wp2
              exact ⟨⟨j + 1, by go_num, hj1, HSD⟩, by simp only [intOf]; omega⟩
          · obtain rfl : j = 3 := by omega
            have HTE : Hid (OneAt w1 rb (k + 4) w5.heap.size xs (filled tab (s + 1)) wr) := Lib.hid (by rw [← HSET.out]; exact HI.out)
            clear hlt HI
            go_wp2
            go_roundw
            case rel => exact ⟨s + 1, by go_num, by omega, HTE⟩
            case measure => simp only [intOf]; omega
      · obtain rfl : s = 8 := by omega
        have HTE : Hid (OneAt w1 rb (k + 4) w5.heap.size xs tab wr) := Lib.hid (by have := HI.out; rw [← HTL.out, filled_all] at this; exact this)
        clear hlt HI
        go_wp2
        go_ret
        exact ⟨w1.heap.size, 8, tab, rfl, HTL.out, trivial, HTE.out.out.base hg1.size, HTE.out.rdr.more (by omega), hg1.trans HTE.out.grown⟩
  by_cases hc : m = 3
  · subst hc
    as_aux_lemma =>
    go_wp2_with fail
    refine (oneTable_any rb (k + 1) w1 hr1 (by omega)).mono ?_
    rintro e w2 ⟨g2, c2, ys2, rfl, hl2, hp2, o2, hr2, hg2⟩
    have hlt2 := hr2.lt
    go_wp2_with fail
    refine (oneTable_any rb (k + 1 + 3) w2 hr2 (by omega)).mono ?_
    rintro e w3 ⟨g3, c3, ys3, rfl, hl3, hp3, o3, hr3, hg3⟩
    have gg3 := hg1.trans (hg2.trans hg3)
    have o23 : Own w3 w1.heap.size (some ⟨g2, 0, none⟩) c2 ys2 := o2.kept_ (A2 := some ⟨rb, 0, none⟩) hg3 (.inr (fun e => by have := Option.some.inj e; have h3 := o2.ge; have : g2 = rb := this; omega))
    have HJ := Lib.hid (SJoinTables_any (some ⟨g2, 0, none⟩) (some ⟨g3, 0, none⟩) c2 c3 ys2 ys3 w3 o23.rd o3.rd o23.cap.1 o3.cap.1 (by omega) (by omega))
    have HON := Lib.hid (ones_join hp2 hp3)
    have HP2 := Lib.hid hp2.1
    have HP3 := Lib.hid hp3.1
    rw [hl2, hl3] at HJ
    clear hp2 hp3
    go_wp2_with fail
    refine HJ.out.mono ?_
    rintro e w4 ⟨hb4, ⟨_, _, _, g4, c4, rfl, o4⟩ | ⟨hno, _⟩⟩
    · have gg4 := gg3.trans (gb_of_below hb4 (some rb))
      go_wp2
      go_ret
      exact ⟨g4, c4, jnT ys2 ys3, rfl, jnT_len _ _, trivial, o4.base gg3.size, (hr3.below hb4).more (by omega), gg4⟩
    · exact absurd ⟨HP2.out, HP3.out, HON.out⟩ hno
  · as_aux_lemma =>
    have h0 : ¬ m = 0 := fun e => ha (.inl e)
    have h1 : ¬ m = 1 := fun e => ha (.inr e)
    have q0 : (m == 0) = false := by simpa using h0
    have q1 : (m == 1) = false := by simpa using h1
    have q2 : (m == 2) = false := by simpa using hb
    have q3 : (m == 3) = false := by simpa using hc
    clear h0 h1 ha hb hc
    go_wp2_with fail
    refine (oneTable_any rb (k + 1) w1 hr1 (by omega)).mono ?_
    rintro e w4 ⟨g4, c4, ys, rfl, hl4, _, o4, hr4, hg4⟩
    go_wp2
    go_ret
    exact ⟨g4, c4, ys, rfl, hl4, trivial, o4.base hg1.size, hr4.more (by omega), hg1.trans hg4⟩

end Go.Proofs.Ytmgdhljlbcfefaa
