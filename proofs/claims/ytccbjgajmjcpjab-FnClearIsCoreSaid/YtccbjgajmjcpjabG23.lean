/-
  The generators of the laws of chapter 4: a table.
-/
import Derived.Test.YtccbjgajmjcpjabG22
import Derived.Deep.RegionWith
import Derived.Test.YtccbjgajmjcpjabG04
import Derived.Test.YtccbjgajmjcpjabG07
namespace Go.Proofs.Ytccbjgajmjcpjab
open Go.RowKit Go.Lib

/-- The sum of what the first j things alone are worth, of those in the set. -/
def sumV (xs : List Int) (s : Nat) : Nat → Int
  | 0 => 0
  | j + 1 => sumV xs s j + ((s / 2 ^ j % 2 : Nat) : Int) * xs.getD j 0
def sumT (x y z : Int) : List Int := (List.range 8).map (fun s => sumV [x, y, z] s 3)
theorem sumT_len (x y z : Int) : (sumT x y z).length = 8 := by simp [sumT]
theorem sumT_at (x y z : Int) {s : Nat} (hs : s < 8) : (sumT x y z)[s]? = some (sumV [x, y, z] s 3) := by simp [sumT, hs]
theorem sumV_bd {x y z : Int} (hx : 0 ≤ x ∧ x ≤ 9) (hy : 0 ≤ y ∧ y ≤ 9) (hz : 0 ≤ z ∧ z ≤ 9) (s : Nat) : ∀ j, j ≤ 3 → 0 ≤ sumV [x, y, z] s j ∧ sumV [x, y, z] s j ≤ 9 * j := by
  intro j
  induction j with
  | zero => intro _; simp [sumV]
  | succ j ih =>
    intro hj
    have := ih (by omega)
    have hv : [x, y, z].getD j 0 = x ∨ [x, y, z].getD j 0 = y ∨ [x, y, z].getD j 0 = z := by
      rcases nat3 (show j < 3 by omega) with rfl | rfl | rfl <;> simp
    have hb : s / 2 ^ j % 2 = 0 ∨ s / 2 ^ j % 2 = 1 := by omega
    simp only [sumV]
    generalize [x, y, z].getD j 0 = v at hv ⊢
    rcases hb with h | h <;> rw [h]
    · simp only [Int.natCast_zero, Int.zero_mul]; omega
    · simp only [Int.natCast_one, Int.one_mul]; omega

/-- A region that draws its order, all ways of which end in the same. -/
theorem wp_once {P : Program} {c : Code} {K : Act → World → Prop} {Q : Exit → Act → World → Prop} {a : Act} {w : World} {a0 : Act} {w0 : World} (h : ∀ K1 : Act → World → Prop, K1 a0 w0 → c.wp P (Exit.then K1 Q) a w) (hk : K a0 w0) : c.wp P (Exit.then K Q) a w := h K hk

theorem wp_onceB {P : Program} {c : Code} {K : Act → World → Prop} {n : Nat} {Q : Exit → Act → World → Prop} {a : Act} {w : World} {a0 : Act} {w0 : World} (h : ∀ K1 : Act → World → Prop, K1 a0 w0 → c.wp P (Exit.inBlock n (Exit.then K1 Q)) a w) (hk : K a0 w0) : c.wp P (Exit.inBlock n (Exit.then K Q)) a w := h K hk

theorem OneAt.drew {w : World} {rb k gS : Nat} {xs zs : List Int} {wr : World} (h : OneAt w rb k gS xs zs wr) : OneAt w rb k gS xs zs wr.drew := ⟨h.out, h.single, h.rdr, h.grown.trans ⟨rfl, rfl, rfl, Nat.le_refl _, fun _ _ _ => rfl⟩⟩

theorem TblIs.base {w w0 : World} {rb k k' : Nat} {P : List Int → Prop} {e : Ending} {w' : World} (h : TblIs w0 rb k P e w') (hg : w.grownBy w0 (some rb)) (hk : k ≤ k') : TblIs w rb k' (fun _ => True) e w' := by
  obtain ⟨g, c, ys, he, hl, _, ho, hr, hg2⟩ := h
  exact ⟨g, c, ys, he, hl, trivial, ho.base hg.size, hr.more hk, hg.trans hg2⟩

set_option maxHeartbeats 4000000 in
set_option maxRecDepth 100000 in
theorem goodTable_any (rb k : Nat) (w : World) (h : Rdr w rb k) (hk : k + 50 ≤ 1000000) :
    Calls Try.prog 138 #[.pointer (some ⟨rb, 0, none⟩)] w (TblIs w rb (k + 30) fun _ => True) := by
  have hl := h.lt
  go_enter Try.func138, Try.ntmps138
  go_wp2_with fail
  refine (pick_any rb k 6 w h (by omega) (by decide) (by decide)).mono ?_
  rintro e w1 ⟨m, rfl, hm0, hm1, hr1, hg1⟩
  have hl1 := hr1.lt
  by_cases ha : m = 0 ∨ m = 1
  · as_aux_lemma =>
    have hs : (m == 0) = true ∨ (m == 1) = true := by simpa using ha
    rcases ha with rfl | rfl <;> (
      go_wp2_with fail
      refine (offerText_any rb (k + 1) w1 hr1 (by omega)).mono ?_
      rintro e w2 ⟨s, rfl, hsz, hr2, hg2⟩
      have gg2 := hg1.trans hg2
      go_wp2_with fail
      refine (SreadOffer_any s w2 (by omega)).mono ?_
      rintro e w3 ⟨hb3, ⟨t, g, c, htt, rfl, ho3⟩ | ⟨_, rfl⟩⟩
      · have hr3 := hr2.below hb3
        have gg3 := gg2.trans (gb_of_below hb3 (some rb))
        have HLE := Lib.hid (rdF_len htt)
        rcases hvt : vt t with _ | _
        · clear hvt
          go_wp2_with fail
          refine (oneTable_any rb (k + 1 + 12) w3 hr3 (by omega)).mono ?_
          rintro e w4 ⟨g4, c4, ys, rfl, hl4, _, o4, hr4, hg4⟩
          go_wp2
          go_ret
          exact ⟨g4, c4, ys, rfl, hl4, trivial, o4.base gg3.size, hr4.more (by omega), gg3.trans hg4⟩
        · clear hvt
          go_wp2
          go_ret
          exact ⟨g, c, t, rfl, HLE.out, trivial, ho3.base gg2.size, hr3.more (by omega), gg3⟩
      · have hr3 := hr2.below hb3
        have gg3 := gg2.trans (gb_of_below hb3 (some rb))
        go_wp2_with fail
        refine (oneTable_any rb (k + 1 + 12) w3 hr3 (by omega)).mono ?_
        rintro e w4 ⟨g4, c4, ys, rfl, hl4, _, o4, hr4, hg4⟩
        go_wp2
        go_ret
        exact ⟨g4, c4, ys, rfl, hl4, trivial, o4.base gg3.size, hr4.more (by omega), gg3.trans hg4⟩)
  by_cases hb : m = 2
  · subst hb
    go_wp2_with (at_make; refine wpList_make_ints rfl _ _ rfl w1.heap.size 8 rfl rfl (by omega) (by simp) ?_; intro w2 ho2 hb2)
    have hr2 := hr1.below hb2
    have hg2 := gb_of_below hb2 (some rb)
    have hs2 := ho2.lt
    refine (pick_any rb (k + 1) 8 w2 hr2 (by omega) (by decide) (by decide)).mono ?_
    rintro e w3 ⟨x, rfl, hx0, hx1, hr3, hg3⟩
    have ho3 : Own w3 w1.heap.size (some ⟨w1.heap.size, 0, none⟩) 8 (List.replicate 8 0) := ho2.kept_ (A2 := some ⟨rb, 0, none⟩) hg3 (.inr (fun e => by have h3 : w1.heap.size = rb := Option.some.inj e; omega))
    have gg3 := hg2.trans hg3
    have hs3 := hg3.size
    clear ho2 hb2 hg3 hr2 hg2
    go_wp2_with fail
    refine (pick_any rb (k + 1 + 1) 8 w3 hr3 (by omega) (by decide) (by decide)).mono ?_
    rintro e w4 ⟨y, rfl, hy0, hy1, hr4, hg4⟩
    have ho4 : Own w4 w1.heap.size (some ⟨w1.heap.size, 0, none⟩) 8 (List.replicate 8 0) := ho3.kept_ (A2 := some ⟨rb, 0, none⟩) hg4 (.inr (fun e => by have h3 : w1.heap.size = rb := Option.some.inj e; omega))
    have gg4 := gg3.trans hg4
    have hs4 := hg4.size
    clear ho3 hg4 hr3 gg3
    go_wp2_with fail
    refine (pick_any rb (k + 1 + 1 + 1) 8 w4 hr4 (by omega) (by decide) (by decide)).mono ?_
    rintro e w5 ⟨z, rfl, hz0, hz1, hr5, hg5⟩
    have ho5 : Own w5 w1.heap.size (some ⟨w1.heap.size, 0, none⟩) 8 (List.replicate 8 0) := ho4.kept_ (A2 := some ⟨rb, 0, none⟩) hg5 (.inr (fun e => by have h3 : w1.heap.size = rb := Option.some.inj e; omega))
    have gg5 := gg4.trans hg5
    have hs5 := hg5.size
    have HX : Hid (0 ≤ x ∧ x ≤ 9) := Lib.hid (by have := pick_lt hx0 hx1 (by decide); omega)
    have HY : Hid (0 ≤ y ∧ y ≤ 9) := Lib.hid (by have := pick_lt hy0 hy1 (by decide); omega)
    have HZ : Hid (0 ≤ z ∧ z ≤ 9) := Lib.hid (by have := pick_lt hz0 hz1 (by decide); omega)
    clear ho4 hg5 hr4 gg4 hx0 hx1 hy0 hy1 hz0 hz1
    go_wp2_with fail
    have HI0 : Hid (OneAt w1 rb (k + 4) w5.heap.size [x, y, z] (filled (sumT x y z) 0) (w5.alloc (.cells #[.int .i64 x, .int .i64 y, .int .i64 z] 3))) := Lib.hid
      ⟨by rw [filled_zero, sumT_len]; exact World.ownsRow.alloc ho5 _, own_base (own_lit w5 [x, y, z] (by simp)) (by omega), hr5.alloc _, gb_alloc gg5 _⟩
    have HT8 := Lib.hid (fun s (hs : s < 8) => sumT_at x y z hs)
    have HTL : Hid ((sumT x y z).length = 8) := Lib.hid (sumT_len x y z)
    have HBD := Lib.hid (fun s j (hj : j ≤ 3) => sumV_bd HX.out HY.out HZ.out s j hj)
    have HVB : Hid (∀ j, j < 3 → 0 ≤ [x, y, z].getD j 0 ∧ [x, y, z].getD j 0 ≤ 9) := Lib.hid (fun j hj => by rcases nat3 hj with rfl | rfl | rfl <;> first | exact HX.out | exact HY.out | exact HZ.out)
    have HBIT := Lib.hid (fun (s j : Nat) (hs : s < 8) (hj : j < 3) w => Sbit_any s j hs hj w)
    have HSG : Hid (∀ j, j < 3 → [x, y, z][j]? = some ([x, y, z].getD j 0)) := Lib.hid (fun j hj => by rcases nat3 hj with rfl | rfl | rfl <;> rfl)
    obtain ⟨xs, hxs⟩ : ∃ xs, xs = [x, y, z] := ⟨_, rfl⟩
    obtain ⟨tab, htab⟩ : ∃ tab, tab = sumT x y z := ⟨_, rfl⟩
    rw [← hxs] at HT8 HSG HVB HBD
    rw [← htab, ← hxs] at HI0
    rw [← htab] at HT8 HTL
    clear hxs htab HX HY HZ ho5 hr5 gg5
    go_loopw [7] (fun sv wr => ∃ s, sv = .int .i64 (s : Nat) ∧ s ≤ 8 ∧ Hid (OneAt w1 rb (k + 4) w5.heap.size xs (filled tab s) wr)) (fun i _ => 8 - (intOf i).toNat)
    case atStart => exact ⟨0, rfl, by omega, HI0⟩
    case round =>
      obtain ⟨s, rfl, hs, HI⟩ := hrel
      by_cases hlt : s < 8
      · have HIN : Hid (OneAt w1 rb (k + 4) w5.heap.size xs ((filled tab s).set s (sumV xs s 0)) wr) := Lib.hid (by
          rw [show sumV xs s 0 = 0 from rfl, filled_same1 (by rw [HTL.out]; exact hlt)]; exact HI.out)
        have HSET : Hid ((filled tab s).set s (sumV xs s 3) = filled tab (s + 1)) := Lib.hid (filled_set tab s _ (HT8.out s hlt))
        have HFL : Hid (s < (filled tab s).length) := Lib.hid (by rw [filled_len _ _ (by rw [HTL.out]; omega), HTL.out]; exact hlt)
        have hs0 : (0 : Int) ≤ (s : Int) := by omega
        have hs8 : (s : Int) < 8 := by omega
        have hss : s < 8 := hlt
        clear hlt HI
        go_wp2_with fail
        go_loopw [8] (fun jv wr' => ∃ j, jv = .int .i64 (j : Nat) ∧ j ≤ 3 ∧ Hid (OneAt w1 rb (k + 4) w5.heap.size xs ((filled tab s).set s (sumV xs s j)) wr')) (fun i _ => 3 - (intOf i).toNat)
        case atStart => exact ⟨0, rfl, by omega, HIN⟩
        case round =>
          obtain ⟨j, rfl, hj, HI⟩ := hrel
          by_cases hlt : j < 3
          · have HB := Lib.hid (HBIT.out s j hss hlt)
            have hj0 : (0 : Int) ≤ (j : Int) := by omega
            have hj3 : (j : Int) < 3 := by omega
            obtain ⟨V, hV⟩ : ∃ V, V = sumV xs s j := ⟨_, rfl⟩
            obtain ⟨b, hbb⟩ : ∃ b, b = s / 2 ^ j % 2 := ⟨_, rfl⟩
            have hcell := HI.out.out.cell (i := s) (x := V) (by rw [List.getElem?_set_self HFL.out, hV])
            have hfree := HI.out.out.free s
            obtain ⟨u, hu⟩ : ∃ u, u = xs.getD j 0 := ⟨_, rfl⟩
            have hc2 := HI.out.single.cell (i := j) (x := u) (by rw [HSG.out j hlt, hu])
            have hub := HVB.out j hlt
            have hvb := HBD.out s j (by omega)
            rw [← hu] at hub
            rw [← hV] at hvb
            have hb2 : b ≤ 1 := by omega
            have hmul : 0 ≤ (b : Int) * u ∧ (b : Int) * u ≤ 9 := by
              rcases (show b = 0 ∨ b = 1 by omega) with rfl | rfl <;> simp <;> omega
            have e1 : IntKind.i64.wrap ((b : Int) * u) = (b : Int) * u := IntWalk.i64_in _ (by omega)
            have e2 : IntKind.i64.wrap (V + (b : Int) * u) = V + (b : Int) * u := IntWalk.i64_in _ (by omega)
            have HSD : Hid (OneAt w1 rb (k + 4) w5.heap.size xs ((filled tab s).set s (sumV xs s (j + 1))) (wr.setCell ⟨w1.heap.size, s, none⟩ (.int .i64 (V + (b : Int) * u))).drew) := Lib.hid (by
              have h9 := HI.out.set_ hl1 s (V + (b : Int) * u)
              rw [List.set_set] at h9
              rw [show sumV xs s (j + 1) = V + (b : Int) * u by simp only [sumV]; rw [← hV, ← hbb, ← hu]]
              exact h9.drew)
            rw [← hbb] at HB
            have hj1 : j + 1 ≤ 3 := hlt
            clear hV hu hbb hlt HI hub hvb hmul
            go_wp2_with fail
            refine wp_onceB (a0 := ?a0) (w0 := ?w0) (fun K1 h1 => ?first) ?rest
            case first =>
              go_region_with (go_at_call 159; refine (HB.out _).mono ?_; rintro e w6 ⟨rfl, rfl⟩)
              all_goals exact h1
            case rest =>
              go_wp2
              exact ⟨⟨j + 1, by go_num, hj1, HSD⟩, by simp only [intOf]; omega⟩
          · obtain rfl : j = 3 := by omega
            have HTE : Hid (OneAt w1 rb (k + 4) w5.heap.size xs (filled tab (s + 1)) wr) := Lib.hid (by rw [← HSET.out]; exact HI.out)
            clear hlt HI
            go_wp2
            go_roundw
            case rel => exact ⟨s + 1, by go_num, by omega, HTE⟩
            case measure => simp only [intOf]; omega
      · obtain rfl : s = 8 := by omega
        have HTE : Hid (OneAt w1 rb (k + 4) w5.heap.size xs tab wr) := Lib.hid (by have := HI.out; rw [← HTL.out, filled_all] at this; exact this)
        clear hlt HI
        go_wp2
        go_ret
        exact ⟨w1.heap.size, 8, tab, rfl, HTL.out, trivial, HTE.out.out.base hg1.size, HTE.out.rdr.more (by omega), hg1.trans HTE.out.grown⟩
  by_cases hc : m = 3
  · subst hc
    as_aux_lemma =>
    go_wp2_with fail
    refine (oneTable_any rb (k + 1) w1 hr1 (by omega)).mono ?_
    rintro e w2 ⟨g2, c2, ys2, rfl, hl2, hp2, o2, hr2, hg2⟩
    have hlt2 := hr2.lt
    go_wp2_with fail
    refine (oneTable_any rb (k + 1 + 3) w2 hr2 (by omega)).mono ?_
    rintro e w3 ⟨g3, c3, ys3, rfl, hl3, hp3, o3, hr3, hg3⟩
    have gg3 := hg1.trans (hg2.trans hg3)
    have o23 : Own w3 w1.heap.size (some ⟨g2, 0, none⟩) c2 ys2 := o2.kept_ (A2 := some ⟨rb, 0, none⟩) hg3 (.inr (fun e => by have := Option.some.inj e; have h3 := o2.ge; have : g2 = rb := this; omega))
    have HJ := Lib.hid (SJoinTables_any (some ⟨g2, 0, none⟩) (some ⟨g3, 0, none⟩) c2 c3 ys2 ys3 w3 o23.rd o3.rd o23.cap.1 o3.cap.1 (by omega) (by omega))
    have HON := Lib.hid (ones_join hp2 hp3)
    have HP2 := Lib.hid hp2.1
    have HP3 := Lib.hid hp3.1
    rw [hl2, hl3] at HJ
    clear hp2 hp3
    go_wp2_with fail
    refine HJ.out.mono ?_
    rintro e w4 ⟨hb4, ⟨_, _, _, g4, c4, rfl, o4⟩ | ⟨hno, _⟩⟩
    · have gg4 := gg3.trans (gb_of_below hb4 (some rb))
      go_wp2
      go_ret
      exact ⟨g4, c4, jnT ys2 ys3, rfl, jnT_len _ _, trivial, o4.base gg3.size, (hr3.below hb4).more (by omega), gg4⟩
    · exact absurd ⟨HP2.out, HP3.out, HON.out⟩ hno
  · as_aux_lemma =>
    have h0 : ¬ m = 0 := fun e => ha (.inl e)
    have h1 : ¬ m = 1 := fun e => ha (.inr e)
    have q0 : (m == 0) = false := by simpa using h0
    have q1 : (m == 1) = false := by simpa using h1
    have q2 : (m == 2) = false := by simpa using hb
    have q3 : (m == 3) = false := by simpa using hc
    clear h0 h1 ha hb hc
    go_wp2_with fail
    refine (oneTable_any rb (k + 1) w1 hr1 (by omega)).mono ?_
    rintro e w4 ⟨g4, c4, ys, rfl, hl4, _, o4, hr4, hg4⟩
    go_wp2
    go_ret
    exact ⟨g4, c4, ys, rfl, hl4, trivial, o4.base hg1.size, hr4.more (by omega), hg1.trans hg4⟩

end Go.Proofs.Ytccbjgajmjcpjab

/-
  The generators of the laws of chapter 4: a table, most often.
-/
namespace Go.Proofs.Ytccbjgajmjcpjab
open Go.RowKit Go.Lib

theorem own_take {w : World} {B g c : Nat} {ys : List Int} (h : Own w B (some ⟨g, 0, none⟩) c ys) (n : Nat) (hn : n ≤ ys.length) : Own w B (some ⟨g, 0, none⟩) c (ys.take n) := by
  have hl : (ys.take n).length = n := by rw [List.length_take]; omega
  rcases h.2 with ⟨hv, _⟩ | ⟨g', cap, cur, hv, hB, hh, h1, h2, h3, h4⟩
  · cases hv
  · injection hv with hA hn' hc
    injection hA with hA
    injection hA with hA
    subst hA hc
    unfold Own
    rw [hl]
    refine ⟨by simp; omega, .inr ⟨g, c, cur, rfl, hB, hh, by omega, h2, h3, ?_⟩⟩
    have : (cur.toList.take (ys.length * 1)).take (n * 1) = (ys.map (Value.int .i64)).take (n * 1) := by rw [h4]
    rw [List.take_take, Nat.min_eq_left (by omega)] at this
    rw [this, List.map_take]
    simp

/-- What is drawn: a list of at most eight numbers in a block of its own. -/
def TbsIs (w : World) (rb k : Nat) (e : Ending) (w' : World) : Prop :=
  ∃ g c ys, e = .returned (.slice (some ⟨g, 0, none⟩) ys.length c) ∧ ys.length ≤ 8 ∧ Own w' w.heap.size (some ⟨g, 0, none⟩) c ys ∧ Rdr w' rb k ∧ w.grownBy w' (some rb)

set_option maxHeartbeats 4000000 in
set_option maxRecDepth 100000 in
theorem someTable_any (rb k : Nat) (w : World) (h : Rdr w rb k) (hk : k + 80 ≤ 1000000) :
    Calls Try.prog 139 #[.pointer (some ⟨rb, 0, none⟩)] w (TbsIs w rb (k + 40)) := by
  have hl := h.lt
  go_enter Try.func139, Try.ntmps139
  go_wp2_with fail
  refine (goodTable_any rb k w h (by omega)).mono ?_
  rintro e w1 ⟨g, c, ys, rfl, hy, _, o1, hr1, hg1⟩
  have hl1 := hr1.lt
  have hgr := o1.ge
  go_wp2_with fail
  refine (pick_any rb (k + 30) 40 w1 hr1 (by omega) (by decide) (by decide)).mono ?_
  rintro e w2 ⟨m, rfl, hm0, hm1, hr2, hg2⟩
  have gg2 := hg1.trans hg2
  have o2 : Own w2 w.heap.size (some ⟨g, 0, none⟩) c ys := o1.kept_ (A2 := some ⟨rb, 0, none⟩) hg2 (.inr (fun e => by have h3 : g = rb := Option.some.inj e; omega))
  have hcap := o2.cap
  by_cases h0 : m = 0
  · subst h0
    go_wp2_with fail
    refine (pick_any rb (k + 30 + 1) 8 w2 hr2 (by omega) (by decide) (by decide)).mono ?_
    rintro e w3 ⟨i, rfl, hi0, hi1, hr3, hg3⟩
    obtain ⟨i, rfl⟩ := Int.eq_ofNat_of_zero_le hi0
    have hi8 : i < 8 := by omega
    have o3 : Own w3 w.heap.size (some ⟨g, 0, none⟩) c ys := o2.kept_ (A2 := some ⟨rb, 0, none⟩) hg3 (.inr (fun e => by have h3 : g = rb := Option.some.inj e; omega))
    have gg3 := gg2.trans hg3
    clear hg2 hg3 hg1 o1 o2 hi0 hi1
    go_wp2_with fail
    refine (one_new rb (k + 30 + 1 + 1) 4 [31, -1, 0, 30] _ w3 rfl rfl hr3 (by decide) (by decide) (by omega)).mono ?_
    rintro e w4 ⟨v, _, rfl, hr4, hg4⟩
    have o4 : Own w4 w.heap.size (some ⟨g, 0, none⟩) c ys := o3.kept_ (A2 := some ⟨rb, 0, none⟩) hg4 (.inr (fun e => by have h3 : g = rb := Option.some.inj e; omega))
    have gg4 := gg3.trans hg4
    obtain ⟨y, hyi⟩ := at_some (xs := ys) (k := i) (by omega)
    have hcell := o4.cell hyi
    have hfree := o4.free i
    have o5 := o4.set_ i v
    have hi0' : (0 : Int) ≤ (i : Int) := by omega
    have hi8' : (i : Int) < 8 := by omega
    have HL : Hid ((ys.set i v).length = 8) := Lib.hid (by rw [List.length_set]; exact hy)
    have HR5 := Lib.hid (hr4.set_ (g := g) (i := i) (v := .int .i64 v) (by omega))
    have HG5 := Lib.hid (gb_set (g := g) (i := i) (v := .int .i64 v) gg4 hgr)
    clear hyi hg4 o3
    go_wp2
    go_ret
    exact ⟨g, c, ys.set i v, by rw [HL.out]; rfl, by rw [HL.out]; omega, o5, HR5.out.more (by omega), HG5.out⟩
  by_cases h1 : m = 1
  · subst h1
    have h7 := own_take o2 7 (by omega)
    have hl7 : (ys.take 7).length = 7 := by rw [List.length_take]; omega
    go_wp2
    go_ret
    exact ⟨g, c, ys.take 7, by rw [hl7]; rfl, by omega, h7, hr2.more (by omega), gg2⟩
  · have q0 : (m == 0) = false := by simpa using h0
    have q1 : (m == 1) = false := by simpa using h1
    clear h0 h1
    go_wp2
    go_ret
    exact ⟨g, c, ys, by rw [hy]; rfl, by omega, o2, hr2.more (by omega), gg2⟩

end Go.Proofs.Ytccbjgajmjcpjab

/-
  The exact laws' helpers for lists of rows: sized, copied, compared, marked.
-/
namespace Go.Proofs.Ytccbjgajmjcpjab
open Go.RowKit

/-- The slice value of a row: its block, its capacity, its numbers. -/
def slU (p : Nat × Nat × List Int) : Value := .slice (some ⟨p.1, 0, none⟩) p.2.2.length p.2.1

/-- The slice value v holds the rows ps, it and each of them in a block of the call's own, from block B on, no two in one block. -/
structure RowsU (w : World) (B : Nat) (v : Value) (ps : List (Nat × Nat × List Int)) : Prop where
  row : w.ownsRow B 26 1 v ps.length (ps.map slU)
  each : ∀ p ∈ ps, Own w B (some ⟨p.1, 0, none⟩) p.2.1 p.2.2
  nodup : (ps.map (·.1)).Nodup

theorem rowU_apart {w : World} {B B' g c n : Nat} {v : Value} {vs : List Value} {zs : List Int} (hr : w.ownsRow B 26 1 v n vs) (ho : Own w B' (some ⟨g, 0, none⟩) c zs) : v.ownBlock ≠ some g := by
  intro e
  rcases hr.2 with ⟨rfl, _⟩ | ⟨g', cap, cur, rfl, _, hh, _⟩
  · simp [Value.ownBlock] at e
  · obtain rfl : g' = g := by simpa [Value.ownBlock] using e
    rcases ho.2 with ⟨hv, _⟩ | ⟨g2, cap2, cur2, hv2, _, hh2, _⟩
    · cases hv
    · injection hv2 with hA _ _
      injection hA with hA
      injection hA with hA
      subst hA
      rw [hh] at hh2
      cases hh2
theorem RowsU.below {w w' : World} {B : Nat} {v : Value} {ps : List (Nat × Nat × List Int)} (h : RowsU w B v ps) (hb : Below w.heap.size w w') : RowsU w' B v ps :=
  ⟨own_len h.row hb, fun p hp => (h.each p hp).below hb, h.nodup⟩
theorem RowsU.base {w : World} {B B' : Nat} {v : Value} {ps : List (Nat × Nat × List Int)} (h : RowsU w B v ps) (hB : B' ≤ B) : RowsU w B' v ps :=
  ⟨own_base h.row hB, fun p hp => (h.each p hp).base hB, h.nodup⟩
theorem RowsU.kept {w w' : World} {B : Nat} {v : Value} {ps : List (Nat × Nat × List Int)} (h : RowsU w B v ps) {r : Nat} (hg : w.grownBy w' (some r)) (hv : v.ownBlock ≠ some r) (hp : ∀ p ∈ ps, p.1 ≠ r) : RowsU w' B v ps :=
  ⟨h.row.kept hg (.inr hv), fun p hpp => (h.each p hpp).kept_ (A2 := some ⟨r, 0, none⟩) hg (.inr (fun e => hp p hpp (Option.some.inj e))), h.nodup⟩
/-- Own rows read as rows. -/
theorem RowsU.rdr {w : World} {B : Nat} {v : Value} {ps : List (Nat × Nat × List Int)} {rows : List (List Int)} (h : RowsU w B v ps) (hr : ps.map (·.2.2) = rows) : ∃ A c, v = .slice A rows.length c ∧ RdR w A c rows := by
  subst hr
  rw [List.length_map]
  rcases h.row.2 with ⟨hv, hn⟩ | ⟨g, cap, cur, hv, _, _, h1, _⟩
  · obtain rfl : ps = [] := List.eq_nil_of_length_eq_zero hn
    exact ⟨none, 0, hv, RdR.nil w⟩
  · refine ⟨some ⟨g, 0, none⟩, cap, hv, by simpa using h1, .inr ⟨g, 0, rfl, fun k r hk => ?_⟩⟩
    rw [List.getElem?_map] at hk
    cases hp : ps[k]? with
    | none => rw [hp] at hk; cases hk
    | some p =>
      rw [hp] at hk
      simp at hk
      subst hk
      subst hv
      have := World.ownsRow.cellAt h.row k (by have := (List.getElem?_eq_some_iff.1 hp).1; omega)
      have ho := h.each p (List.mem_of_getElem? hp)
      exact ⟨slU p, by rw [Nat.zero_add, this, List.getElem?_map, hp]; rfl, some ⟨p.1, 0, none⟩, p.2.1, rfl, ho.cap.1, ho.rd⟩

/-- How many there are, and how many numbers they hold. -/
def szR (rows : List (List Int)) : Nat := rows.length + rows.flatten.length

theorem szIntS_any (A : Option Addr) (n c : Nat) (left : Int) (w : World) (hn : n ≤ maxLen) (hl0 : -1 ≤ left) (hl1 : left ≤ 1048576) :
    Calls Try.prog 105 #[.slice A n c, .int .i64 left] w fun e w' => (∃ z : Int, e = .returned (.int .i64 z) ∧ ((z = -1 ∧ left < n) ∨ (z = left - n ∧ (n : Int) ≤ left))) ∧ w = w' := by
  unfold maxLen at hn
  by_cases hlt : left < n
  · have hneg : decide (left - (n : Int) < 0) = true := by simp; omega
    have HLT := Lib.hid hlt
    clear hlt
    go_enter Try.func105, Try.ntmps105
    go_wp2
    go_ret
    exact ⟨⟨-1, rfl, .inl ⟨rfl, HLT.out⟩⟩, rfl⟩
  · have hneg : decide (left - (n : Int) < 0) = false := by simp; omega
    have HLT : Hid ((n : Int) ≤ left) := Lib.hid (by omega)
    clear hlt
    go_enter Try.func105, Try.ntmps105
    go_wp2
    go_ret
    exact ⟨⟨left - n, rfl, .inr ⟨rfl, HLT.out⟩⟩, rfl⟩

theorem flat_take {rows : List (List Int)} {k : Nat} {r : List Int} (hr : rows[k]? = some r) : (rows.take (k + 1)).flatten.length = (rows.take k).flatten.length + r.length := by
  rw [List.take_add_one, hr, List.flatten_append, List.length_append, Option.toList_some, List.flatten_cons, List.flatten_nil, List.append_nil]
theorem flat_le {rows : List (List Int)} (k : Nat) : (rows.take k).flatten.length ≤ rows.flatten.length := by
  have e : rows.flatten = (rows.take k).flatten ++ (rows.drop k).flatten := by rw [← List.flatten_append, List.take_append_drop]
  rw [e, List.length_append]; omega

set_option maxHeartbeats 800000 in
theorem szIntSS_any (A : Option Addr) (c : Nat) (rows : List (List Int)) (w : World) (hR : RdR w A c rows) (hl : rows.length ≤ maxLen) (hl2 : ∀ r ∈ rows, r.length ≤ maxLen) :
    Calls Try.prog 42 #[.slice A rows.length c, .int .i64 1048576] w fun e w' => (∃ z : Int, e = .returned (.int .i64 z) ∧ ((z = -1 ∧ 1048576 < szR rows) ∨ (0 ≤ z ∧ szR rows ≤ 1048576))) ∧ ∃ n, w' = w.drewN n := by
  have HL2 := Lib.hid hl2
  clear hl2
  unfold maxLen at hl
  by_cases hbig : 1048576 < rows.length
  · have hneg : decide ((1048576 : Int) - (rows.length : Int) < 0) = true := by simp; omega
    have HS : Hid (1048576 < szR rows) := Lib.hid (by unfold szR; omega)
    go_enter Try.func42, Try.ntmps42
    go_wp2
    go_ret
    exact ⟨⟨-1, rfl, .inl ⟨rfl, HS.out⟩⟩, 0, rfl⟩
  · have hneg : decide ((1048576 : Int) - (rows.length : Int) < 0) = false := by simp; omega
    obtain ⟨L, hL⟩ : ∃ L : Int, L = (1048576 : Int) - (rows.length : Int) := ⟨_, rfl⟩
    have hLw : (1048576 : Int) - (rows.length : Int) = L := hL.symm
    have HLE := Lib.hid hL
    have hL1 : L ≤ 1048576 := by omega
    have hL0 : 0 ≤ L := by omega
    rw [hLw] at hneg
    clear hL
    go_enter Try.func42, Try.ntmps42
    go_wp2
    go_loopw [1, 5] (fun z i wr => ∃ (k n : Nat) (y : Int), k ≤ rows.length ∧ i = .int .i64 k ∧ wr = w.drewN n ∧ z = .int .i64 y ∧ 0 ≤ y ∧ y ≤ 1048576 ∧ Hid (y = L - (rows.take k).flatten.length)) (fun _ i _ => rows.length - (intOf i).toNat)
    case atStart => exact ⟨0, 0, L, Nat.zero_le _, rfl, rfl, rfl, hL0, hL1, Lib.hid (by simp)⟩
    case round =>
      obtain ⟨k, n, y, hk, rfl, rfl, rfl, hy0, hy1, HY⟩ := hrel
      by_cases hlt : k < rows.length
      · obtain ⟨b, off, r, A', c', rfl, hr, hc, hcap, hrd⟩ := hR.at_ hlt
        have HSZ := Lib.hid (szIntS_any A' r.length c' y (w.drewN n) (HL2.out r (List.mem_of_getElem? hr.out)) (by omega) hy1)
        have HFT := Lib.hid (flat_take hr.out)
        have HFL := Lib.hid (flat_le (rows := rows) (k + 1))
        go_wp2_with fail
        refine HSZ.out.mono ?_
        rintro e w1 ⟨⟨z, rfl, hz⟩, rfl⟩
        rcases hz with ⟨rfl, hz⟩ | ⟨rfl, hz⟩
        · have HS : Hid (1048576 < szR rows) := Lib.hid (by have h1 := HFT.out; have h2 := HFL.out; have h3 := HY.out; have h4 := HLE.out; unfold szR; omega)
          clear hz
          go_wp2
          go_ret
          exact ⟨⟨-1, rfl, .inl ⟨rfl, HS.out⟩⟩, _, rfl⟩
        · have hnn : decide (y - (r.length : Int) < 0) = false := by simp; omega
          have HY2 : Hid (y - (r.length : Int) = L - (rows.take (k + 1)).flatten.length) := Lib.hid (by have h1 := HFT.out; have h3 := HY.out; omega)
          go_wp2
          go_roundw
          case rel => exact ⟨k + 1, _, _, by omega, by go_num, rfl, rfl, by omega, by omega, HY2⟩
          case measure => simp [intOf]; omega
      · obtain rfl : k = rows.length := by omega
        have HS : Hid (szR rows ≤ 1048576) := Lib.hid (by have h3 := HY.out; have h4 := HLE.out; rw [List.take_length] at h3; unfold szR; omega)
        go_wp2
        go_ret
        exact ⟨⟨y, rfl, .inr ⟨hy0, HS.out⟩⟩, _, rfl⟩

end Go.Proofs.Ytccbjgajmjcpjab

/-
  The exact laws' helpers for lists of rows: copied.
-/
namespace Go.Proofs.Ytccbjgajmjcpjab
open Go.RowKit

/-- 'make([][]int, n)': n nil rows in a block of the call's own. -/
theorem wpList_make_rows {ops : Array Oper} {rest : List Oper} {o : Oper} {a : Act} {w : World} {Q : Exit → Act → World → Prop} (hg : o.guard = none) (l c : Operand)
    (hop : o.op = Op.makeSlice 23 l c) (base n : Nat) (hl : a.eval l = .int .i64 (n : Int)) (hc : a.eval c = .int .i64 (n : Int)) (hn : n ≤ 1099511627776) (hb : base ≤ w.heap.size)
    (hK : ∀ w', w'.ownsRow base 26 1 (.slice (some ⟨w.heap.size, 0, none⟩) n n) n (List.replicate n (.slice none 0 0)) → Below base w w' → wpList Try.prog ops Q rest (a.put o.dst (.slice (some ⟨w.heap.size, 0, none⟩) n n)) w') :
    wpList Try.prog ops Q (o :: rest) a w := by
  obtain ⟨i0, hi, hz0, hz1, hz2⟩ := info_parts intsU_info
  refine wpList_make_full w hg l c 23 hop base 26 i0 (.slice none 0 0) 1 Try.underlying23 hi hz0 hz1 .i64 .i64 n n n hl hc rfl rfl (by rw [hz2]; omega) (by unfold maxLen; omega) hb ?_
  intro w' h1 h2
  refine hK w' ?_ ((Below.refl base w).grown h2 hb (fun k h => by cases h))
  simpa [toList_madeCells_one, Value.cells] using h1

/-- What toIntSS hands back: own rows. -/
def RowsIs (w : World) (rows : List (List Int)) (e : Ending) (w' : World) : Prop :=
  ∃ v ps, e = .returned v ∧ RowsU w' w.heap.size v ps ∧ ps.map (·.2.2) = rows ∧ Below w.heap.size w w'

theorem part_set {ps : List (Nat × Nat × List Int)} {p : Nat × Nat × List Int} {n k : Nat} (hk : ps.length = k) (hkn : k < n) :
    (ps.map slU ++ List.replicate (n - k) (Value.slice none 0 0)).set k (slU p) = (ps ++ [p]).map slU ++ List.replicate (n - (k + 1)) (Value.slice none 0 0) := by
  subst hk
  obtain ⟨m, hm⟩ : ∃ m, n - ps.length = m + 1 := ⟨n - ps.length - 1, by omega⟩
  rw [hm, show n - (ps.length + 1) = m by omega, List.set_append, if_neg (by rw [List.length_map]; omega), List.length_map, Nat.sub_self, List.replicate_succ, List.set_cons_zero, List.map_append]
  simp

set_option maxHeartbeats 1000000 in
theorem toIntSS_any (A : Option Addr) (c : Nat) (rows : List (List Int)) (w : World) (hR : RdR w A c rows) (hs : szR rows ≤ 1048576) :
    Calls Try.prog 44 #[.slice A rows.length c] w (RowsIs w rows) := by
  have hl : rows.length ≤ 1048576 := by unfold szR at hs; omega
  have HS := Lib.hid hs
  have HR := Lib.hid hR
  clear hs hR
  go_enter Try.func44, Try.ntmps44
  go_wp2_with (at_make; refine wpList_make_rows rfl _ _ rfl w.heap.size rows.length rfl rfl (by omega) (by simp) ?_; intro w2 ho hb)
  obtain ⟨S, hS⟩ : ∃ S, S = w.heap.size := ⟨_, rfl⟩
  have HO : Hid (w2.ownsRow w.heap.size 26 1 (.slice (some ⟨S, 0, none⟩) rows.length rows.length) rows.length (([] : List (Nat × Nat × List Int)).map slU ++ List.replicate (rows.length - 0) (.slice none 0 0))) := Lib.hid (by rw [hS]; simpa using ho)
  rw [← hS]
  have HSS := Lib.hid hS
  clear ho hS
  go_loopw [4] (fun i wr => ∃ (k : Nat) (ps : List (Nat × Nat × List Int)), k ≤ rows.length ∧ i = .int .i64 k ∧ Hid (ps.length = k) ∧ Hid (wr.ownsRow w.heap.size 26 1 (.slice (some ⟨S, 0, none⟩) rows.length rows.length) rows.length (ps.map slU ++ List.replicate (rows.length - k) (.slice none 0 0))) ∧
      Hid (∀ p ∈ ps, Own wr w.heap.size (some ⟨p.1, 0, none⟩) p.2.1 p.2.2) ∧ Hid ((ps.map (·.1)).Nodup) ∧ Hid (ps.map (·.2.2) = rows.take k) ∧ Hid (∀ p ∈ ps, S < p.1) ∧ Below w.heap.size w wr) (fun i _ => rows.length - (intOf i).toNat)
  case atStart => exact ⟨0, [], Nat.zero_le _, rfl, Lib.hid rfl, HO, Lib.hid (fun _ h => absurd h (by simp)), Lib.hid (by simp), Lib.hid (by simp), Lib.hid (fun _ h => absurd h (by simp)), hb⟩
  case round =>
    obtain ⟨k, ps, hk, rfl, HPL, HO, HE, HND, HM, HLT, hb⟩ := hrel
    by_cases hlt : k < rows.length
    · obtain ⟨b, off, r, A', c', rfl, hr, hc0, hcap, hrd⟩ := HR.out.at_ hlt
      have hc := (hb.cell (p := ⟨b, off + k, none⟩) (World.block_lt_of_cell? w _ hc0)).trans hc0
      have hrl : r.length ≤ 1048576 := by
        have h1 := flat_take hr.out
        have h2 := flat_le (rows := rows) (k + 1)
        have h3 := HS.out
        unfold szR at h3
        omega
      have HT := Lib.hid (toIntS_any A' c' r wr (hrd.out.below hb) (by omega))
      clear hc0
      go_wp2_with fail
      refine HT.out.mono ?_
      rintro e w5 ⟨g5, c5, rfl, o5, b5⟩
      have B5 := hb.trans (b5.mono hb.size)
      have o5row := own_len HO.out b5
      have hSl : S < wr.heap.size := (World.ownsRow.lt HO.out S rfl).2
      have hg5 := o5.ge
      have hcell : ∃ x, w5.cell? ⟨S, k, none⟩ = some x := by
        have := World.ownsRow.cellAt o5row k (by omega)
        rw [List.getElem?_append_right (by rw [List.length_map, HPL.out]; exact Nat.le_refl _), List.length_map, HPL.out, Nat.sub_self] at this
        exact ⟨_, this.trans (by rw [List.getElem?_replicate, if_pos (by omega)])⟩
      obtain ⟨x, hcx⟩ := hcell
      have hfr := World.ownsRow.frozenAt o5row k
      have hst := World.ownsRow.stored o5row k (slU (g5, c5, r))
      rw [part_set HPL.out hlt] at hst
      have HST := Lib.hid hst.1
      have HES : Hid (∀ p ∈ ps ++ [(g5, c5, r)], Own (w5.setCell ⟨S, k, none⟩ (slU (g5, c5, r))) w.heap.size (some ⟨p.1, 0, none⟩) p.2.1 p.2.2) := Lib.hid (by
        intro p hp
        rcases List.mem_append.1 hp with hp | hp
        · exact ((HE.out p hp).below b5).kept_ (A2 := some ⟨S, 0, none⟩) hst.2 (.inr (fun e => by have h1 := Option.some.inj e; have h2 := HLT.out p hp; simp at h1; omega))
        · obtain rfl : p = (g5, c5, r) := by simpa using hp
          exact (o5.base hb.size).kept_ (A2 := some ⟨S, 0, none⟩) hst.2 (.inr (fun e => by have h1 := Option.some.inj e; simp at h1; omega)))
      have HNS : Hid (((ps ++ [(g5, c5, r)]).map (·.1)).Nodup) := Lib.hid (by
        rw [List.map_append, List.nodup_append]
        refine ⟨HND.out, by simp, ?_⟩
        intro a ha b' hb' hab
        simp at hb'
        subst hb' hab
        obtain ⟨p, hp, rfl⟩ := List.mem_map.1 ha
        have := (HE.out p hp).lt
        omega)
      have HMS : Hid ((ps ++ [(g5, c5, r)]).map (·.2.2) = rows.take (k + 1)) := Lib.hid (by rw [List.take_add_one, hr.out, List.map_append, HM.out]; rfl)
      have HLS : Hid (∀ p ∈ ps ++ [(g5, c5, r)], S < p.1) := Lib.hid (by
        intro p hp
        rcases List.mem_append.1 hp with hp | hp
        · exact HLT.out p hp
        · obtain rfl : p = (g5, c5, r) := by simpa using hp
          show S < g5
          omega)
      have HPS : Hid ((ps ++ [(g5, c5, r)]).length = k + 1) := Lib.hid (by rw [List.length_append, HPL.out]; rfl)
      have HBS : Hid (Below w.heap.size w (w5.setCell ⟨S, k, none⟩ (slU (g5, c5, r)))) := Lib.hid (B5.setCell (p := ⟨S, k, none⟩) (by rw [HSS.out]; exact Nat.le_refl _) _)
      clear o5 b5 B5 o5row hst
      go_wp2
      go_roundw
      case rel => exact ⟨k + 1, _, by omega, by go_num, HPS, HST, HES, HNS, HMS, HLS, HBS.out⟩
      case measure => simp [intOf]; omega
    · obtain rfl : k = rows.length := by omega
      have HOF : Hid (wr.ownsRow w.heap.size 26 1 (.slice (some ⟨S, 0, none⟩) ps.length rows.length) ps.length (ps.map slU)) := Lib.hid (by
        have h1 := HO.out
        rw [Nat.sub_self, List.replicate_zero, List.append_nil] at h1
        rw [HPL.out]
        exact h1)
      have HMF : Hid (ps.map (·.2.2) = rows) := Lib.hid (by rw [HM.out, List.take_length])
      have HVE : Hid (Value.slice (some ⟨S, 0, none⟩) ps.length rows.length = .slice (some ⟨S, 0, none⟩) rows.length rows.length) := Lib.hid (by rw [HPL.out])
      go_wp2
      go_ret
      exact ⟨_, ps, by rw [← HVE.out]; rfl, ⟨HOF.out, HE.out, HND.out⟩, HMF.out, hb⟩

end Go.Proofs.Ytccbjgajmjcpjab
