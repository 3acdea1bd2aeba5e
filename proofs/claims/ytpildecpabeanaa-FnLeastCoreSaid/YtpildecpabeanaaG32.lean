/-
  The generators of the laws of chapter 4: texts of offers, a table.
-/
import Derived.Test.YtpildecpabeanaaG30
import Derived.Test.YtpildecpabeanaaG26
import Derived.Test.YtpildecpabeanaaTg
import Derived.Deep.RegionWith
import Derived.Test.YtpildecpabeanaaG28
namespace Go.Proofs.Ytpildecpabeanaa
open Go.RowKit Go.Lib

theorem sv_bd9 {ts : List (List Int)} (h : ∀ t ∈ ts, ∀ s, s < 8 → T t s ≤ 9) : ∀ x : Nat, x < 8 → sv ts x ≤ 9 * ts.length := by
  induction ts with
  | nil => intro x _; simp [sv]
  | cons t ts ih =>
    intro x hx
    simp only [sv]
    refine mx_le (by omega) (fun s hs => ?_)
    have h1 := ih (fun u hu => h u (by simp [hu])) (x - s) (by omega)
    have h2 := h t (by simp) s (subs_lt hs)
    simp only [List.length_cons]
    omega
/-- Two who want one thing each are a table. -/
theorem ones_join {a b : List Int} (ha : Ones a) (hb : Ones b) : VT (jnT a b) := by
  have hz : ∀ t ∈ [a, b], T t 0 = 0 := by
    intro t ht
    simp at ht
    rcases ht with rfl | rfl
    · exact ha.1.2.1
    · exact hb.1.2.1
  have h9 : ∀ t ∈ [a, b], ∀ s, s < 8 → T t s ≤ 9 := by
    intro t ht
    simp at ht
    rcases ht with rfl | rfl
    · exact ha.2
    · exact hb.2
  have hT : ∀ s, s < 8 → T (jnT a b) s = sv [a, b] s := fun s hs => T_of (jnT_at a b hs)
  refine ⟨jnT_len a b, ?_, fun s hs => ⟨?_, fun j hj hbit => ?_⟩⟩
  · rw [hT 0 (by omega)]
    refine Int.le_antisymm ?_ (sv_nonneg _ _)
    simp [sv, subs, mx, hz a (by simp), hz b (by simp), List.range, List.range.loop]
  · rw [hT s hs]
    have h1 := sv_nonneg [a, b] s
    have h2 := sv_bd9 h9 s hs
    simp at h2
    omega
  · have h8 : s + 2 ^ j < 8 := by
      rcases nat8 hs with rfl | rfl | rfl | rfl | rfl | rfl | rfl | rfl <;> rcases nat3 hj with rfl | rfl | rfl <;> first | omega | (exfalso; revert hbit; decide)
    rw [hT s hs, hT _ h8]
    refine sv_more hz h8 ?_
    rcases nat8 hs with rfl | rfl | rfl | rfl | rfl | rfl | rfl | rfl <;> rcases nat3 hj with rfl | rfl | rfl <;> first | decide | (exfalso; revert hbit; decide)

/-- What offerText hands back: a text, not long. -/
def OtxIs (w : World) (rb k : Nat) (e : Ending) (w' : World) : Prop := ∃ s : ByteArray, e = .returned (.string s) ∧ s.size ≤ 1000 ∧ Rdr w' rb k ∧ w.grownBy w' (some rb)

set_option maxHeartbeats 2000000 in
set_option maxRecDepth 100000 in
theorem offerText_any (rb k : Nat) (w : World) (h : Rdr w rb k) (hk : k + 20 ≤ 1000000) :
    Calls Try.prog 158 #[.pointer (some ⟨rb, 0, none⟩)] w (OtxIs w rb (k + 12)) := by
  have hl := h.lt
  go_enter Try.func158, Try.ntmps158
  go_wp2_with fail
  have HC := Lib.hid (lit_str w [⟨#[32, 120, 111, 114, 32]⟩, ⟨#[32, 111, 114, 32]⟩, ⟨#[32, 120, 111, 114, 32]⟩])
  have HR := Lib.hid (h.alloc (.cells #[.string ⟨#[32, 120, 111, 114, 32]⟩, .string ⟨#[32, 111, 114, 32]⟩, .string ⟨#[32, 120, 111, 114, 32]⟩] 9))
  refine (of_any rb k w.heap.size _ 3 _ _ rfl HR.out HC.out (by omega) (by decide) (by decide) (by omega)).mono ?_
  rintro e w1 ⟨wd, hwd, rfl, hr1, hg1⟩
  have hwz : wd.size ≤ 5 := by
    simp only [List.mem_cons, List.not_mem_nil, or_false] at hwd
    rcases hwd with rfl | rfl | rfl <;> decide
  have gg1 := (World.grownBy_alloc w (.cells #[.string ⟨#[32, 120, 111, 114, 32]⟩, .string ⟨#[32, 111, 114, 32]⟩, .string ⟨#[32, 120, 111, 114, 32]⟩] 9) (some rb)).trans hg1
  clear hwd HC HR hg1
  go_wp2_with fail
  refine (one_new rb (k + 1) 5 [2, 3, 1, 4, 5] _ w1 rfl rfl hr1 (by decide) (by decide) (by omega)).mono ?_
  rintro e w2 ⟨n, hn, rfl, hr2, hg2⟩
  have hn0 : 0 ≤ n := by simp only [List.mem_cons, List.not_mem_nil, or_false] at hn; omega
  have hn5 : n ≤ 5 := by simp only [List.mem_cons, List.not_mem_nil, or_false] at hn; omega
  have gg2 := gg1.trans hg2
  have hl2 : rb < w2.heap.size := hr2.lt
  clear hn hr1 gg1 hg2
  go_wp2_with fail
  go_loopw [4, 5] (fun sv nv wr => ∃ (s : ByteArray) (m : Nat), sv = .string s ∧ nv = .int .i64 (m : Int) ∧ m ≤ 5 ∧ s.size ≤ 20 * (5 - m) ∧ Rdr wr rb (k + 2 + 2 * (5 - m)) ∧ w.grownBy wr (some rb)) (fun _ i _ => (intOf i).toNat)
  case atStart => exact ⟨⟨#[]⟩, n.toNat, rfl, by rw [Int.toNat_of_nonneg hn0], by omega, by simp [ByteArray.size], hr2.more (by omega), gg2⟩
  case round =>
    obtain ⟨s, m, rfl, rfl, hm, hsz, hr, hg⟩ := hrel
    rcases m with _ | m
    · go_wp2
      go_ret
      exact ⟨s, rfl, by omega, hr.more (by omega), hg⟩
    · have hlt := hr.lt
      have hmp : (0 : Int) < ((m + 1 : Nat) : Int) := by omega
      have HOF : Hid (∀ w', Rdr w' rb (k + 2 + 2 * (5 - (m + 1))) → rb < w'.heap.size → Calls Try.prog 182 #[.pointer (some ⟨rb, 0, none⟩), .slice (some ⟨w'.heap.size, 0, none⟩) 9 9] (w'.alloc (.cells #[.string ⟨#[97]⟩, .string ⟨#[98]⟩, .string ⟨#[99]⟩, .string ⟨#[97, 98]⟩, .string ⟨#[98, 99]⟩, .string ⟨#[97, 99]⟩, .string ⟨#[97, 98, 99]⟩, .string ⟨#[97]⟩, .string ⟨#[98]⟩] 9)) fun e w'' => ∃ s : ByteArray, s.size ≤ 3 ∧ e = .returned (.string s) ∧ Rdr w'' rb (k + 2 + 2 * (5 - (m + 1)) + 1) ∧ w'.grownBy w'' (some rb)) := Lib.hid (fun w' hr' hl' => by
        refine (of_any rb _ w'.heap.size 9 9 [⟨#[97]⟩, ⟨#[98]⟩, ⟨#[99]⟩, ⟨#[97, 98]⟩, ⟨#[98, 99]⟩, ⟨#[97, 99]⟩, ⟨#[97, 98, 99]⟩, ⟨#[97]⟩, ⟨#[98]⟩] _ rfl (hr'.alloc _) (lit_str w' [⟨#[97]⟩, ⟨#[98]⟩, ⟨#[99]⟩, ⟨#[97, 98]⟩, ⟨#[98, 99]⟩, ⟨#[97, 99]⟩, ⟨#[97, 98, 99]⟩, ⟨#[97]⟩, ⟨#[98]⟩]) (by omega) (by decide) (by decide) (by omega)).mono ?_
        rintro e w'' ⟨s', hs', rfl, hr'', hg''⟩
        refine ⟨s', ?_, rfl, hr'', (World.grownBy_alloc w' _ (some rb)).trans hg''⟩
        simp only [List.mem_cons, List.not_mem_nil, or_false] at hs'
        rcases hs' with rfl | rfl | rfl | rfl | rfl | rfl | rfl | rfl | rfl <;> decide)
      rcases hem : s.toList.isEmpty with _ | _
      · have hcat : ¬ 9223372036854775807 < s.size + wd.size := by omega
        go_wp2_with fail
        refine (HOF.out wr hr hlt).mono ?_
        rintro e w3 ⟨u, hu, rfl, hr3, hg3⟩
        have gg3 := hg.trans hg3
        have c1 : ¬ 9223372036854775807 < (s ++ wd).size + u.size := by rw [ByteArray.size_append]; omega
        have c2 : ¬ 9223372036854775807 < (s ++ wd ++ u).size + (⟨#[58]⟩ : ByteArray).size := by rw [ByteArray.size_append, ByteArray.size_append]; have : (⟨#[58]⟩ : ByteArray).size = 1 := rfl; omega
        clear hg hg3 hr
        go_wp2_with fail
        refine (pick_any rb _ 10 w3 hr3 (by omega) (by decide) (by decide)).mono ?_
        rintro e w4 ⟨q, rfl, hq0, hq1, hr4, hg4⟩
        obtain ⟨q, rfl⟩ := Int.eq_ofNat_of_zero_le hq0
        have gg4 := gg3.trans hg4
        have hd := dec_len q
        have c3 : ¬ 9223372036854775807 < (s ++ wd ++ u ++ (⟨#[58]⟩ : ByteArray)).size + (sB (decDigits q)).size := by rw [ByteArray.size_append, ByteArray.size_append, ByteArray.size_append, sB_size]; have : (⟨#[58]⟩ : ByteArray).size = 1 := rfl; omega
        have HZ : Hid ((s ++ wd ++ u ++ (⟨#[58]⟩ : ByteArray) ++ sB (decDigits q)).size ≤ 20 * (5 - m)) := Lib.hid (by rw [ByteArray.size_append, ByteArray.size_append, ByteArray.size_append, ByteArray.size_append, sB_size]; have : (⟨#[58]⟩ : ByteArray).size = 1 := rfl; omega)
        have HQN := Lib.hid (fun w => Snumber_any 1 q (by omega) (by omega) w)
        clear gg3 hg4 hr3 hq0 hq1 hd HOF
        go_wp2_with fail
        refine (HQN.out _).mono ?_
        rintro e w5 ⟨rfl, j, rfl⟩
        go_wp2
        go_roundw
        case rel => exact ⟨_, m, rfl, by go_num, by omega, HZ.out, (hr4.drewN j).more (by omega), gb_drewN gg4 j⟩
        case measure => simp only [intOf]; omega
      · go_wp2_with fail
        refine (HOF.out wr hr hlt).mono ?_
        rintro e w3 ⟨u, hu, rfl, hr3, hg3⟩
        have gg3 := hg.trans hg3
        have c1 : ¬ 9223372036854775807 < (s).size + u.size := by omega
        have c2 : ¬ 9223372036854775807 < (s ++ u).size + (⟨#[58]⟩ : ByteArray).size := by rw [ByteArray.size_append]; have : (⟨#[58]⟩ : ByteArray).size = 1 := rfl; omega
        clear hg hg3 hr
        go_wp2_with fail
        refine (pick_any rb _ 10 w3 hr3 (by omega) (by decide) (by decide)).mono ?_
        rintro e w4 ⟨q, rfl, hq0, hq1, hr4, hg4⟩
        obtain ⟨q, rfl⟩ := Int.eq_ofNat_of_zero_le hq0
        have gg4 := gg3.trans hg4
        have hd := dec_len q
        have c3 : ¬ 9223372036854775807 < (s ++ u ++ (⟨#[58]⟩ : ByteArray)).size + (sB (decDigits q)).size := by rw [ByteArray.size_append, ByteArray.size_append, sB_size]; have : (⟨#[58]⟩ : ByteArray).size = 1 := rfl; omega
        have HZ : Hid ((s ++ u ++ (⟨#[58]⟩ : ByteArray) ++ sB (decDigits q)).size ≤ 20 * (5 - m)) := Lib.hid (by rw [ByteArray.size_append, ByteArray.size_append, ByteArray.size_append, sB_size]; have : (⟨#[58]⟩ : ByteArray).size = 1 := rfl; omega)
        have HQN := Lib.hid (fun w => Snumber_any 1 q (by omega) (by omega) w)
        clear gg3 hg4 hr3 hq0 hq1 hd HOF
        go_wp2_with fail
        refine (HQN.out _).mono ?_
        rintro e w5 ⟨rfl, j, rfl⟩
        go_wp2
        go_roundw
        case rel => exact ⟨_, m, rfl, by go_num, by omega, HZ.out, (hr4.drewN j).more (by omega), gb_drewN gg4 j⟩
        case measure => simp only [intOf]; omega

end Go.Proofs.Ytpildecpabeanaa

/-
  The generators of the laws of chapter 4: a table.
-/
namespace Go.Proofs.Ytpildecpabeanaa
open Go.RowKit Go.Lib

/-- The sum of what the first j things alone are worth, of those in the set. -/
def sumV (xs : List Int) (s : Nat) : Nat → Int
  | 0 => 0
  | j + 1 => sumV xs s j + ((s / 2 ^ j % 2 : Nat) : Int) * xs.getD j 0
def sumT (x y z : Int) : List Int := (List.range 8).map (fun s => sumV [x, y, z] s 3)
theorem sumT_len (x y z : Int) : (sumT x y z).length = 8 := by simp [sumT]
theorem sumT_at (x y z : Int) {s : Nat} (hs : s < 8) : (sumT x y z)[s]? = some (sumV [x, y, z] s 3) := by simp [sumT, hs]
theorem sumV_bd {x y z : Int} (hx : 0 ≤ x ∧ x ≤ 9) (hy : 0 ≤ y ∧ y ≤ 9) (hz : 0 ≤ z ∧ z ≤ 9) (s : Nat) : ∀ j, j ≤ 3 → 0 ≤ sumV [x, y, z] s j ∧ sumV [x, y, z] s j ≤ 9 * j := by
  intro j
  induction j with
  | zero => intro _; simp [sumV]
  | succ j ih =>
    intro hj
    have := ih (by omega)
    have hv : [x, y, z].getD j 0 = x ∨ [x, y, z].getD j 0 = y ∨ [x, y, z].getD j 0 = z := by
      rcases nat3 (show j < 3 by omega) with rfl | rfl | rfl <;> simp
    have hb : s / 2 ^ j % 2 = 0 ∨ s / 2 ^ j % 2 = 1 := by omega
    simp only [sumV]
    generalize [x, y, z].getD j 0 = v at hv ⊢
    rcases hb with h | h <;> rw [h]
    · simp only [Int.natCast_zero, Int.zero_mul]; omega
    · simp only [Int.natCast_one, Int.one_mul]; omega

/-- A region that draws its order, all ways of which end in the same. -/
theorem wp_once {P : Program} {c : Code} {K : Act → World → Prop} {Q : Exit → Act → World → Prop} {a : Act} {w : World} {a0 : Act} {w0 : World} (h : ∀ K1 : Act → World → Prop, K1 a0 w0 → c.wp P (Exit.then K1 Q) a w) (hk : K a0 w0) : c.wp P (Exit.then K Q) a w := h K hk

theorem wp_onceB {P : Program} {c : Code} {K : Act → World → Prop} {n : Nat} {Q : Exit → Act → World → Prop} {a : Act} {w : World} {a0 : Act} {w0 : World} (h : ∀ K1 : Act → World → Prop, K1 a0 w0 → c.wp P (Exit.inBlock n (Exit.then K1 Q)) a w) (hk : K a0 w0) : c.wp P (Exit.inBlock n (Exit.then K Q)) a w := h K hk

theorem OneAt.drew {w : World} {rb k gS : Nat} {xs zs : List Int} {wr : World} (h : OneAt w rb k gS xs zs wr) : OneAt w rb k gS xs zs wr.drew := ⟨h.out, h.single, h.rdr, h.grown.trans ⟨rfl, rfl, rfl, Nat.le_refl _, fun _ _ _ => rfl⟩⟩

theorem TblIs.base {w w0 : World} {rb k k' : Nat} {P : List Int → Prop} {e : Ending} {w' : World} (h : TblIs w0 rb k P e w') (hg : w.grownBy w0 (some rb)) (hk : k ≤ k') : TblIs w rb k' (fun _ => True) e w' := by
  obtain ⟨g, c, ys, he, hl, _, ho, hr, hg2⟩ := h
  exact ⟨g, c, ys, he, hl, trivial, ho.base hg.size, hr.more hk, hg.trans hg2⟩

set_option maxHeartbeats 4000000 in
set_option maxRecDepth 100000 in
theorem goodTable_any (rb k : Nat) (w : World) (h : Rdr w rb k) (hk : k + 50 ≤ 1000000) :
    Calls Try.prog 120 #[.pointer (some ⟨rb, 0, none⟩)] w (TblIs w rb (k + 30) fun _ => True) := by
  have hl := h.lt
  go_enter Try.func120, Try.ntmps120
  go_wp2_with fail
  refine (pick_any rb k 6 w h (by omega) (by decide) (by decide)).mono ?_
  rintro e w1 ⟨m, rfl, hm0, hm1, hr1, hg1⟩
  have hl1 := hr1.lt
  by_cases ha : m = 0 ∨ m = 1
  · as_aux_lemma =>
    have hs : (m == 0) = true ∨ (m == 1) = true := by simpa using ha
    rcases ha with rfl | rfl <;> (
      go_wp2_with fail
      refine (offerText_any rb (k + 1) w1 hr1 (by omega)).mono ?_
      rintro e w2 ⟨s, rfl, hsz, hr2, hg2⟩
      have gg2 := hg1.trans hg2
      go_wp2_with fail
      refine (SreadOffer_any s w2 (by omega)).mono ?_
      rintro e w3 ⟨hb3, ⟨t, g, c, htt, rfl, ho3⟩ | ⟨_, rfl⟩⟩
      · have hr3 := hr2.below hb3
        have gg3 := gg2.trans (gb_of_below hb3 (some rb))
        have HLE := Lib.hid (rdF_len htt)
        rcases hvt : vt t with _ | _
        · clear hvt
          go_wp2_with fail
          refine (oneTable_any rb (k + 1 + 12) w3 hr3 (by omega)).mono ?_
          rintro e w4 ⟨g4, c4, ys, rfl, hl4, _, o4, hr4, hg4⟩
          go_wp2
          go_ret
          exact ⟨g4, c4, ys, rfl, hl4, trivial, o4.base gg3.size, hr4.more (by omega), gg3.trans hg4⟩
        · clear hvt
          go_wp2
          go_ret
          exact ⟨g, c, t, rfl, HLE.out, trivial, ho3.base gg2.size, hr3.more (by omega), gg3⟩
      · have hr3 := hr2.below hb3
        have gg3 := gg2.trans (gb_of_below hb3 (some rb))
        go_wp2_with fail
        refine (oneTable_any rb (k + 1 + 12) w3 hr3 (by omega)).mono ?_
        rintro e w4 ⟨g4, c4, ys, rfl, hl4, _, o4, hr4, hg4⟩
        go_wp2
        go_ret
        exact ⟨g4, c4, ys, rfl, hl4, trivial, o4.base gg3.size, hr4.more (by omega), gg3.trans hg4⟩)
  by_cases hb : m = 2
  · subst hb
    go_wp2_with (at_make; refine wpList_make_ints rfl _ _ rfl w1.heap.size 8 rfl rfl (by omega) (by simp) ?_; intro w2 ho2 hb2)
    have hr2 := hr1.below hb2
    have hg2 := gb_of_below hb2 (some rb)
    have hs2 := ho2.lt
    refine (pick_any rb (k + 1) 8 w2 hr2 (by omega) (by decide) (by decide)).mono ?_
    rintro e w3 ⟨x, rfl, hx0, hx1, hr3, hg3⟩
    have ho3 : Own w3 w1.heap.size (some ⟨w1.heap.size, 0, none⟩) 8 (List.replicate 8 0) := ho2.kept_ (A2 := some ⟨rb, 0, none⟩) hg3 (.inr (fun e => by have h3 : w1.heap.size = rb := Option.some.inj e; omega))
    have gg3 := hg2.trans hg3
    have hs3 := hg3.size
    clear ho2 hb2 hg3 hr2 hg2
    go_wp2_with fail
    refine (pick_any rb (k + 1 + 1) 8 w3 hr3 (by omega) (by decide) (by decide)).mono ?_
    rintro e w4 ⟨y, rfl, hy0, hy1, hr4, hg4⟩
    have ho4 : Own w4 w1.heap.size (some ⟨w1.heap.size, 0, none⟩) 8 (List.replicate 8 0) := ho3.kept_ (A2 := some ⟨rb, 0, none⟩) hg4 (.inr (fun e => by have h3 : w1.heap.size = rb := Option.some.inj e; omega))
    have gg4 := gg3.trans hg4
    have hs4 := hg4.size
    clear ho3 hg4 hr3 gg3
    go_wp2_with fail
    refine (pick_any rb (k + 1 + 1 + 1) 8 w4 hr4 (by omega) (by decide) (by decide)).mono ?_
    rintro e w5 ⟨z, rfl, hz0, hz1, hr5, hg5⟩
    have ho5 : Own w5 w1.heap.size (some ⟨w1.heap.size, 0, none⟩) 8 (List.replicate 8 0) := ho4.kept_ (A2 := some ⟨rb, 0, none⟩) hg5 (.inr (fun e => by have h3 : w1.heap.size = rb := Option.some.inj e; omega))
    have gg5 := gg4.trans hg5
    have hs5 := hg5.size
    have HX : Hid (0 ≤ x ∧ x ≤ 9) := Lib.hid (by have := pick_lt hx0 hx1 (by decide); omega)
    have HY : Hid (0 ≤ y ∧ y ≤ 9) := Lib.hid (by have := pick_lt hy0 hy1 (by decide); omega)
    have HZ : Hid (0 ≤ z ∧ z ≤ 9) := Lib.hid (by have := pick_lt hz0 hz1 (by decide); omega)
    clear ho4 hg5 hr4 gg4 hx0 hx1 hy0 hy1 hz0 hz1
    go_wp2_with fail
    have HI0 : Hid (OneAt w1 rb (k + 4) w5.heap.size [x, y, z] (filled (sumT x y z) 0) (w5.alloc (.cells #[.int .i64 x, .int .i64 y, .int .i64 z] 3))) := Lib.hid
      ⟨by rw [filled_zero, sumT_len]; exact World.ownsRow.alloc ho5 _, own_base (own_lit w5 [x, y, z] (by simp)) (by omega), hr5.alloc _, gb_alloc gg5 _⟩
    have HT8 := Lib.hid (fun s (hs : s < 8) => sumT_at x y z hs)
    have HTL : Hid ((sumT x y z).length = 8) := Lib.hid (sumT_len x y z)
    have HBD := Lib.hid (fun s j (hj : j ≤ 3) => sumV_bd HX.out HY.out HZ.out s j hj)
    have HVB : Hid (∀ j, j < 3 → 0 ≤ [x, y, z].getD j 0 ∧ [x, y, z].getD j 0 ≤ 9) := Lib.hid (fun j hj => by rcases nat3 hj with rfl | rfl | rfl <;> first | exact HX.out | exact HY.out | exact HZ.out)
    have HBIT := Lib.hid (fun (s j : Nat) (hs : s < 8) (hj : j < 3) w => Sbit_any s j hs hj w)
    have HSG : Hid (∀ j, j < 3 → [x, y, z][j]? = some ([x, y, z].getD j 0)) := Lib.hid (fun j hj => by rcases nat3 hj with rfl | rfl | rfl <;> rfl)
    obtain ⟨xs, hxs⟩ : ∃ xs, xs = [x, y, z] := ⟨_, rfl⟩
    obtain ⟨tab, htab⟩ : ∃ tab, tab = sumT x y z := ⟨_, rfl⟩
    rw [← hxs] at HT8 HSG HVB HBD
    rw [← htab, ← hxs] at HI0
    rw [← htab] at HT8 HTL
    clear hxs htab HX HY HZ ho5 hr5 gg5
    go_loopw [7] (fun sv wr => ∃ s, sv = .int .i64 (s : Nat) ∧ s ≤ 8 ∧ Hid (OneAt w1 rb (k + 4) w5.heap.size xs (filled tab s) wr)) (fun i _ => 8 - (intOf i).toNat)
    case atStart => exact ⟨0, rfl, by omega, HI0⟩
    case round =>
      obtain ⟨s, rfl, hs, HI⟩ := hrel
      by_cases hlt : s < 8
      · have HIN : Hid (OneAt w1 rb (k + 4) w5.heap.size xs ((filled tab s).set s (sumV xs s 0)) wr) := Lib.hid (by
          rw [show sumV xs s 0 = 0 from rfl, filled_same1 (by rw [HTL.out]; exact hlt)]; exact HI.out)
        have HSET : Hid ((filled tab s).set s (sumV xs s 3) = filled tab (s + 1)) := Lib.hid (filled_set tab s _ (HT8.out s hlt))
        have HFL : Hid (s < (filled tab s).length) := Lib.hid (by rw [filled_len _ _ (by rw [HTL.out]; omega), HTL.out]; exact hlt)
        have hs0 : (0 : Int) ≤ (s : Int) := by omega
        have hs8 : (s : Int) < 8 := by omega
        have hss : s < 8 := hlt
        clear hlt HI
        go_wp2_with fail
        go_loopw [8] (fun jv wr' => ∃ j, jv = .int .i64 (j : Nat) ∧ j ≤ 3 ∧ Hid (OneAt w1 rb (k + 4) w5.heap.size xs ((filled tab s).set s (sumV xs s j)) wr')) (fun i _ => 3 - (intOf i).toNat)
        case atStart => exact ⟨0, rfl, by omega, HIN⟩
        case round =>
          obtain ⟨j, rfl, hj, HI⟩ := hrel
          by_cases hlt : j < 3
          · have HB := Lib.hid (HBIT.out s j hss hlt)
            have hj0 : (0 : Int) ≤ (j : Int) := by omega
            have hj3 : (j : Int) < 3 := by omega
            obtain ⟨V, hV⟩ : ∃ V, V = sumV xs s j := ⟨_, rfl⟩
            obtain ⟨b, hbb⟩ : ∃ b, b = s / 2 ^ j % 2 := ⟨_, rfl⟩
            have hcell := HI.out.out.cell (i := s) (x := V) (by rw [List.getElem?_set_self HFL.out, hV])
            have hfree := HI.out.out.free s
            obtain ⟨u, hu⟩ : ∃ u, u = xs.getD j 0 := ⟨_, rfl⟩
            have hc2 := HI.out.single.cell (i := j) (x := u) (by rw [HSG.out j hlt, hu])
            have hub := HVB.out j hlt
            have hvb := HBD.out s j (by omega)
            rw [← hu] at hub
            rw [← hV] at hvb
            have hb2 : b ≤ 1 := by omega
            have hmul : 0 ≤ (b : Int) * u ∧ (b : Int) * u ≤ 9 := by
              rcases (show b = 0 ∨ b = 1 by omega) with rfl | rfl <;> simp <;> omega
            have e1 : IntKind.i64.wrap ((b : Int) * u) = (b : Int) * u := IntWalk.i64_in _ (by omega)
            have e2 : IntKind.i64.wrap (V + (b : Int) * u) = V + (b : Int) * u := IntWalk.i64_in _ (by omega)
            have HSD : Hid (OneAt w1 rb (k + 4) w5.heap.size xs ((filled tab s).set s (sumV xs s (j + 1))) (wr.setCell ⟨w1.heap.size, s, none⟩ (.int .i64 (V + (b : Int) * u))).drew) := Lib.hid (by
              have h9 := HI.out.set_ hl1 s (V + (b : Int) * u)
              rw [List.set_set] at h9
              rw [show sumV xs s (j + 1) = V + (b : Int) * u by simp only [sumV]; rw [← hV, ← hbb, ← hu]]
              exact h9.drew)
            rw [← hbb] at HB
            have hj1 : j + 1 ≤ 3 := hlt
            clear hV hu hbb hlt HI hub hvb hmul
            go_wp2_with fail
            refine wp_onceB (a0 := ?a0) (w0 := ?w0) (fun K1 h1 => ?first) ?rest
            case first =>
              go_region_with (go_at_call 139; refine (HB.out _).mono ?_; rintro e w6 ⟨rfl, rfl⟩)
              all_goals exact h1
            case rest =>
              go_wp2
              exact ⟨⟨j + 1, by go_num, hj1, HSD⟩, by simp only [intOf]; omega⟩
          · obtain rfl : j = 3 := by omega
            have HTE : Hid (OneAt w1 rb (k + 4) w5.heap.size xs (filled tab (s + 1)) wr) := Lib.hid (by rw [← HSET.out]; exact HI.out)
            clear hlt HI
            go_wp2
            go_roundw
            case rel => exact ⟨s + 1, by go_num, by omega, HTE⟩
            case measure => simp only [intOf]; omega
      · obtain rfl : s = 8 := by omega
        have HTE : Hid (OneAt w1 rb (k + 4) w5.heap.size xs tab wr) := Lib.hid (by have := HI.out; rw [← HTL.out, filled_all] at this; exact this)
        clear hlt HI
        go_wp2
        go_ret
        exact ⟨w1.heap.size, 8, tab, rfl, HTL.out, trivial, HTE.out.out.base hg1.size, HTE.out.rdr.more (by omega), hg1.trans HTE.out.grown⟩
  by_cases hc : m = 3
  · subst hc
    as_aux_lemma =>
    go_wp2_with fail
    refine (oneTable_any rb (k + 1) w1 hr1 (by omega)).mono ?_
    rintro e w2 ⟨g2, c2, ys2, rfl, hl2, hp2, o2, hr2, hg2⟩
    have hlt2 := hr2.lt
    go_wp2_with fail
    refine (oneTable_any rb (k + 1 + 3) w2 hr2 (by omega)).mono ?_
    rintro e w3 ⟨g3, c3, ys3, rfl, hl3, hp3, o3, hr3, hg3⟩
    have gg3 := hg1.trans (hg2.trans hg3)
    have o23 : Own w3 w1.heap.size (some ⟨g2, 0, none⟩) c2 ys2 := o2.kept_ (A2 := some ⟨rb, 0, none⟩) hg3 (.inr (fun e => by have := Option.some.inj e; have h3 := o2.ge; have : g2 = rb := this; omega))
    have HJ := Lib.hid (SJoinTables_any (some ⟨g2, 0, none⟩) (some ⟨g3, 0, none⟩) c2 c3 ys2 ys3 w3 o23.rd o3.rd o23.cap.1 o3.cap.1 (by omega) (by omega))
    have HON := Lib.hid (ones_join hp2 hp3)
    have HP2 := Lib.hid hp2.1
    have HP3 := Lib.hid hp3.1
    rw [hl2, hl3] at HJ
    clear hp2 hp3
    go_wp2_with fail
    refine HJ.out.mono ?_
    rintro e w4 ⟨hb4, ⟨_, _, _, g4, c4, rfl, o4⟩ | ⟨hno, _⟩⟩
    · have gg4 := gg3.trans (gb_of_below hb4 (some rb))
      go_wp2
      go_ret
      exact ⟨g4, c4, jnT ys2 ys3, rfl, jnT_len _ _, trivial, o4.base gg3.size, (hr3.below hb4).more (by omega), gg4⟩
    · exact absurd ⟨HP2.out, HP3.out, HON.out⟩ hno
  · as_aux_lemma =>
    have h0 : ¬ m = 0 := fun e => ha (.inl e)
    have h1 : ¬ m = 1 := fun e => ha (.inr e)
    have q0 : (m == 0) = false := by simpa using h0
    have q1 : (m == 1) = false := by simpa using h1
    have q2 : (m == 2) = false := by simpa using hb
    have q3 : (m == 3) = false := by simpa using hc
    clear h0 h1 ha hb hc
    go_wp2_with fail
    refine (oneTable_any rb (k + 1) w1 hr1 (by omega)).mono ?_
    rintro e w4 ⟨g4, c4, ys, rfl, hl4, _, o4, hr4, hg4⟩
    go_wp2
    go_ret
    exact ⟨g4, c4, ys, rfl, hl4, trivial, o4.base hg1.size, hr4.more (by omega), hg1.trans hg4⟩

end Go.Proofs.Ytpildecpabeanaa

/-
  The generators of the laws of chapter 4: a table, most often.
-/
namespace Go.Proofs.Ytpildecpabeanaa
open Go.RowKit Go.Lib

theorem own_take {w : World} {B g c : Nat} {ys : List Int} (h : Own w B (some ⟨g, 0, none⟩) c ys) (n : Nat) (hn : n ≤ ys.length) : Own w B (some ⟨g, 0, none⟩) c (ys.take n) := by
  have hl : (ys.take n).length = n := by rw [List.length_take]; omega
  rcases h.2 with ⟨hv, _⟩ | ⟨g', cap, cur, hv, hB, hh, h1, h2, h3, h4⟩
  · cases hv
  · injection hv with hA hn' hc
    injection hA with hA
    injection hA with hA
    subst hA hc
    unfold Own
    rw [hl]
    refine ⟨by simp; omega, .inr ⟨g, c, cur, rfl, hB, hh, by omega, h2, h3, ?_⟩⟩
    have : (cur.toList.take (ys.length * 1)).take (n * 1) = (ys.map (Value.int .i64)).take (n * 1) := by rw [h4]
    rw [List.take_take, Nat.min_eq_left (by omega)] at this
    rw [this, List.map_take]
    simp

/-- What is drawn: a list of at most eight numbers in a block of its own. -/
def TbsIs (w : World) (rb k : Nat) (e : Ending) (w' : World) : Prop :=
  ∃ g c ys, e = .returned (.slice (some ⟨g, 0, none⟩) ys.length c) ∧ ys.length ≤ 8 ∧ Own w' w.heap.size (some ⟨g, 0, none⟩) c ys ∧ Rdr w' rb k ∧ w.grownBy w' (some rb)

set_option maxHeartbeats 4000000 in
set_option maxRecDepth 100000 in
theorem someTable_any (rb k : Nat) (w : World) (h : Rdr w rb k) (hk : k + 80 ≤ 1000000) :
    Calls Try.prog 121 #[.pointer (some ⟨rb, 0, none⟩)] w (TbsIs w rb (k + 40)) := by
  have hl := h.lt
  go_enter Try.func121, Try.ntmps121
  go_wp2_with fail
  refine (goodTable_any rb k w h (by omega)).mono ?_
  rintro e w1 ⟨g, c, ys, rfl, hy, _, o1, hr1, hg1⟩
  have hl1 := hr1.lt
  have hgr := o1.ge
  go_wp2_with fail
  refine (pick_any rb (k + 30) 40 w1 hr1 (by omega) (by decide) (by decide)).mono ?_
  rintro e w2 ⟨m, rfl, hm0, hm1, hr2, hg2⟩
  have gg2 := hg1.trans hg2
  have o2 : Own w2 w.heap.size (some ⟨g, 0, none⟩) c ys := o1.kept_ (A2 := some ⟨rb, 0, none⟩) hg2 (.inr (fun e => by have h3 : g = rb := Option.some.inj e; omega))
  have hcap := o2.cap
  by_cases h0 : m = 0
  · subst h0
    go_wp2_with fail
    refine (pick_any rb (k + 30 + 1) 8 w2 hr2 (by omega) (by decide) (by decide)).mono ?_
    rintro e w3 ⟨i, rfl, hi0, hi1, hr3, hg3⟩
    obtain ⟨i, rfl⟩ := Int.eq_ofNat_of_zero_le hi0
    have hi8 : i < 8 := by omega
    have o3 : Own w3 w.heap.size (some ⟨g, 0, none⟩) c ys := o2.kept_ (A2 := some ⟨rb, 0, none⟩) hg3 (.inr (fun e => by have h3 : g = rb := Option.some.inj e; omega))
    have gg3 := gg2.trans hg3
    clear hg2 hg3 hg1 o1 o2 hi0 hi1
    go_wp2_with fail
    refine (one_new rb (k + 30 + 1 + 1) 4 [31, -1, 0, 30] _ w3 rfl rfl hr3 (by decide) (by decide) (by omega)).mono ?_
    rintro e w4 ⟨v, _, rfl, hr4, hg4⟩
    have o4 : Own w4 w.heap.size (some ⟨g, 0, none⟩) c ys := o3.kept_ (A2 := some ⟨rb, 0, none⟩) hg4 (.inr (fun e => by have h3 : g = rb := Option.some.inj e; omega))
    have gg4 := gg3.trans hg4
    obtain ⟨y, hyi⟩ := at_some (xs := ys) (k := i) (by omega)
    have hcell := o4.cell hyi
    have hfree := o4.free i
    have o5 := o4.set_ i v
    have hi0' : (0 : Int) ≤ (i : Int) := by omega
    have hi8' : (i : Int) < 8 := by omega
    have HL : Hid ((ys.set i v).length = 8) := Lib.hid (by rw [List.length_set]; exact hy)
    have HR5 := Lib.hid (hr4.set_ (g := g) (i := i) (v := .int .i64 v) (by omega))
    have HG5 := Lib.hid (gb_set (g := g) (i := i) (v := .int .i64 v) gg4 hgr)
    clear hyi hg4 o3
    go_wp2
    go_ret
    exact ⟨g, c, ys.set i v, by rw [HL.out]; rfl, by rw [HL.out]; omega, o5, HR5.out.more (by omega), HG5.out⟩
  by_cases h1 : m = 1
  · subst h1
    have h7 := own_take o2 7 (by omega)
    have hl7 : (ys.take 7).length = 7 := by rw [List.length_take]; omega
    go_wp2
    go_ret
    exact ⟨g, c, ys.take 7, by rw [hl7]; rfl, by omega, h7, hr2.more (by omega), gg2⟩
  · have q0 : (m == 0) = false := by simpa using h0
    have q1 : (m == 1) = false := by simpa using h1
    clear h0 h1
    go_wp2
    go_ret
    exact ⟨g, c, ys, by rw [hy]; rfl, by omega, o2, hr2.more (by omega), gg2⟩

end Go.Proofs.Ytpildecpabeanaa

/-
  Rows that came in as an argument; what the exact laws' walks of chapter 3 have in common.
-/
namespace Go.Proofs.Ytpildecpabeanaa
open Go.RowKit

/-- The slice (A, as long as rows) came in with capacity c and reads as rows of ints. -/
def CameR (w : World) (A : Option Addr) (c : Nat) (rows : List (List Int)) : Prop := RdR w A c rows ∧ rows.length ≤ maxLen ∧ ∀ r ∈ rows, r.length ≤ maxLen

theorem CameR.nil (w : World) : CameR w none 0 [] := ⟨RdR.nil w, by simp, fun _ h => absurd h (by simp)⟩
theorem addr_addR (b off j : Nat) : (⟨b, off, none⟩ : Addr).add j = ⟨b, off + j, none⟩ := by unfold Addr.add; split <;> simp_all
theorem CameR.of {w : World} {x : Addr} {len cap base : Nat} {Af : Nat → Option Addr} {L C : Nat → Nat} {Z : Nat → List Int} (hl : len ≤ cap) (hm : cap ≤ maxLen)
    (h : ∀ r, r < cap → w.cell? (x.add r) = some (.slice (Af r) (L r) (C r)) ∧ L r ≤ C r ∧ C r ≤ maxLen ∧ (Z r).length = C r ∧ (∀ n ∈ Z r, (Lit.int .i64 n).wf = true) ∧ (Af r = none → C r = 0) ∧
      ∀ a', Af r = some a' → base ≤ a'.block ∧ ∀ c, c < C r → w.cell? (a'.add c) = some (.int .i64 ((Z r).getD c 0))) :
    ∃ rows, len = rows.length ∧ CameR w (some x) cap rows := by
  refine ⟨(List.range len).map (fun r => (Z r).take (L r)), by simp, ⟨by simpa using hl, ?_⟩, by simp; omega, ?_⟩
  · rcases Nat.eq_zero_or_pos len with h0 | h0
    · subst h0
      exact .inl ⟨by simp, fun h => by cases h⟩
    · obtain ⟨b, off, spot⟩ := x
      have hs : spot = none := by have := (h 0 (by omega)).1; simpa [Addr.add] using World.cell?_spot this
      subst hs
      refine .inr ⟨b, off, rfl, fun k r hk => ?_⟩
      have hkl : k < len := by have := (List.getElem?_eq_some_iff.1 hk).1; simpa using this
      have hr : r = (Z k).take (L k) := by simp [hkl] at hk; exact hk.symm
      obtain ⟨h1, h2, h3, h4, _, h6, h7⟩ := h k (by omega)
      rw [addr_addR] at h1
      have hrl : r.length = L k := by rw [hr, List.length_take]; omega
      refine ⟨_, h1, Af k, C k, by rw [hrl], by omega, ?_⟩
      cases hA : Af k with
      | none =>
        have := h6 hA
        exact .inl ⟨List.eq_nil_of_length_eq_zero (by omega), fun _ => this⟩
      | some a' =>
        obtain ⟨_, h8⟩ := h7 a' hA
        rcases Nat.eq_zero_or_pos (L k) with hz | hz
        · exact .inl ⟨List.eq_nil_of_length_eq_zero (by omega), fun h => by cases h⟩
        · obtain ⟨b', off', spot'⟩ := a'
          have hs' : spot' = none := by simpa [Addr.add] using World.cell?_spot (h8 0 (by omega))
          subst hs'
          refine .inr ⟨b', off', rfl, fun j hj => ?_⟩
          have := h8 j (by omega)
          rw [addr_addR] at this
          rw [this, hr]
          simp [show j < L k by omega]
  · intro r hr
    obtain ⟨k, hk, rfl⟩ := List.mem_map.1 hr
    have hk := List.mem_range.1 hk
    have := h k (by omega)
    rw [List.length_take]
    omega

theorem szR_len {rows : List (List Int)} (h : szR rows ≤ 1048576) : rows.length ≤ 1048576 := by unfold szR at h; omega
theorem szR_each {rows : List (List Int)} (h : szR rows ≤ 1048576) : ∀ r ∈ rows, r.length ≤ 1099511627776 := by
  intro r hr
  obtain ⟨k, hk, rfl⟩ := List.getElem_of_mem hr
  have h1 := flat_take (List.getElem?_eq_getElem hk)
  have h2 := flat_le (rows := rows) (k + 1)
  unfold szR at h
  omega
theorem nums_sz {ps : List (Nat × Nat × List Int)} {rows : List (List Int)} (hm : ps.map (·.2.2) = rows) (h : szR rows ≤ 1048576) : ps.length ≤ 1048576 ∧ numsU ps ≤ 1048576 ∧ ∀ p ∈ ps, p.2.2.length ≤ 1099511627776 := by
  have h1 := numsU_flat ps
  have h2 := congrArg List.length hm
  rw [List.length_map] at h2
  unfold szR at h
  rw [hm] at h1
  refine ⟨by omega, by omega, fun p hp => ?_⟩
  have := numsU_mem hp
  omega
theorem own_bk {w : World} {B k : Nat} {A : Option Addr} {c : Nat} {xs : List Int} (h : Own w B A c xs) (hk : ofA A = some k) : B ≤ k ∧ k < w.heap.size :=
  World.ownsRow.lt h k (by rw [own_block]; exact hk)

end Go.Proofs.Ytpildecpabeanaa
