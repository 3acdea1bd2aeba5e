/-
  The generators of the laws of chapters 4 and 5: tables of bidders whose things may be moved.
-/
import Derived.Test.YtfjncipekjnbjaaGQ
import Derived.Test.YtfjncipekjnbjaaWh
import Derived.Test.YtfjncipekjnbjaaVu
import Derived.Test.YtfjncipekjnbjaaWl
import Derived.Test.YtfjncipekjnbjaaGN
import Derived.Test.YtfjncipekjnbjaaJr
import Derived.Test.YtfjncipekjnbjaaJm
import Derived.Deep.RegionLaw
namespace Go.Proofs.Ytfjncipekjnbjaa
open Go.RowKit Go.Lib

set_option maxHeartbeats 4000000 in
set_option maxRecDepth 100000 in
theorem easyTables_any (rb k : Nat) (w : World) (h : Rdr w rb k) (hk : k + 250 ≤ 1000000) :
    Calls Try.prog 63 #[.pointer (some ⟨rb, 0, none⟩)] w (TablesIs w rb (k + 170)) := by
  obtain ⟨i0, hi, hz0, hz1, hz2⟩ := info_parts intsU_info
  have hl := h.lt
  have HE := Lib.hid (rowsU_empty w)
  have HL : Hid (Own ((w.alloc (.cells #[] 24)).alloc (.cells #[.int .i64 2, .int .i64 3, .int .i64 1, .int .i64 2] 3)) (w.heap.size + 1) (some ⟨w.heap.size + 1, 0, none⟩) 4 [2, 3, 1, 2]) := Lib.hid (by
    have := own_lit (w.alloc (.cells #[] 24)) [2, 3, 1, 2] (by decide)
    rw [World.size_alloc] at this
    exact this)
  have HR := Lib.hid ((h.alloc (.cells #[] 24)).alloc (.cells #[.int .i64 2, .int .i64 3, .int .i64 1, .int .i64 2] 3))
  have HG : Hid (w.grownBy ((w.alloc (.cells #[] 24)).alloc (.cells #[.int .i64 2, .int .i64 3, .int .i64 1, .int .i64 2] 3)) (some rb)) := Lib.hid (gb_alloc (World.grownBy_alloc w _ (some rb)) _)
  have HO : Hid (RowsU ((w.alloc (.cells #[] 24)).alloc (.cells #[.int .i64 2, .int .i64 3, .int .i64 1, .int .i64 2] 3)) w.heap.size (.slice (some ⟨w.heap.size, 0, none⟩) 0 0) []) := Lib.hid (HE.out.below ((Below.refl _ _).alloc (Nat.le_refl _) _))
  have hl2 : w.heap.size + 1 ≠ rb := by omega
  clear HE
  go_enter Try.func63, Try.ntmps63
  go_wp2_with fail
  refine (one_any rb k (w.heap.size + 1) 4 4 (w.heap.size + 1) [2, 3, 1, 2] _ rfl HR.out HL.out hl2 (by decide) (by decide) (by omega)).mono ?_
  rintro e w1 ⟨most, hmo, rfl, hr1, hg1⟩
  have hm0 : 0 ≤ most := by simp only [List.mem_cons, List.not_mem_nil, or_false] at hmo; omega
  have hm1 : most ≤ 4 := by simp only [List.mem_cons, List.not_mem_nil, or_false] at hmo; omega
  have ho1 := HO.out.ask hg1 hl
  have gg1 := HG.out.trans hg1
  obtain ⟨S, hS⟩ : ∃ S, S = w.heap.size := ⟨_, rfl⟩
  have HSS := Lib.hid hS
  rw [← hS] at ho1 hl
  clear hmo HR HG HO HL hg1 hl2
  go_wp2_with fail
  rw [← hS]
  clear hS
  go_loopw [3] (fun v wr => ∃ (ps : List (Nat × Nat × List Int)), ps.length ≤ 4 ∧ (∃ g c, v = .slice (some ⟨g, 0, none⟩) ps.length c) ∧ Hid (∀ p ∈ ps, p.2.2.length ≤ 8) ∧ RowsU wr S v ps ∧ Rdr wr rb (k + 1 + 30 * ps.length) ∧ w.grownBy wr (some rb))
    (fun v _ => 4 - lenW v)
  case atStart => exact ⟨[], Nat.zero_le _, ⟨S, 0, rfl⟩, Lib.hid (fun _ h => absurd h (by simp)), ho1, hr1, gg1⟩
  case round =>
    obtain ⟨ps, hps, ⟨g, c, rfl⟩, HP, hR, hr, hg⟩ := hrel
    by_cases hlt : (ps.length : Int) < most
    · have hp4 : ps.length < 4 := by omega
      have HRW := Lib.hid hR
      clear hR
      go_wp2_with fail
      refine (pick_any rb (k + 1 + 30 * ps.length) 2 wr hr (by omega) (by decide) (by decide)).mono ?_
      rintro e w0 ⟨m, rfl, hm2, _, hr0, hg0⟩
      have hSw : S ≤ wr.heap.size := by rw [HSS.out]; exact hg.size
      have hR0 := HRW.out.ask hg0 hl
      have gg0 := hg.trans hg0
      have hs0 := hg0.size
      by_cases hm : m = 0
      · have hmb : (m == 0) = true := by simpa using hm
        clear hm
        go_wp2_with fail
        refine (oneTable_any rb (k + 1 + 30 * ps.length + 1) w0 hr0 (by omega)).mono ?_
        rintro e w2 ⟨g2, c2, ys, rfl, hy8, _, o2', hr2, hg2⟩
        have hR2 := hR0.ask hg2 hl
        have gg2 := gg0.trans hg2
        have HN := Lib.hid (hR0.notIn (Nat.le_refl _) o2')
        have o2 := o2'.base (show S ≤ w0.heap.size by omega)
        have hs2 := hg2.size
        clear o2' hg2 hR0 hmb
        have hy : ys.length ≤ 8 := by omega
        have e8 : slU (g2, c2, ys) = .slice (some ⟨g2, 0, none⟩) 8 c2 := by show Value.slice _ ys.length _ = _; rw [hy8]
        have E8 := Lib.hid e8
        clear hy8
        have HT := Lib.hid (own_len hR2.row ((Below.refl _ w2).alloc (Nat.le_refl _) (.cells #[.slice (some ⟨g2, 0, none⟩) 8 c2] 24)))
        have hb63 : ps.length + 1 ≤ maxLen := by unfold maxLen; omega
        have hSz : S ≤ w2.heap.size + 1 := by omega
        clear e8
        go_wp2_with (at_builtin; (refine wpList_append_own _ rfl _ _ 23 rfl S 24 i0 (.slice none 0 0) 1 24 Try.underlying23 hi hz0 hz1 hz2 rfl (by decide) (.slice (some ⟨g, 0, none⟩) ps.length c) ps.length (ps.map slU) rfl HT.out ⟨w2.heap.size, 0, none⟩ 1 1 [.slice (some ⟨g2, 0, none⟩) 8 c2] rfl rfl (cell_one_new _ _ _) (by simp [Value.oneCell']) hb63 (by omega) (by simpa using hSz) ?_; intro v5 w5 hown5 hg5 _))
        rw [← E8.out] at hown5
        have R5 : RowsU w5 S v5 (ps ++ [(g2, c2, ys)]) := hR2.more (p := (g2, c2, ys)) o2 HN.out hown5 hg5
        have hgeg : S ≤ g := (World.ownsRow.lt hR2.row g rfl).1
        have hr5 := (hr2.alloc (.cells #[.slice (some ⟨g2, 0, none⟩) 8 c2] 24)).grown (g := g) hg5 (by omega)
        have gg5 := gb_new (g := g) (gb_alloc gg2 (.cells #[.slice (some ⟨g2, 0, none⟩) 8 c2] 24)) hg5 (by rw [← HSS.out]; exact hgeg)
        obtain ⟨g5, c5, rfl⟩ := R5.one (by simp)
        have HP5 : Hid (∀ p ∈ ps ++ [(g2, c2, ys)], p.2.2.length ≤ 8) := Lib.hid (by
          intro p hp
          rcases List.mem_append.1 hp with hp | hp
          · exact HP.out p hp
          · obtain rfl : p = (g2, c2, ys) := by simpa using hp
            exact hy)
        have hlp : (ps ++ [(g2, c2, ys)]).length = ps.length + 1 := by simp
        have HLP := Lib.hid hlp
        clear hown5 hg5 hR2 HT o2 hlp
        go_roundw
        case rel => exact ⟨ps ++ [(g2, c2, ys)], by rw [HLP.out]; omega, ⟨g5, c5, rfl⟩, HP5, R5, hr5.more (by rw [HLP.out]; omega), gg5⟩
        case measure => simp [lenW]; omega
      · have hmb : (m == 0) = false := by simpa using hm
        clear hm
        go_wp2_with fail
        refine (oneTable_any rb (k + 1 + 30 * ps.length + 1) w0 hr0 (by omega)).mono ?_
        rintro e wa ⟨ga, ca, ysa, rfl, hla, hpa, oa, hra, hga⟩
        have hlta := hra.lt
        have hRa := hR0.ask hga hl
        have gga := gg0.trans hga
        have hsa := hga.size
        go_wp2_with fail
        refine (oneTable_any rb (k + 1 + 30 * ps.length + 1 + 3) wa hra (by omega)).mono ?_
        rintro e wb ⟨gb, cb, ysb, rfl, hlb, hpb, ob, hrb, hgb⟩
        have hRb := hRa.ask hgb hl
        have ggb := gga.trans hgb
        have hsb := hgb.size
        have oab : Own wb w0.heap.size (some ⟨ga, 0, none⟩) ca ysa := oa.kept_ (A2 := some ⟨rb, 0, none⟩) hgb (.inr (fun e => by have := Option.some.inj e; have h3 := oa.ge; have h4 : ga = rb := this; have h5 := hg.size; rw [HSS.out] at hl; omega))
        have HJ := Lib.hid (SJoinTables_any (some ⟨ga, 0, none⟩) (some ⟨gb, 0, none⟩) ca cb ysa ysb wb oab.rd ob.rd oab.cap.1 ob.cap.1 (by omega) (by omega))
        have HON := Lib.hid (ones_join hpa hpb)
        have HP2 := Lib.hid hpa.1
        have HP3 := Lib.hid hpb.1
        rw [hla, hlb] at HJ
        clear hpa hpb oa ob oab hga hgb hla hlb hmb hR0 hRa
        go_wp2_with fail
        refine HJ.out.mono ?_
        rintro e w2 ⟨hb4, ⟨_, _, _, g2, c2, rfl, o4⟩ | ⟨hno, _⟩⟩
        · obtain ⟨ys, hys⟩ : ∃ ys, ys = jnT ysa ysb := ⟨_, rfl⟩
          have hy8 : ys.length = 8 := by rw [hys]; exact jnT_len _ _
          rw [← hys] at o4
          have gg2 := ggb.trans (gb_of_below hb4 (some rb))
          have hR2 := hRb.below hb4
          have hr2 := hrb.below hb4
          have HN := Lib.hid (hRb.notIn (Nat.le_refl _) o4)
          have o2 := o4.base (show S ≤ wb.heap.size by omega)
          have hs2 := hb4.size
          clear o4 hys HON HP2 HP3 HJ hRb hb4
          have hy : ys.length ≤ 8 := by omega
          have e8 : slU (g2, c2, ys) = .slice (some ⟨g2, 0, none⟩) 8 c2 := by show Value.slice _ ys.length _ = _; rw [hy8]
          have E8 := Lib.hid e8
          clear hy8
          have HT := Lib.hid (own_len hR2.row ((Below.refl _ w2).alloc (Nat.le_refl _) (.cells #[.slice (some ⟨g2, 0, none⟩) 8 c2] 24)))
          have hb63 : ps.length + 1 ≤ maxLen := by unfold maxLen; omega
          have hSz : S ≤ w2.heap.size + 1 := by omega
          clear e8
          go_wp2_with (at_builtin; (refine wpList_append_own _ rfl _ _ 23 rfl S 24 i0 (.slice none 0 0) 1 24 Try.underlying23 hi hz0 hz1 hz2 rfl (by decide) (.slice (some ⟨g, 0, none⟩) ps.length c) ps.length (ps.map slU) rfl HT.out ⟨w2.heap.size, 0, none⟩ 1 1 [.slice (some ⟨g2, 0, none⟩) 8 c2] rfl rfl (cell_one_new _ _ _) (by simp [Value.oneCell']) hb63 (by omega) (by simpa using hSz) ?_; intro v5 w5 hown5 hg5 _))
          rw [← E8.out] at hown5
          have R5 : RowsU w5 S v5 (ps ++ [(g2, c2, ys)]) := hR2.more (p := (g2, c2, ys)) o2 HN.out hown5 hg5
          have hgeg : S ≤ g := (World.ownsRow.lt hR2.row g rfl).1
          have hr5 := (hr2.alloc (.cells #[.slice (some ⟨g2, 0, none⟩) 8 c2] 24)).grown (g := g) hg5 (by omega)
          have gg5 := gb_new (g := g) (gb_alloc gg2 (.cells #[.slice (some ⟨g2, 0, none⟩) 8 c2] 24)) hg5 (by rw [← HSS.out]; exact hgeg)
          obtain ⟨g5, c5, rfl⟩ := R5.one (by simp)
          have HP5 : Hid (∀ p ∈ ps ++ [(g2, c2, ys)], p.2.2.length ≤ 8) := Lib.hid (by
            intro p hp
            rcases List.mem_append.1 hp with hp | hp
            · exact HP.out p hp
            · obtain rfl : p = (g2, c2, ys) := by simpa using hp
              exact hy)
          have hlp : (ps ++ [(g2, c2, ys)]).length = ps.length + 1 := by simp
          have HLP := Lib.hid hlp
          clear hown5 hg5 hR2 HT o2 hlp
          go_roundw
          case rel => exact ⟨ps ++ [(g2, c2, ys)], by rw [HLP.out]; omega, ⟨g5, c5, rfl⟩, HP5, R5, hr5.more (by rw [HLP.out]; omega), gg5⟩
          case measure => simp [lenW]; omega
        · exact absurd ⟨HP2.out, HP3.out, HON.out⟩ hno
    · go_wp2
      go_ret
      exact ⟨_, ps, rfl, hR.base (by rw [HSS.out]; exact Nat.le_refl _), hps, HP.out, hr.more (by omega), hg⟩

end Go.Proofs.Ytfjncipekjnbjaa

/-
  The laws of chapter 4: what they reckon with, and the law of IsModest.
-/
namespace Go.Proofs.Ytfjncipekjnbjaa
open Go.RowKit Go.Lib

theorem Lpower_any (j : Nat) (hj : j ≤ 3) (w : World) :
    Calls Try.prog 59 #[.int .i64 (j : Int)] w fun e w' => e = .returned (.int .i64 ((2 ^ j : Nat) : Int)) ∧ w = w' := by
  go_enter Try.func59, Try.ntmps59
  go_wp2
  go_loop [0, 3] (fun n o => ∃ m : Nat, m ≤ j ∧ n = .int .i64 (m : Int) ∧ o = .int .i64 ((2 ^ (j - m) : Nat) : Int)) (fun n _ => (intOf n).toNat)
  case atStart => exact ⟨j, Nat.le_refl _, rfl, by simp⟩
  case round =>
    obtain ⟨m, hm, rfl, rfl⟩ := hrel
    cases m with
    | zero =>
      go_wp2
      go_ret
      exact ⟨rfl, rfl⟩
    | succ m =>
      have hp : 2 ^ (j - (m + 1)) ≤ 4 := by
        have : j - (m + 1) ≤ 2 := by omega
        calc 2 ^ (j - (m + 1)) ≤ 2 ^ 2 := Nat.pow_le_pow_right (by decide) this
          _ = 4 := rfl
      have he : 2 ^ (j - m) = 2 * 2 ^ (j - (m + 1)) := by rw [show j - m = (j - (m + 1)) + 1 by omega, Nat.pow_succ]; omega
      obtain ⟨q, hq⟩ : ∃ q, q = 2 ^ (j - (m + 1)) := ⟨_, rfl⟩
      rw [← hq] at hp he ⊢
      have HE := Lib.hid he
      have hm' : (0 : Int) < ((m + 1 : Nat) : Int) := by omega
      clear hq he
      go_wp2
      go_round
      case rel => exact ⟨m, by omega, by go_num, by rw [HE.out]; go_num⟩
      case measure => simp [intOf]

theorem Lbit_any (x j : Nat) (hx : x < 8) (hj : j < 3) (w : World) :
    Calls Try.prog 27 #[.int .i64 (x : Int), .int .i64 (j : Int)] w fun e w' => e = .returned (.int .i64 ((x / 2 ^ j % 2 : Nat) : Int)) ∧ w = w' := by
  have HP := Lib.hid (fun w => Lpower_any j (by omega) w)
  have hv : (wrap64 ((x : Int) / ((2 ^ j : Nat) : Int))).tmod 2 = ((x / 2 ^ j % 2 : Nat) : Int) := by
    have : ∀ x, x < 8 → ∀ j, j < 3 → (wrap64 (((x : Nat) : Int) / ((2 ^ j : Nat) : Int))).tmod 2 = ((x / 2 ^ j % 2 : Nat) : Int) := by decide +kernel
    exact this x hx j hj
  obtain ⟨p, hp⟩ : ∃ p, p = 2 ^ j := ⟨_, rfl⟩
  have hp0 : (p : Int) ≠ 0 := by
    have : 0 < 2 ^ j := Nat.pow_pos (by decide)
    omega
  rw [← hp] at HP hv ⊢
  have HV := Lib.hid hv
  clear hv hp
  go_enter Try.func27, Try.ntmps27
  go_wp2_with (go_at_call 59; refine (HP.out _).mono ?_; rintro e w1 ⟨rfl, rfl⟩)
  go_ret
  exact ⟨by rw [← HV.out]; rfl, rfl⟩

/-- What is drawn: a list of numbers. -/
def DrawnT (w : World) (e : Ending) (w' : World) : Prop :=
  ∃ (g c : Nat) (t : List Int), e = .returned (.slice (some ⟨g, 0, none⟩) t.length c) ∧ Rd w' (some ⟨g, 0, none⟩) c t ∧ t.length ≤ 8 ∧ t.length ≤ c ∧ Below w.heap.size w w'
/-- Modest tables are no more than their parts. -/
theorem mod_parts {t : List Int} (h : VT t) (hm : Mod t) {s : Nat} (hs : s < 8) : T t s ≤ ((s / 2 ^ 0 % 2 : Nat) : Int) * T t 1 + ((s / 2 ^ 1 % 2 : Nat) : Int) * T t 2 + ((s / 2 ^ 2 % 2 : Nat) : Int) * T t 4 := by
  have h0 := h.2.1
  have m12 := hm 1 (by omega) 2 (by omega)
  have m14 := hm 1 (by omega) 4 (by omega)
  have m24 := hm 2 (by omega) 4 (by omega)
  have m34 := hm 3 (by omega) 4 (by omega)
  simp only [show (1 ||| 2 : Nat) = 3 by decide, show (1 &&& 2 : Nat) = 0 by decide, show (1 ||| 4 : Nat) = 5 by decide, show (1 &&& 4 : Nat) = 0 by decide, show (2 ||| 4 : Nat) = 6 by decide, show (2 &&& 4 : Nat) = 0 by decide, show (3 ||| 4 : Nat) = 7 by decide, show (3 &&& 4 : Nat) = 0 by decide] at m12 m14 m24 m34
  rcases nat8 hs with rfl | rfl | rfl | rfl | rfl | rfl | rfl | rfl <;> simp <;> omega

/-- What the first j things alone are worth together, of those in the set. -/
def prt (t : List Int) (s : Nat) : Nat → Int
  | 0 => 0
  | j + 1 => prt t s j + ((s / 2 ^ j % 2 : Nat) : Int) * T t (2 ^ j)

theorem prt_bd {t : List Int} (h : ∀ s, s < 8 → 0 ≤ T t s ∧ T t s ≤ 30) {s : Nat} (_hs : s < 8) : ∀ j, j ≤ 3 → 0 ≤ prt t s j ∧ prt t s j ≤ 30 * j := by
  intro j
  induction j with
  | zero => intro _; simp [prt]
  | succ j ih =>
    intro hj
    have h1 := ih (by omega)
    have h2 := h (2 ^ j) (by rcases nat3 (show j < 3 by omega) with rfl | rfl | rfl <;> decide)
    simp only [prt]
    generalize T t (2 ^ j) = v at h2 ⊢
    rcases (show s / 2 ^ j % 2 = 0 ∨ s / 2 ^ j % 2 = 1 by omega) with e | e <;> rw [e]
    · simp only [Int.natCast_zero, Int.zero_mul]; omega
    · simp only [Int.natCast_one, Int.one_mul]; omega

end Go.Proofs.Ytfjncipekjnbjaa

/-
  The laws of chapters 4 and 5: what they draw.
-/
namespace Go.Proofs.Ytfjncipekjnbjaa
open Go.RowKit Go.Lib

theorem eight_map {ps : List (Nat × Nat × List Int)} (hl : ps.length ≤ 4) (h : ∀ p ∈ ps, p.2.2.length ≤ 8) : (ps.map (·.2.2)).length ≤ 4 ∧ ∀ r ∈ ps.map (·.2.2), r.length ≤ 8 :=
  ⟨by simpa using hl, fun r hr => by obtain ⟨p, hp, rfl⟩ := List.mem_map.1 hr; exact h p hp⟩
/-- What is drawn: tables. -/
def DrawnTs (w : World) (e : Ending) (w' : World) : Prop :=
  ∃ (A : Option Addr) (c : Nat) (rows : List (List Int)), e = .returned (.slice A rows.length c) ∧ RdR w' A c rows ∧ rows.length ≤ 4 ∧ (∀ r ∈ rows, r.length ≤ 8) ∧ Below w.heap.size w w'

end Go.Proofs.Ytfjncipekjnbjaa

/-
  The laws of chapter 6: the draws of one table; the walks of FnIsSum, FnIsOne, FnSwapsByMoves.
-/
namespace Go.Proofs.Ytfjncipekjnbjaa
open Go.RowKit Go.Lib

theorem DrawSwapsByThrees_any (A : Option Addr) (c : Nat) (xs : List Int) (w : World) (h : Came .u8 w A c xs) :
    Calls Try.prog 30 #[.slice A xs.length c] w (DrawnT w) := by
  go_enter Try.func30, Try.ntmps30
  go_wp2_with fail
  refine (newReader_any A c xs w h).mono ?_
  rintro e w1 ⟨rb, rfl, hrb, hr1, hb1⟩
  go_wp2_with fail
  refine (someTable_any rb 0 w1 hr1 (by decide)).mono ?_
  rintro e w2 ⟨g, c2, t, rfl, ht, o2, _, hg2⟩
  have HB := Lib.hid (hb1.trans (gb_below hg2 hb1.size hrb))
  clear hg2
  go_wp2
  go_ret
  exact ⟨g, c2, t, rfl, o2.rd, ht, o2.cap.1, HB.out⟩

theorem byB_iff {t : List Int} {V : Nat → Int} : byB t V = true ↔ VT t ∧ ∀ s, s < 8 → T t s = V s := by unfold byB; simp only [decide_eq_true_eq]
theorem sum_goods {t : List Int} (h : byB t (fun s => sumAl t s 3) = true) : mdB t = true ∧ mvB t = true := by
  obtain ⟨hv, h1⟩ := byB_iff.1 h
  have m := sum_mv hv h1
  exact ⟨mdB_true hv m.modTri.1, mvB_true hv (m.mv hv)⟩
theorem one_goods {t : List Int} (h : byB t (fun s => mostAl t s 3) = true) : mdB t = true ∧ mvB t = true := by
  obtain ⟨hv, h1⟩ := byB_iff.1 h
  have m := one_mv hv h1
  exact ⟨mdB_true hv m.modTri.1, mvB_true hv (m.mv hv)⟩

end Go.Proofs.Ytfjncipekjnbjaa

/-
  The laws of chapter 6: lists that are at most others; the draw and the walk of FnJoinTables.
-/
namespace Go.Proofs.Ytfjncipekjnbjaa
open Go.RowKit Go.Lib

/-- Each of the one list is at most that of the other. -/
def amB (xs ys : List Int) : Bool := decide (∀ k, k < xs.length → T xs k ≤ T ys k)
theorem amB_iff {xs ys : List Int} : amB xs ys = true ↔ ∀ k, k < xs.length → T xs k ≤ T ys k := by unfold amB; simp
theorem amB_bad {xs ys : List Int} {k : Nat} {x y : Int} (hx : xs[k]? = some x) (hy : ys[k]? = some y) (h : y < x) : amB xs ys = false := by
  rcases hb : amB xs ys with _ | _
  · rfl
  · have hk : k < xs.length := by rcases Nat.lt_or_ge k xs.length with h1 | h1; exact h1; rw [List.getElem?_eq_none h1] at hx; cases hx
    have := amB_iff.1 hb k hk
    rw [T_of hx, T_of hy] at this
    omega
def AmTo (xs ys : List Int) (k : Nat) : Prop := ∀ j, j < k → T xs j ≤ T ys j
theorem AmTo.step {xs ys : List Int} {k : Nat} {x y : Int} (h : AmTo xs ys k) (hx : xs[k]? = some x) (hy : ys[k]? = some y) (hxy : ¬ y < x) : AmTo xs ys (k + 1) := fun j hj => by
  rcases Nat.lt_or_ge j k with h1 | h1
  · exact h j h1
  · obtain rfl : j = k := by omega
    rw [T_of hx, T_of hy]
    omega
theorem AmTo.all {xs ys : List Int} (h : AmTo xs ys xs.length) : amB xs ys = true := amB_iff.2 h

set_option maxHeartbeats 400000 in
theorem atMost_any (A B : Option Addr) (c d n : Nat) (xs ys : List Int) (w : World) (hx : xs.length = n) (hy : ys.length = n) (h1 : Rd w A c xs) (h2 : Rd w B d ys) (hl : n ≤ 1099511627776) :
    Calls Try.prog 36 #[.slice A n c, .slice B n d] w (BoolIs w (amB xs ys)) := by
  subst hx
  have he : ((xs.length : Int) == (xs.length : Int)) = true := by simp
  have HY := Lib.hid hy
  clear hy
  go_enter Try.func36, Try.ntmps36
  go_wp2
  go_loopw [5] (fun i wr => ∃ k n : Nat, k ≤ xs.length ∧ i = .int .i64 k ∧ wr = w.drewN n ∧ Hid (AmTo xs ys k))
    (fun i _ => xs.length - (intOf i).toNat)
  case atStart => exact ⟨0, 0, Nat.zero_le _, rfl, rfl, Lib.hid (fun j hj => absurd hj (by omega))⟩
  case round =>
    obtain ⟨k, n, hk, rfl, rfl, HT⟩ := hrel
    by_cases hlt : k < xs.length
    · obtain ⟨b1, o1, x, rfl, _, hx, hc1⟩ := h1.at_ hlt
      have hlt2 : k < ys.length := by rw [HY.out]; exact hlt
      obtain ⟨b2, o2, y, rfl, _, hy, hc2⟩ := h2.at_ hlt2
      clear hlt2
      by_cases hxy : y < x
      · have hne : decide (y < x) = true := by simpa using hxy
        have HE := Lib.hid (amB_bad hx.out hy.out hxy)
        go_wp2
        go_quiet (fail)
        go_wp2
        go_ret
        exact ⟨by rw [HE.out]; rfl, n + nq, World.drewN_drewN _ _ _⟩
      · have hne : decide (y < x) = false := by simpa using hxy
        have HT' := Lib.hid (HT.out.step hx.out hy.out hxy)
        go_wp2
        go_quiet (fail)
        go_wp2
        go_roundw
        case rel => exact ⟨k + 1, _, by omega, by go_num, rfl, HT'⟩
        case measure => simp [intOf]; omega
    · obtain rfl : k = xs.length := by omega
      have HE := Lib.hid HT.out.all
      go_wp2
      go_ret
      exact ⟨by rw [HE.out]; rfl, _, rfl⟩

/-- What is drawn: two lists of at most eight numbers. -/
def DrawnT2 (w : World) (e : Ending) (w' : World) : Prop :=
  ∃ (g c : Nat) (t : List Int) (g2 c2 : Nat) (u : List Int), e = .returned (.tuple #[.slice (some ⟨g, 0, none⟩) t.length c, .slice (some ⟨g2, 0, none⟩) u.length c2]) ∧ Rd w' (some ⟨g, 0, none⟩) c t ∧ Rd w' (some ⟨g2, 0, none⟩) c2 u ∧ t.length ≤ 8 ∧ t.length ≤ c ∧ u.length ≤ 8 ∧ u.length ≤ c2 ∧ Below w.heap.size w w'

set_option maxHeartbeats 1000000 in
set_option maxRecDepth 100000 in
theorem DrawJoinTables_any (A : Option Addr) (c : Nat) (xs : List Int) (w : World) (h : Came .u8 w A c xs) :
    Calls Try.prog 37 #[.slice A xs.length c] w (DrawnT2 w) := by
  go_enter Try.func37, Try.ntmps37
  go_wp2_with fail
  refine (newReader_any A c xs w h).mono ?_
  rintro e w1 ⟨rb, rfl, hrb, hr1, hb1⟩
  go_wp2_with fail
  refine (pick_any rb 0 2 w1 hr1 (by decide) (by decide) (by decide)).mono ?_
  rintro e w2 ⟨m, rfl, hm0, hm1, hr2, hg2⟩
  have hl2 := hr2.lt
  by_cases hm : m = 0
  · subst hm
    go_wp2_with fail
    refine (oneTable_any rb (0 + 1) w2 hr2 (by decide)).mono ?_
    rintro e w3 ⟨g, c3, t, rfl, ht8, _, o3, hr3, hg3⟩
    have hge := o3.ge
    go_wp2_with fail
    refine (oneTable_any rb (0 + 1 + 3) w3 hr3 (by decide)).mono ?_
    rintro e w4 ⟨g4, c4, u, rfl, hu8, _, o4, hr4, hg4⟩
    have o34 : Own w4 w2.heap.size (some ⟨g, 0, none⟩) c3 t := o3.kept_ (A2 := some ⟨rb, 0, none⟩) hg4 (.inr (fun e => by have h3 : g = rb := Option.some.inj e; omega))
    have HB := Lib.hid (hb1.trans (gb_below ((hg2.trans hg3).trans hg4) hb1.size hrb))
    have HT8 := Lib.hid ht8
    have HU8 := Lib.hid hu8
    clear hg2 hg3 hg4 o3 ht8 hu8
    go_wp2
    go_ret2
    exact ⟨g, c3, t, g4, c4, u, by rw [HT8.out, HU8.out]; rfl, o34.rd, o4.rd, by rw [HT8.out]; omega, o34.cap.1, by rw [HU8.out]; omega, o4.cap.1, HB.out⟩
  · have hmb : (m == 0) = false := by simpa using hm
    clear hm
    go_wp2_with fail
    refine (someTable_any rb (0 + 1) w2 hr2 (by decide)).mono ?_
    rintro e w3 ⟨g, c3, t, rfl, ht8, o3, hr3, hg3⟩
    have hge := o3.ge
    go_wp2_with fail
    refine (someTable_any rb (0 + 1 + 40) w3 hr3 (by decide)).mono ?_
    rintro e w4 ⟨g4, c4, u, rfl, hu8, o4, hr4, hg4⟩
    have o34 : Own w4 w2.heap.size (some ⟨g, 0, none⟩) c3 t := o3.kept_ (A2 := some ⟨rb, 0, none⟩) hg4 (.inr (fun e => by have h3 : g = rb := Option.some.inj e; omega))
    have HB := Lib.hid (hb1.trans (gb_below ((hg2.trans hg3).trans hg4) hb1.size hrb))
    clear hg2 hg3 hg4 o3
    go_wp2
    go_ret2
    exact ⟨g, c3, t, g4, c4, u, rfl, o34.rd, o4.rd, ht8, o34.cap.1, hu8, o4.cap.1, HB.out⟩

theorem joF_some {a b : List Int} (h : (joF a b).length ≠ 0) : VT a ∧ VT b ∧ VT (joF a b) ∧ joF a b = jnT a b := by
  by_cases hh : VT a ∧ VT b ∧ VT (jnT a b)
  · have e := joF_yes hh
    exact ⟨hh.1, hh.2.1, by rw [e]; exact hh.2.2, e⟩
  · rw [joF_no hh] at h; exact absurd rfl h
theorem jnT_comm {a b : List Int} (ha : VT a) (hb : VT b) : jnT b a = jnT a b := by
  rw [jnT_tg ha hb, jnT_tg hb ha]
  exact ext8 (tg_len _ _) (tg_len _ _) (fun x hx => by rw [tg_at _ _ hx, tg_at _ _ hx]; exact jn_comm hx)
theorem joF_comm {a b : List Int} (h : (joF a b).length ≠ 0) : joF b a = joF a b := by
  obtain ⟨ha, hb, hv, e⟩ := joF_some h
  rw [e, ← jnT_comm ha hb]
  refine joF_yes ⟨hb, ha, ?_⟩
  rw [jnT_comm ha hb, ← e]
  exact hv
theorem jnT_val {a b : List Int} (ha : VT a) (hb : VT b) {x : Nat} (hx : x < 8) : T (jnT a b) x = jn (T a) (T b) x := by rw [jnT_tg ha hb, tg_at _ _ hx]
/-- What the law says of a joined table. -/
theorem joF_says {a b : List Int} (h : (joF a b).length ≠ 0) : a.length = 8 ∧ b.length = 8 ∧ (joF a b).length = 8 ∧ vt (joF a b) = true ∧ joF b a = joF a b ∧ amB a (joF a b) = true ∧ amB b (joF a b) = true ∧ (mvB a = true → mvB b = true → mvB (joF a b) = true) := by
  obtain ⟨ha, hb, hv, e⟩ := joF_some h
  have hw : ∀ {x : Nat}, x < 8 → T (joF a b) x = jn (T a) (T b) x := fun hx => by rw [e]; exact jnT_val ha hb hx
  refine ⟨ha.1, hb.1, hv.1, vt_true hv, joF_comm h, amB_iff.2 (fun k hk => ?_), amB_iff.2 (fun k hk => ?_), fun m1 m2 => ?_⟩
  · have hk8 : k < 8 := by rw [ha.1] at hk; exact hk
    rw [hw hk8]
    have := jn_ge (a := T a) (b := T b) (sub_self hk8)
    rw [Nat.sub_self, hb.2.1] at this
    omega
  · have hk8 : k < 8 := by rw [hb.1] at hk; exact hk
    rw [hw hk8]
    have := jn_ge (a := T a) (b := T b) (sub_zero k)
    rw [ha.2.1, Nat.sub_zero] at this
    omega
  · have o1 := (mvB_iff.1 m1).2.mo ha
    have o2 := (mvB_iff.1 m2).2.mo hb
    have := mo_congr (b := T (joF a b)) (fun s hs => (hw hs).symm) (jn_mo o1 o2 (fun s hs => (hb.bd hs).1))
    exact mvB_true hv (this.mv hv)

set_option maxHeartbeats 4000000 in
set_option maxRecDepth 100000 in
theorem fnJoinTables_walk {A : Option Addr} {c : Nat} {xs : List Int} {w : World} (h : Came .u8 w A c xs) :
    Calls Try.prog 8 #[.slice A xs.length c] w fun e w' => e = .returned (.bool true) ∧ Below w.heap.size w w' := by
  by_cases hlen : 1048576 < xs.length
  · go_enter Try.func8, Try.ntmps8
    go_wp2
    go_ret
    exact ⟨rfl, Below.refl _ _⟩
  have hl1 : xs.length ≤ 1048576 := by omega
  have HD := Lib.hid (DrawJoinTables_any A c xs w h)
  clear hlen h
  go_enter Try.func8, Try.ntmps8
  go_wp2_with fail
  refine HD.out.mono ?_
  rintro e w1 ⟨g, c1, a, g2, c2, b, rfl, hA, hB, ha8, hac, hb8, hbc, b1⟩
  have HI := Lib.hid (fun w' (h : Rd w' (some ⟨g, 0, none⟩) c1 a) (h2 : Rd w' (some ⟨g2, 0, none⟩) c2 b) => JoinTables_any (some ⟨g, 0, none⟩) (some ⟨g2, 0, none⟩) c1 c2 a b w' h h2 (by omega) (by omega))
  have HS := Lib.hid (fun w' (h : Rd w' (some ⟨g, 0, none⟩) c1 a) (h2 : Rd w' (some ⟨g2, 0, none⟩) c2 b) => SJoinTables_own (some ⟨g, 0, none⟩) (some ⟨g2, 0, none⟩) c1 c2 a b w' h h2 hac hbc (by omega) (by omega))
  have HR := Lib.hid (fun w' (h : Rd w' (some ⟨g, 0, none⟩) c1 a) (h2 : Rd w' (some ⟨g2, 0, none⟩) c2 b) => JoinTables_any (some ⟨g2, 0, none⟩) (some ⟨g, 0, none⟩) c2 c1 b a w' h2 h (by omega) (by omega))
  have hA1 := Lib.hid (fun w' (h : Rd w' (some ⟨g, 0, none⟩) c1 a) => SwapsByMoves_any (some ⟨g, 0, none⟩) c1 a w' h (by omega))
  have hB1 := Lib.hid (fun w' (h : Rd w' (some ⟨g2, 0, none⟩) c2 b) => SwapsByMoves_any (some ⟨g2, 0, none⟩) c2 b w' h (by omega))
  have hsay := joF_says (a := a) (b := b)
  have hzl := joF_len a b
  obtain ⟨zs, hzs⟩ : ∃ zs, zs = joF a b := ⟨_, rfl⟩
  rw [← hzs] at HI HS hsay hzl
  have HSAY := Lib.hid hsay
  have hzl2 : zs.length ≤ 1099511627776 := by omega
  clear hsay hzs HD hl1
  go_wp2_with fail
  refine (HI.out w1 hA hB).mono ?_
  rintro e w2 ⟨A2, c3, rfl, o2, b2⟩
  have B2 := below_then b1 b2
  have hA2 := hA.below b2
  have hB2 := hB.below b2
  go_wp2_with fail
  refine (HS.out w2 hA2 hB2).mono ?_
  rintro e w3 ⟨A3, c4, rfl, o3, b3⟩
  have B3 := below_then B2 b3
  have hA3 := hA2.below b3
  have hB3 := hB2.below b3
  have r23 := (o2.below b3).rd
  clear o2 hA2 hB2 b2 b3 b1 hA hB
  go_wp2_with fail
  refine (equalU_any A2 A3 c3 c4 zs zs w3 r23 o3.rd hzl2).mono ?_
  rw [eqB_self]
  rintro e w4 ⟨rfl, n4, rfl⟩
  by_cases hz : zs.length = 0
  · have hz0 : ((zs.length : Int) == 0) = true := by simp [hz]
    clear hz
    go_wp2_with fail
    refine (HS.out (w3.drewN n4) (hA3.drewN n4) (hB3.drewN n4)).mono ?_
    rintro e w5 ⟨A5, c5, rfl, o5, b5⟩
    have B5 := below_then (below_drewN' B3 n4) b5
    have r25 := (r23.drewN n4).below b5
    clear o3 r23
    go_wp2_with fail
    refine (equalU_any A2 A5 c3 c5 zs zs w5 r25 o5.rd hzl2).mono ?_
    rw [eqB_self]
    rintro e w6 ⟨rfl, n6, rfl⟩
    go_wp2
    go_ret
    exact ⟨rfl, below_drewN' B5 n6⟩
  · have hz0 : ((zs.length : Int) == 0) = false := beq_eq_false_iff_ne.2 (by omega)
    obtain ⟨ea, eb, ez, hv, hcm, am1, am2, hmv⟩ := HSAY.out hz
    rw [hcm] at HR
    have HV := Lib.hid (fun w' (h : Rd w' A2 c3 zs) => ValidTable_any A2 c3 zs w' h hzl2)
    rw [hv] at HV
    have HM1 := Lib.hid (fun w' (h : Rd w' (some ⟨g, 0, none⟩) c1 a) (h2 : Rd w' A2 c3 zs) => atMost_any (some ⟨g, 0, none⟩) A2 c1 c3 8 a zs w' ea ez h h2 (by omega))
    have HM2 := Lib.hid (fun w' (h : Rd w' (some ⟨g2, 0, none⟩) c2 b) (h2 : Rd w' A2 c3 zs) => atMost_any (some ⟨g2, 0, none⟩) A2 c2 c3 8 b zs w' eb ez h h2 (by omega))
    rw [am1] at HM1
    rw [am2] at HM2
    have HZ := Lib.hid (fun w' (h : Rd w' A2 c3 zs) => SwapsByMoves_any A2 c3 zs w' h hzl2)
    have HMV := Lib.hid hmv
    rw [ea, eb] at HR
    rw [ea] at hA1
    rw [eb] at hB1
    rw [ez] at HV HZ hz0 ⊢
    rw [ea, eb]
    have B4 := below_drewN' B3 n4
    have r24 := r23.drewN n4
    have hA4 := hA3.drewN n4
    have hB4 := hB3.drewN n4
    clear hz hv hcm am1 am2 hmv HSAY HI HS o3 r23 hA3 hB3 B3
    go_wp2_with fail
    refine (HV.out _ r24).mono ?_
    rintro e w5 ⟨rfl, b5⟩
    have B5 := below_then B4 b5
    have r25 := r24.below b5
    have hA5 := hA4.below b5
    have hB5 := hB4.below b5
    clear b5 r24 hA4 hB4 B4
    go_wp2_with fail
    refine (HR.out _ hA5 hB5).mono ?_
    rintro e w6 ⟨A6, c6, rfl, o6, b6⟩
    have B6 := below_then B5 b6
    have r26 := r25.below b6
    have hA6 := hA5.below b6
    have hB6 := hB5.below b6
    clear b6 r25 hA5 hB5 B5
    have HEQ := Lib.hid (equalU_any A6 A2 c6 c3 zs zs w6 o6.rd r26 hzl2)
    rw [eqB_self, ez] at HEQ
    rw [ez]
    go_wp2_with fail
    refine HEQ.out.mono ?_
    rintro e w7 ⟨rfl, n7, rfl⟩
    have r27 := r26.drewN n7
    have hA7 := hA6.drewN n7
    have hB7 := hB6.drewN n7
    have B7 := below_drewN' B6 n7
    clear r26 hA6 hB6 HEQ
    go_wp2_with fail
    refine (HM1.out _ hA7 r27).mono ?_
    rintro e w8 ⟨rfl, n8, rfl⟩
    go_wp2_with fail
    refine (HM2.out _ ?_ ?_).mono ?_
    · exact hB7.drewN n8
    · exact r27.drewN n8
    rintro e w9 ⟨rfl, n9, rfl⟩
    have r29 : Rd (w6.drewN (n7 + n8 + n9)) A2 c3 zs := (r27.drewN n8).drewN n9
    have hA9 : Rd (w6.drewN (n7 + n8 + n9)) (some ⟨g, 0, none⟩) c1 a := (hA7.drewN n8).drewN n9
    have hB9 : Rd (w6.drewN (n7 + n8 + n9)) (some ⟨g2, 0, none⟩) c2 b := (hB7.drewN n8).drewN n9
    have B9 : Below w.heap.size w (w6.drewN (n7 + n8 + n9)) := below_drewN' B6 (n7 + n8 + n9)
    clear r27 hA7 hB7 B7
    rcases hma : mvB a with _ | _
    · rw [hma] at hA1
      clear hma
      go_wp2_with fail
      refine (hA1.out _ hA9).mono ?_
      rintro e w10 ⟨rfl, b10⟩
      go_wp2
      go_ret
      exact ⟨rfl, below_then B9 b10⟩
    · rw [hma] at hA1
      go_wp2_with fail
      refine (hA1.out _ hA9).mono ?_
      rintro e w10 ⟨rfl, b10⟩
      have B10 := below_then B9 b10
      have r210 := r29.below b10
      have hB10 := hB9.below b10
      rcases hmb : mvB b with _ | _
      · rw [hmb] at hB1
        clear hma hmb
        go_wp2_with fail
        refine (hB1.out _ hB10).mono ?_
        rintro e w11 ⟨rfl, b11⟩
        go_wp2
        go_ret
        exact ⟨rfl, below_then B10 b11⟩
      · rw [hmb] at hB1
        have hmz := HMV.out hma hmb
        rw [hmz] at HZ
        clear hma hmb hmz
        go_wp2_with fail
        refine (hB1.out _ hB10).mono ?_
        rintro e w11 ⟨rfl, b11⟩
        go_wp2_with fail
        refine (HZ.out _ (r210.below b11)).mono ?_
        rintro e w12 ⟨rfl, b12⟩
        go_wp2
        go_ret
        exact ⟨rfl, below_then (below_then B10 b11) b12⟩

end Go.Proofs.Ytfjncipekjnbjaa

/-
  The laws of chapter 6: prices drawn, the draws of a table and prices, lists in which a number is, and that rise.
-/
namespace Go.Proofs.Ytfjncipekjnbjaa
open Go.RowKit Go.Lib

/-- What is drawn: prices, most often. -/
def PrsIs (w : World) (rb k : Nat) (e : Ending) (w' : World) : Prop :=
  ∃ (g off c : Nat) (p : List Int), e = .returned (.slice (some ⟨g, off, none⟩) p.length c) ∧ (p.length = 3 ∨ p.length = 2) ∧ (∀ x ∈ p, -1 ≤ x ∧ x ≤ 41) ∧ Rd w' (some ⟨g, off, none⟩) c p ∧ p.length ≤ c ∧ w.heap.size ≤ g ∧ g < w'.heap.size ∧ Rdr w' rb k ∧ w.grownBy w' (some rb)

theorem mem3 {x y z : Int} {P : Int → Prop} (hx : P x) (hy : P y) (hz : P z) : ∀ v ∈ [x, y, z], P v := by
  intro v hv
  simp only [List.mem_cons, List.not_mem_nil, or_false] at hv
  rcases hv with rfl | rfl | rfl <;> assumption
theorem mem2 {y z : Int} {P : Int → Prop} (hy : P y) (hz : P z) : ∀ v ∈ [y, z], P v := by
  intro v hv
  simp only [List.mem_cons, List.not_mem_nil, or_false] at hv
  rcases hv with rfl | rfl <;> assumption

set_option maxHeartbeats 1600000 in
set_option maxRecDepth 100000 in
theorem somePrices_any (rb k : Nat) (w : World) (h : Rdr w rb k) (hk : k + 50 ≤ 1000000) :
    Calls Try.prog 76 #[.pointer (some ⟨rb, 0, none⟩)] w (PrsIs w rb (k + 6)) := by
  have hl := h.lt
  go_enter Try.func76, Try.ntmps76
  go_wp2_with fail
  refine (pick_any rb k 8 w h (by omega) (by decide) (by decide)).mono ?_
  rintro e w1 ⟨x, rfl, hx0, hx1, hr1, hg1⟩
  go_wp2_with fail
  refine (pick_any rb (k + 1) 8 w1 hr1 (by omega) (by decide) (by decide)).mono ?_
  rintro e w2 ⟨y, rfl, hy0, hy1, hr2, hg2⟩
  have gg2 := hg1.trans hg2
  clear hg1 hg2
  go_wp2_with fail
  refine (pick_any rb (k + 1 + 1) 8 w2 hr2 (by omega) (by decide) (by decide)).mono ?_
  rintro e w3 ⟨z, rfl, hz0, hz1, hr3, hg3⟩
  have gg3 := gg2.trans hg3
  have hl3 := hr3.lt
  have HX : Hid (-1 ≤ x ∧ x ≤ 41) := Lib.hid (by have := pick_lt hx0 hx1 (by decide); omega)
  have HY : Hid (-1 ≤ y ∧ y ≤ 41) := Lib.hid (by have := pick_lt hy0 hy1 (by decide); omega)
  have HZ : Hid (-1 ≤ z ∧ z ≤ 41) := Lib.hid (by have := pick_lt hz0 hz1 (by decide); omega)
  clear gg2 hg3 hx0 hx1 hy0 hy1 hz0 hz1
  have hr4 := hr3.alloc (.cells #[.int .i64 x, .int .i64 y, .int .i64 z] 3)
  have o4 : Own (w3.alloc (.cells #[.int .i64 x, .int .i64 y, .int .i64 z] 3)) w3.heap.size (some ⟨w3.heap.size, 0, none⟩) 3 [x, y, z] := own_lit w3 [x, y, z] (by simp)
  have gg4 := gb_alloc gg3 (.cells #[.int .i64 x, .int .i64 y, .int .i64 z] 3)
  have hsz := gg3.size
  obtain ⟨w4, hw4⟩ : ∃ w4, w4 = w3.alloc (.cells #[.int .i64 x, .int .i64 y, .int .i64 z] 3) := ⟨_, rfl⟩
  have hs4 : w4.heap.size = w3.heap.size + 1 := by rw [hw4]; simp
  rw [← hw4] at hr4 o4 gg4
  have HW := Lib.hid hw4
  go_wp2_with fail
  rw [← HW.out]
  clear hw4 gg3
  refine (pick_any rb (k + 1 + 1 + 1) 30 w4 hr4 (by omega) (by decide) (by decide)).mono ?_
  rintro e w5 ⟨m, rfl, hm0, hm1, hr5, hg5⟩
  have o5 : Own w5 w3.heap.size (some ⟨w3.heap.size, 0, none⟩) 3 [x, y, z] := o4.kept_ (A2 := some ⟨rb, 0, none⟩) hg5 (.inr (fun e => by have h3 : w3.heap.size = rb := Option.some.inj e; omega))
  have gg5 := gg4.trans hg5
  have hs5 := hg5.size
  have hlt5 : w3.heap.size < w5.heap.size := by omega
  clear hg5 gg4 o4 hr4 HW
  by_cases h0 : m = 0
  · subst h0
    go_wp2_with fail
    refine (one_new rb (k + 1 + 1 + 1 + 1) 3 [-1, 40, 41] _ w5 rfl rfl hr5 (by decide) (by decide) (by omega)).mono ?_
    rintro e w6 ⟨v, hv, rfl, hr6, hg6⟩
    have HV : Hid (-1 ≤ v ∧ v ≤ 41) := Lib.hid (by simp only [List.mem_cons, List.not_mem_nil, or_false] at hv; omega)
    have o6 : Own w6 w3.heap.size (some ⟨w3.heap.size, 0, none⟩) 3 [x, y, z] := o5.kept_ (A2 := some ⟨rb, 0, none⟩) hg6 (.inr (fun e => by have h3 : w3.heap.size = rb := Option.some.inj e; omega))
    have gg6 := gg5.trans hg6
    have hs6 := hg6.size
    have hcell := o6.cell (show [x, y, z][0]? = some x from rfl)
    have hfree := o6.free 0
    have HO := Lib.hid (o6.set_ 0 v)
    have HR := Lib.hid (hr6.set_ (g := w3.heap.size) (i := 0) (v := .int .i64 v) (by omega))
    have HG := Lib.hid (gb_set (g := w3.heap.size) (i := 0) (v := .int .i64 v) gg6 hsz)
    have HLT : Hid (w3.heap.size < (w6.setCell ⟨w3.heap.size, 0, none⟩ (.int .i64 v)).heap.size) := Lib.hid (by simp; omega)
    clear hg6 o5 hv hs5
    go_wp2
    go_ret
    exact ⟨w3.heap.size, 0, 3, [v, y, z], rfl, .inl rfl, mem3 HV.out HY.out HZ.out, HO.out.rd, by simp, hsz, HLT.out, HR.out.more (by omega), HG.out⟩
  by_cases h1 : m = 1
  · subst h1
    have hrd : Rd w5 (some ⟨w3.heap.size, 0 + 1, none⟩) 2 [y, z] := Rd.drop_ o5.rd 1
    go_wp2
    go_ret
    exact ⟨w3.heap.size, 1, 2, [y, z], rfl, .inr rfl, mem2 HY.out HZ.out, hrd, by simp, hsz, hlt5, hr5.more (by omega), gg5⟩
  · have q0 : (m == 0) = false := by simpa using h0
    have q1 : (m == 1) = false := by simpa using h1
    clear h0 h1
    go_wp2
    go_ret
    exact ⟨w3.heap.size, 0, 3, [x, y, z], rfl, .inl rfl, mem3 HX.out HY.out HZ.out, o5.rd, by simp, hsz, hlt5, hr5.more (by omega), gg5⟩

/-- What is drawn: a list of at most eight numbers, and prices. -/
def DrawnTP (w : World) (e : Ending) (w' : World) : Prop :=
  ∃ (g c : Nat) (t : List Int) (g2 off c2 : Nat) (p : List Int), e = .returned (.tuple #[.slice (some ⟨g, 0, none⟩) t.length c, .slice (some ⟨g2, off, none⟩) p.length c2]) ∧ Rd w' (some ⟨g, 0, none⟩) c t ∧ Rd w' (some ⟨g2, off, none⟩) c2 p ∧ t.length ≤ 8 ∧ t.length ≤ c ∧
    (p.length = 3 ∨ p.length = 2) ∧ (∀ x ∈ p, -1 ≤ x ∧ x ≤ 41) ∧ p.length ≤ c2 ∧ Below w.heap.size w w'

set_option maxHeartbeats 1000000 in
set_option maxRecDepth 100000 in
theorem DrawSurplusAt_any (A : Option Addr) (c : Nat) (xs : List Int) (w : World) (h : Came .u8 w A c xs) :
    Calls Try.prog 20 #[.slice A xs.length c] w (DrawnTP w) := by
  go_enter Try.func20, Try.ntmps20
  go_wp2_with fail
  refine (newReader_any A c xs w h).mono ?_
  rintro e w1 ⟨rb, rfl, hrb, hr1, hb1⟩
  go_wp2_with fail
  refine (someTable_any rb 0 w1 hr1 (by decide)).mono ?_
  rintro e w2 ⟨g, c2, t, rfl, ht, o2, hr2, hg2⟩
  have hge := o2.ge
  have hl1 := hr1.lt
  go_wp2_with fail
  refine (somePrices_any rb (0 + 40) w2 hr2 (by decide)).mono ?_
  rintro e w3 ⟨g3, off, c3, p, rfl, hp, hpb, r3, hc3, hg3, _, _, hgg3⟩
  have o23 : Own w3 w1.heap.size (some ⟨g, 0, none⟩) c2 t := o2.kept_ (A2 := some ⟨rb, 0, none⟩) hgg3 (.inr (fun e => by have h3 : g = rb := Option.some.inj e; omega))
  have HB := Lib.hid (hb1.trans (gb_below (hg2.trans hgg3) hb1.size hrb))
  have HP := Lib.hid hpb
  clear hg2 hgg3 o2 hpb
  go_wp2
  go_ret2
  exact ⟨g, c2, t, g3, off, c3, p, rfl, o23.rd, r3, ht, o23.cap.1, hp, HP.out, hc3, HB.out⟩

set_option maxHeartbeats 1000000 in
set_option maxRecDepth 100000 in
theorem DrawDemandAt_any (A : Option Addr) (c : Nat) (xs : List Int) (w : World) (h : Came .u8 w A c xs) :
    Calls Try.prog 23 #[.slice A xs.length c] w (DrawnTP w) := by
  go_enter Try.func23, Try.ntmps23
  go_wp2_with fail
  refine (newReader_any A c xs w h).mono ?_
  rintro e w1 ⟨rb, rfl, hrb, hr1, hb1⟩
  go_wp2_with fail
  refine (someTable_any rb 0 w1 hr1 (by decide)).mono ?_
  rintro e w2 ⟨g, c2, t, rfl, ht, o2, hr2, hg2⟩
  have hge := o2.ge
  have hl1 := hr1.lt
  go_wp2_with fail
  refine (somePrices_any rb (0 + 40) w2 hr2 (by decide)).mono ?_
  rintro e w3 ⟨g3, off, c3, p, rfl, hp, hpb, r3, hc3, hg3, _, _, hgg3⟩
  have o23 : Own w3 w1.heap.size (some ⟨g, 0, none⟩) c2 t := o2.kept_ (A2 := some ⟨rb, 0, none⟩) hgg3 (.inr (fun e => by have h3 : g = rb := Option.some.inj e; omega))
  have HB := Lib.hid (hb1.trans (gb_below (hg2.trans hgg3) hb1.size hrb))
  have HP := Lib.hid hpb
  clear hg2 hgg3 o2 hpb
  go_wp2
  go_ret2
  exact ⟨g, c2, t, g3, off, c3, p, rfl, o23.rd, r3, ht, o23.cap.1, hp, HP.out, hc3, HB.out⟩

end Go.Proofs.Ytfjncipekjnbjaa

/-
  The laws of chapter 6: the walks of FnSurplusAt and FnDemandAt.
-/
namespace Go.Proofs.Ytfjncipekjnbjaa
open Go.RowKit Go.Lib

theorem eight_all {t : List Int} (h : t.length ≤ 8) : t.length ≤ 1099511627776 := by omega

/-- Prices that are 1 more. -/
def upL (p : List Int) : List Int := p.map (fun x => x + 1)
theorem upL_len (p : List Int) : (upL p).length = p.length := by simp [upL]
theorem upL_snoc {p : List Int} {k : Nat} {x : Int} (h : p[k]? = some x) : (upL p).take (k + 1) = (upL p).take k ++ [x + 1] := by
  rw [List.take_add_one, show (upL p)[k]? = some (x + 1) by unfold upL; rw [List.getElem?_map, h]; rfl]
  rfl
theorem upL_T {p : List Int} {k : Nat} (h : k < p.length) : T (upL p) k = T p k + 1 := by
  have hx := T_at h
  exact T_of (by unfold upL; rw [List.getElem?_map, hx]; rfl)
theorem suB_yes {t p : List Int} (h : ¬ suB t p < 0) : VT t ∧ VP p ∧ suB t p = su t p := by
  unfold suB at h ⊢
  rcases hv : vt t && vp p with _ | _
  · rw [hv] at h; simp at h
  · obtain ⟨h1, h2⟩ := Bool.and_eq_true_iff.1 hv
    exact ⟨vt_iff.1 h1, vp_iff.1 h2, rfl⟩
theorem su_top {t p : List Int} (hv : VT t) (hp : VP p) : su t p ≤ T t 7 := by
  obtain ⟨s, hs, h⟩ := su_got (p := p) hv.2.1
  have a := hv.all
  have b := hp.bd hs
  rw [h]
  unfold lf
  rcases nat8 hs with rfl | rfl | rfl | rfl | rfl | rfl | rfl | rfl <;> omega
theorem su_up {t p : List Int} (hv : VT t) (hp : VP p) : su t (upL p) ≤ su t p ∧ su t p - 3 ≤ su t (upL p) := by
  have h3 := hp.1
  have u0 := upL_T (p := p) (k := 0) (by omega)
  have u1 := upL_T (p := p) (k := 1) (by omega)
  have u2 := upL_T (p := p) (k := 2) (by omega)
  have v := pr_vals p
  have v' := pr_vals (upL p)
  have key : ∀ s, s < 8 → lf t (upL p) s ≤ lf t p s ∧ lf t p s - 3 ≤ lf t (upL p) s := fun s hs => by
    unfold lf
    rcases nat8 hs with rfl | rfl | rfl | rfl | rfl | rfl | rfl | rfl <;> omega
  obtain ⟨s, hs, h⟩ := su_got (p := upL p) hv.2.1
  obtain ⟨r, hr, h'⟩ := su_got (p := p) hv.2.1
  have a := su_le (t := t) (p := p) hs
  have b := su_le (t := t) (p := upL p) hr
  have k1 := key s hs
  have k2 := key r hr
  omega
/-- What the law says of the surplus. -/
theorem su_says {t p : List Int} (h : ¬ suB t p < 0) : t.length = 8 ∧ p.length = 3 ∧ suB t p ≤ T t 7 ∧ (suB t (upL p) < 0 ∨ (suB t (upL p) ≤ suB t p ∧ suB t p - 3 ≤ suB t (upL p))) ∧ -1 ≤ suB t (upL p) ∧ suB t p ≤ 30 := by
  obtain ⟨hv, hp, e⟩ := suB_yes h
  have a := hv.bd (show 7 < 8 by omega)
  have b := su_top hv hp
  have ge : -1 ≤ suB t (upL p) := by
    unfold suB
    split
    · have := su_ge t (upL p); omega
    · omega
  refine ⟨hv.1, hp.1, by rw [e]; exact b, ?_, ge, by omega⟩
  by_cases h2 : suB t (upL p) < 0
  · exact .inl h2
  · obtain ⟨_, _, e2⟩ := suB_yes h2
    have := su_up hv hp
    exact .inr (by omega)

set_option maxHeartbeats 4000000 in
set_option maxRecDepth 100000 in
theorem fnSurplusAt_walk {A : Option Addr} {c : Nat} {xs : List Int} {w : World} (h : Came .u8 w A c xs) :
    Calls Try.prog 4 #[.slice A xs.length c] w fun e w' => e = .returned (.bool true) ∧ Below w.heap.size w w' := by
  by_cases hlen : 1048576 < xs.length
  · go_enter Try.func4, Try.ntmps4
    go_wp2
    go_ret
    exact ⟨rfl, Below.refl _ _⟩
  have hl1 : xs.length ≤ 1048576 := by omega
  have HD := Lib.hid (DrawSurplusAt_any A c xs w h)
  clear hlen h
  go_enter Try.func4, Try.ntmps4
  go_wp2_with fail
  refine HD.out.mono ?_
  rintro e w1 ⟨g, c1, t, g2, off, c2, p, rfl, hA, hB, ht8, htc, hp3, hpb, hpc, b1⟩
  have hpl : p.length ≤ 1099511627776 := by omega
  have hI := fun w' (h : Rd w' (some ⟨g, 0, none⟩) c1 t) (h2 : Rd w' (some ⟨g2, off, none⟩) c2 p) => SurplusAt_any (some ⟨g, 0, none⟩) (some ⟨g2, off, none⟩) c1 c2 t p w' h h2 (by omega)
  have hS := fun w' (h : Rd w' (some ⟨g, 0, none⟩) c1 t) (h2 : Rd w' (some ⟨g2, off, none⟩) c2 p) => SSurplusAt_any (some ⟨g, 0, none⟩) (some ⟨g2, off, none⟩) c1 c2 t p w' h h2 (by omega) hpl
  have hsay := su_says (t := t) (p := p)
  have HQ := Lib.hid (fun w' (A5 : Option Addr) (c5 : Nat) (h : Rd w' (some ⟨g, 0, none⟩) c1 t) (h2 : Rd w' A5 c5 (upL p)) => SurplusAt_any (some ⟨g, 0, none⟩) A5 c1 c5 t (upL p) w' h h2 (by omega))
  obtain ⟨v, hv⟩ : ∃ v, v = suB t p := ⟨_, rfl⟩
  rw [← hv] at hI hS hsay
  have HI := Lib.hid hI
  have HS := Lib.hid hS
  have HSAY := Lib.hid hsay
  have HPB := Lib.hid hpb
  have hvv : (v != v) = false := by simp
  clear hI hS hsay hv hpb HD hl1
  go_wp2_with fail
  refine (HI.out w1 hA hB).mono ?_
  rintro e w2 ⟨rfl, b2⟩
  have B2 := below_then b1 b2
  have hA2 := hA.below b2
  have hB2 := hB.below b2
  go_wp2_with fail
  refine (HS.out w2 hA2 hB2).mono ?_
  rintro e w3 ⟨rfl, n3, rfl⟩
  have B3 := below_drewN' B2 n3
  have hA3 := hA2.drewN n3
  have hB3 := hB2.drewN n3
  clear hA hB hA2 hB2 b1 b2
  by_cases hneg : v < 0
  · go_wp2_with fail
    refine (HS.out _ hA3 hB3).mono ?_
    rintro e w4 ⟨rfl, n4, rfl⟩
    go_wp2
    go_ret
    exact ⟨rfl, below_drewN' B2 (n3 + n4)⟩
  · obtain ⟨ht, hp, htop, hmore, hge, hv30⟩ := HSAY.out (by omega)
    obtain ⟨b7, o7, x7, hA7, _, hx7, hc7⟩ := hA3.at_ (k := 7) (by omega)
    obtain ⟨u, hu⟩ : ∃ u, u = suB t (upL p) := ⟨_, rfl⟩
    rw [← hu] at HQ hmore hge
    rw [T_of hx7.out] at htop
    have HX7 := Lib.hid (T_of hx7.out)
    rw [ht, hp]
    rw [ht] at HQ
    rw [upL_len, hp] at HQ
    have HP3 := Lib.hid hp
    have HT8 := Lib.hid ht
    have HMORE := Lib.hid hmore
    have HTOP := Lib.hid htop
    clear hmore hu hx7 htop ht hp HI HS hp3 HSAY hc7 hA7
    obtain ⟨w4, hw4⟩ : ∃ w4, w4 = w2.drewN n3 := ⟨_, rfl⟩
    rw [← hw4] at hA3 hB3 B3 ⊢
    clear hw4
    have HE0 : Hid (Own (w4.alloc (.cells #[] 3)) w4.heap.size (some ⟨w4.heap.size, 0, none⟩) 0 ((upL p).take 0)) := Lib.hid (own_empty w4)
    have hb0 : Below w4.heap.size w4 (w4.alloc (.cells #[] 3)) := (Below.refl _ w4).alloc (Nat.le_refl _) _
    go_wp2_with fail
    go_loopw [6, 7] (fun o i wr => ∃ (k : Nat) (A1 : Option Addr) (c1 : Nat), k ≤ 3 ∧ o = .slice A1 k c1 ∧ i = .int .i64 (k : Int) ∧ Hid (Own wr w4.heap.size A1 c1 ((upL p).take k)) ∧ Below w4.heap.size w4 wr) (fun _ i _ => 3 - (intOf i).toNat)
    case atStart => exact ⟨0, _, 0, by omega, rfl, rfl, HE0, hb0⟩
    case round =>
      obtain ⟨k, A1, c1', hk, rfl, rfl, HO, hb⟩ := hrel
      by_cases hlt : k < 3
      · obtain ⟨b, of2, x, hA5, _, hx, hcx⟩ := (hB3.below hb).at_ (k := k) (by rw [HP3.out]; exact hlt)
        have hxb := HPB.out x (List.mem_of_getElem? hx.out)
        have HT := Lib.hid (upL_snoc hx.out)
        have HN : Hid (((upL p).take k).length = k) := Lib.hid (by rw [List.length_take, upL_len, HP3.out]; omega)
        have HOL := Lib.hid (own_lit wr [x + 1] (by simp))
        have HOA : Hid (Own (wr.alloc (.cells #[.int .i64 (x + 1)] 3)) w4.heap.size A1 c1' ((upL p).take k)) := Lib.hid (World.ownsRow.alloc HO.out _)
        have HBA : Hid (Below w4.heap.size w4 (wr.alloc (.cells #[.int .i64 (x + 1)] 3))) := Lib.hid (hb.alloc hb.size _)
        have e1 : IntKind.i64.wrap (x + 1) = x + 1 := IntWalk.i64_in _ (by omega)
        have hk3 : (k : Int) < 3 := by omega
        have hk0 : (0 : Int) ≤ (k : Int) := by omega
        have hk1 : k + 1 ≤ 3 := hlt
        injection hA5 with hA5
        injection hA5 with hg5 ho5
        subst hg5 ho5
        clear hx hxb hlt HO
        go_wp2_with (at_builtin; refine wpList_append_any rfl _ _ 24 Try.underlying24 rfl w4.heap.size A1 c1' ((upL p).take k) k HN.out rfl HOA.out _ _ [x + 1] 1 rfl rfl HOL.out.rd (by omega) HBA.out.size ?_; intro A6 c6 w6 o6 g6)
        have B6 := Own.grownBelow0 HBA.out HOA.out HBA.out.size g6
        have HO6 : Hid (Own w6 w4.heap.size A6 c6 ((upL p).take (k + 1))) := Lib.hid (by rw [HT.out]; exact o6)
        go_wp2
        go_roundw
        case rel => exact ⟨k + 1, A6, c6, hk1, rfl, by go_num, HO6, B6⟩
        case measure => simp [intOf]; omega
      · obtain rfl : k = 3 := by omega
        have HOQ : Hid (Own wr w4.heap.size A1 c1' (upL p)) := Lib.hid (by have := HO.out; rwa [List.take_of_length_le (by rw [upL_len, HP3.out]; omega)] at this)
        have hAr := hA3.below hb
        have BB := below_then B3 hb
        clear HO hlt hb
        go_wp2_with fail
        refine (HQ.out _ A1 c1' hAr HOQ.out.rd).mono ?_
        rintro e w7 ⟨rfl, b7'⟩
        have hA7 := hAr.below b7'
        obtain ⟨b8, o8, x8, hA8, _, hx8, hc8⟩ := hA7.at_ (k := 7) (by rw [HT8.out]; omega)
        injection hA8 with hA8
        injection hA8 with hg8 ho8
        subst hg8 ho8
        have hx88 : x8 = x7 := by
          have h1 := T_of hx8.out
          rw [← h1]
          exact HX7.out
        subst hx88
        have htop := HTOP.out
        have B9 := below_then BB b7'
        have e1 : IntKind.i64.wrap (v - 3) = v - 3 := IntWalk.i64_in _ (by omega)
        have e2 : IntKind.i64.wrap (8 - 1) = 7 := rfl
        rcases HMORE.out with hm | ⟨hm1, hm2⟩
        · clear hx8 hA7
          go_wp2
          go_ret
          exact ⟨rfl, B9⟩
        · by_cases hu0 : u < 0
          · clear hx8 hA7 hm1 hm2
            go_wp2
            go_ret
            exact ⟨rfl, B9⟩
          · clear hx8 hA7
            go_wp2
            go_ret
            exact ⟨rfl, B9⟩

end Go.Proofs.Ytfjncipekjnbjaa

/-
  The laws of chapter 6: lists in which a number is, lists that rise, and the walk of FnDemandAt.
-/
namespace Go.Proofs.Ytfjncipekjnbjaa
open Go.RowKit Go.Lib

/-- Whether a number is in a list. -/
def inB (xs : List Int) (x : Int) : Bool := decide (x ∈ xs)
theorem inB_true {xs : List Int} {k : Nat} {x : Int} (h : xs[k]? = some x) : inB xs x = true := by unfold inB; simpa using List.mem_of_getElem? h
def NotTo (xs : List Int) (x : Int) (k : Nat) : Prop := ∀ j, j < k → xs[j]? ≠ some x
theorem NotTo.step {xs : List Int} {x y : Int} {k : Nat} (h : NotTo xs x k) (hy : xs[k]? = some y) (hne : ¬ y = x) : NotTo xs x (k + 1) := fun j hj => by
  rcases Nat.lt_or_ge j k with h1 | h1
  · exact h j h1
  · obtain rfl : j = k := by omega
    rw [hy]
    intro e
    injection e with e
    exact hne e
theorem NotTo.all {xs : List Int} {x : Int} (h : NotTo xs x xs.length) : inB xs x = false := by
  unfold inB
  simp only [decide_eq_false_iff_not]
  intro hm
  obtain ⟨k, hk, he⟩ := List.mem_iff_getElem.1 hm
  exact h k hk (by rw [List.getElem?_eq_getElem hk, he])

set_option maxHeartbeats 400000 in
theorem isIn_any (A : Option Addr) (c : Nat) (xs : List Int) (x : Int) (w : World) (h1 : Rd w A c xs) (hl : xs.length ≤ 1099511627776) :
    Calls Try.prog 28 #[.slice A xs.length c, .int .i64 x] w fun e w' => e = .returned (.bool (inB xs x)) ∧ w = w' := by
  go_enter Try.func28, Try.ntmps28
  go_wp2
  go_loop [5] (fun i => ∃ k : Nat, k ≤ xs.length ∧ i = .int .i64 k ∧ Hid (NotTo xs x k)) (fun i => xs.length - (intOf i).toNat)
  case atStart => exact ⟨0, Nat.zero_le _, rfl, Lib.hid (fun j hj => absurd hj (by omega))⟩
  case round =>
    obtain ⟨k, hk, rfl, HT⟩ := hrel
    by_cases hlt : k < xs.length
    · obtain ⟨b1, o1, y, rfl, _, hy, hc1⟩ := h1.at_ hlt
      by_cases hxy : y = x
      · have hne : (y == x) = true := by simpa using hxy
        have HE : Hid (inB xs x = true) := Lib.hid (by rw [← hxy]; exact inB_true hy.out)
        clear hxy hy
        go_wp2
        go_ret
        exact ⟨by rw [HE.out]; rfl, rfl⟩
      · have hne : (y == x) = false := by simpa using hxy
        have HT' := Lib.hid (HT.out.step hy.out hxy)
        clear hxy hy
        go_wp2
        go_round
        case rel => exact ⟨k + 1, by omega, by go_num, HT'⟩
        case measure => simp [intOf]; omega
    · obtain rfl : k = xs.length := by omega
      have HE := Lib.hid HT.out.all
      go_wp2
      go_ret
      exact ⟨by rw [HE.out]; rfl, rfl⟩

/-- Each number is more than the one ahead. -/
def Rise (xs : List Int) : Prop := ∀ k, k + 1 < xs.length → T xs k < T xs (k + 1)
set_option maxHeartbeats 400000 in
theorem ascends_any (A : Option Addr) (c n : Nat) (xs : List Int) (w : World) (hn : xs.length = n) (h1 : Rd w A c xs) (hl : n ≤ 1099511627776) (ha : Rise xs) :
    Calls Try.prog 29 #[.slice A n c] w fun e w' => e = .returned (.bool true) ∧ ∃ n, w' = w.drewN n := by
  subst hn
  have HA := Lib.hid ha
  clear ha
  go_enter Try.func29, Try.ntmps29
  go_wp2
  go_loopw [3] (fun i wr => ∃ k n : Nat, 1 ≤ k ∧ i = .int .i64 k ∧ wr = w.drewN n) (fun i _ => xs.length - (intOf i).toNat)
  case atStart => exact ⟨1, 0, by omega, rfl, rfl⟩
  case round =>
    obtain ⟨k, n, hk, rfl, rfl⟩ := hrel
    by_cases hlt : k < xs.length
    · obtain ⟨b1, o1, y, rfl, _, hy, hc1⟩ := h1.at_ hlt
      obtain ⟨b2, o2, x, hA2, _, hx, hc2⟩ := h1.at_ (k := k - 1) (by omega)
      injection hA2 with hA2
      injection hA2 with hg2 ho2
      subst hg2 ho2
      have h3 := HA.out (k - 1) (by omega)
      rw [show k - 1 + 1 = k by omega, T_of hx.out, T_of hy.out] at h3
      have hne : decide (y ≤ x) = false := by simp; omega
      have e1 : IntKind.i64.wrap ((k : Int) - 1) = ((k - 1 : Nat) : Int) := by rw [IntWalk.i64_in _ (by omega)]; omega
      have hk0 : (0 : Int) ≤ ((k - 1 : Nat) : Int) := by omega
      have hk1 : ((k - 1 : Nat) : Int) < (xs.length : Int) := by omega
      obtain ⟨k1, hk1'⟩ : ∃ k1, k1 = k - 1 := ⟨_, rfl⟩
      rw [← hk1'] at hc2 e1 hk0 hk1
      clear hx hy h3 hk1'
      go_wp2
      go_quiet (fail)
      go_wp2
      go_roundw
      case rel => exact ⟨k + 1, _, by omega, by go_num, rfl⟩
      case measure => simp [intOf]; omega
    · go_wp2
      go_ret
      exact ⟨rfl, _, rfl⟩

/-- What is in demand rises. -/
theorem dmTo_asc (t p : List Int) : ∀ k, Rise (dmTo t p k)
  | 0 => fun j hj => by simp [dmTo] at hj
  | k + 1 => by
    have ih := dmTo_asc t p k
    simp only [dmTo]
    split
    · intro j hj
      simp only [List.length_append, List.length_singleton] at hj
      rcases Nat.lt_or_ge (j + 1) (dmTo t p k).length with h1 | h1
      · have := ih j h1
        unfold T at this ⊢
        rw [List.getD_eq_getElem?_getD, List.getD_eq_getElem?_getD, List.getElem?_append_left (by omega), List.getElem?_append_left h1, ← List.getD_eq_getElem?_getD, ← List.getD_eq_getElem?_getD]
        exact this
      · have hj1 : j + 1 = (dmTo t p k).length := by omega
        have hm : T (dmTo t p k) j ∈ dmTo t p k := List.mem_of_getElem? (T_at (show j < (dmTo t p k).length by omega))
        obtain ⟨s, hs, hlt, _⟩ := dmTo_mem.1 hm
        have e1 : T (dmTo t p k ++ [(k : Int)]) (j + 1) = (k : Int) := T_of (by rw [hj1]; simp)
        have e2 : T (dmTo t p k ++ [(k : Int)]) j = T (dmTo t p k) j := by unfold T; rw [List.getD_eq_getElem?_getD, List.getD_eq_getElem?_getD, List.getElem?_append_left (by omega)]
        rw [e1, e2, hs]
        omega
    · exact ih
theorem dmB_yes {t p : List Int} (h : (dmB t p).length ≠ 0) : VT t ∧ VP p ∧ dmB t p = dm t p := by
  unfold dmB at h ⊢
  rcases hv : vt t && vp p with _ | _
  · rw [hv] at h; simp at h
  · obtain ⟨h1, h2⟩ := Bool.and_eq_true_iff.1 hv
    exact ⟨vt_iff.1 h1, vp_iff.1 h2, rfl⟩
/-- What the law says of what is in demand. -/
theorem dm_says {t p : List Int} (h : (dmB t p).length ≠ 0) : VT t ∧ VP p ∧ suB t p = su t p ∧ Rise (dmB t p) ∧ ∀ s : Nat, s < 8 → lf t p s ≤ su t p ∧ inB (dmB t p) (s : Int) = (lf t p s == su t p) := by
  obtain ⟨hv, hp, e⟩ := dmB_yes h
  refine ⟨hv, hp, ?_, by rw [e]; exact dmTo_asc t p 8, fun s hs => ⟨su_le hs, ?_⟩⟩
  · unfold suB; rw [vt_true hv, vp_true hp]; rfl
  · rw [e]
    unfold inB
    by_cases hx : lf t p s = su t p
    · rw [decide_eq_true (dm_mem.2 ⟨s, rfl, hs, hx⟩)]; simp [hx]
    · rw [decide_eq_false (fun hm => by
        obtain ⟨r, hr, _, h2⟩ := dm_mem.1 hm
        have : r = s := by omega
        subst this
        exact hx h2)]
      simp [hx]

set_option maxHeartbeats 4000000 in
set_option maxRecDepth 100000 in
theorem fnDemandAt_walk {A : Option Addr} {c : Nat} {xs : List Int} {w : World} (h : Came .u8 w A c xs) :
    Calls Try.prog 5 #[.slice A xs.length c] w fun e w' => e = .returned (.bool true) ∧ Below w.heap.size w w' := by
  by_cases hlen : 1048576 < xs.length
  · go_enter Try.func5, Try.ntmps5
    go_wp2
    go_ret
    exact ⟨rfl, Below.refl _ _⟩
  have hl1 : xs.length ≤ 1048576 := by omega
  have HD := Lib.hid (DrawDemandAt_any A c xs w h)
  clear hlen h
  go_enter Try.func5, Try.ntmps5
  go_wp2_with fail
  refine HD.out.mono ?_
  rintro e w1 ⟨g, c1, t, g2, off, c2, p, rfl, hA, hB, ht8, htc, hp3, hpb, hpc, b1⟩
  have hpl : p.length ≤ 1099511627776 := by omega
  have hI := fun w' (h : Rd w' (some ⟨g, 0, none⟩) c1 t) (h2 : Rd w' (some ⟨g2, off, none⟩) c2 p) => DemandAt_any (some ⟨g, 0, none⟩) (some ⟨g2, off, none⟩) c1 c2 t p w' h h2 (by omega)
  have hS := fun w' (h : Rd w' (some ⟨g, 0, none⟩) c1 t) (h2 : Rd w' (some ⟨g2, off, none⟩) c2 p) => SDemandAt_any (some ⟨g, 0, none⟩) (some ⟨g2, off, none⟩) c1 c2 t p w' h h2 (by omega) hpl
  have HM := Lib.hid (fun w' (h : Rd w' (some ⟨g, 0, none⟩) c1 t) (h2 : Rd w' (some ⟨g2, off, none⟩) c2 p) => SurplusAt_any (some ⟨g, 0, none⟩) (some ⟨g2, off, none⟩) c1 c2 t p w' h h2 (by omega))
  have hsay := dm_says (t := t) (p := p)
  have hzl := dmB_len t p
  obtain ⟨zs, hzs⟩ : ∃ zs, zs = dmB t p := ⟨_, rfl⟩
  rw [← hzs] at hI hS hsay hzl
  have HI := Lib.hid hI
  have HS := Lib.hid hS
  have HSAY := Lib.hid hsay
  have hzl2 : zs.length ≤ 1099511627776 := by omega
  clear hI hS hsay hzs hpb HD hl1
  go_wp2_with fail
  refine (HI.out w1 hA hB).mono ?_
  rintro e w2 ⟨A2, c3, rfl, o2, b2⟩
  have B2 := below_then b1 b2
  have hA2 := hA.below b2
  have hB2 := hB.below b2
  go_wp2_with fail
  refine (HS.out w2 hA2 hB2).mono ?_
  rintro e w3 ⟨A3, c4, rfl, o3, b3⟩
  have B3 := below_then B2 b3
  have hA3 := hA2.below b3
  have hB3 := hB2.below b3
  have r23 := (o2.below b3).rd
  clear o2 hA hB hA2 hB2 b1 b2 b3
  go_wp2_with fail
  refine (equalU_any A2 A3 c3 c4 zs zs w3 r23 o3.rd hzl2).mono ?_
  rw [eqB_self]
  rintro e w4 ⟨rfl, n4, rfl⟩
  by_cases hz : zs.length = 0
  · have hz0 : ((zs.length : Int) == 0) = true := by simp [hz]
    clear hz
    go_wp2_with fail
    refine (HS.out (w3.drewN n4) (hA3.drewN n4) (hB3.drewN n4)).mono ?_
    rintro e w5 ⟨A5, c5, rfl, o5, b5⟩
    have B5 := below_then (below_drewN' B3 n4) b5
    have r25 := (r23.drewN n4).below b5
    clear o3 r23
    go_wp2_with fail
    refine (equalU_any A2 A5 c3 c5 zs zs w5 r25 o5.rd hzl2).mono ?_
    rw [eqB_self]
    rintro e w6 ⟨rfl, n6, rfl⟩
    go_wp2
    go_ret
    exact ⟨rfl, below_drewN' B5 n6⟩
  · have hz0 : ((zs.length : Int) == 0) = false := beq_eq_false_iff_ne.2 (by omega)
    obtain ⟨hv, hp, hsu, hasc, hin⟩ := HSAY.out hz
    rw [hsu] at HM
    have h8 := hv.1
    have h3 := hp.1
    have HIN := Lib.hid (fun w' (x : Int) (h : Rd w' A2 c3 zs) => isIn_any A2 c3 zs x w' h hzl2)
    have HAS := Lib.hid (fun w' (h : Rd w' A2 c3 zs) => ascends_any A2 c3 zs.length zs w' rfl h hzl2 hasc)
    have HSB := Lib.hid hin
    have HTB := Lib.hid (fun s (hs : s < 8) => hv.bd hs)
    have HPB := Lib.hid (fun s (hs : s < 8) => hp.bd hs)
    have HPT := Lib.hid (fun s j (hj : j ≤ 3) => prTo_bd hp (s := s) j hj)
    have HV3 := Lib.hid hp.2
    have H8 := Lib.hid h8
    have H3 := Lib.hid h3
    have HSU := Lib.hid (suTo_bd hv hp (k := 8) (Nat.le_refl _))
    have hsu8 : suTo t p 8 = su t p := rfl
    rw [hsu8] at HSU
    obtain ⟨M, hM⟩ : ∃ M, M = su t p := ⟨_, rfl⟩
    rw [← hM] at HM HSB HSU
    rw [h8, h3] at HM ⊢
    have B4 := below_drewN' B3 n4
    have r24 := r23.drewN n4
    have hA4 := hA3.drewN n4
    have hB4 := hB3.drewN n4
    clear hz hsu hasc hin hsu8 hM HI HS HSAY o3 r23 hA3 hB3 hv hp h8 h3
    go_wp2_with fail
    refine (HM.out _ hA4 hB4).mono ?_
    rintro e w5 ⟨rfl, b5⟩
    have B5 := below_then B4 b5
    have r25 := r24.below b5
    have hA5 := hA4.below b5
    have hB5 := hB4.below b5
    clear b5 r24 hA4 hB4 B4
    go_wp2_with fail
    go_loopw [7] (fun sv wr => ∃ s n, sv = .int .i64 (s : Nat) ∧ s ≤ 8 ∧ wr = w5.drewN n) (fun i _ => 8 - (intOf i).toNat)
    case atStart => exact ⟨0, 0, rfl, by omega, rfl⟩
    case round =>
      obtain ⟨s, n, rfl, hs, rfl⟩ := hrel
      by_cases hlt : s < 8
      · have hs8 : (s : Int) < 8 := by omega
        have hs0 : (0 : Int) ≤ (s : Int) := by omega
        have hss : s < 8 := hlt
        clear hlt
        go_wp2_with fail
        go_loopw [8, 9] (fun mv jv wr => ∃ j n, mv = .int .i64 (prTo p s j) ∧ jv = .int .i64 (j : Nat) ∧ j ≤ 3 ∧ wr = w5.drewN n) (fun _ i _ => 3 - (intOf i).toNat)
        case atStart => exact ⟨0, n, rfl, rfl, by omega, rfl⟩
        case round =>
          obtain ⟨j, n, rfl, rfl, hj, rfl⟩ := hrel
          by_cases hlt : j < 3
          · have HB := Lib.hid (fun (m : Nat) => calls_q (w := w5) (m := n) (Lbit_any s j hss hlt (w5.drewN (n + m))))
            obtain ⟨b, of2, y, hA6, _, hy, hcy⟩ := hB5.at_ (k := j) (by rw [H3.out]; exact hlt)
            injection hA6 with hA6
            injection hA6 with hg6 ho6
            subst hg6 ho6
            have hTy := T_of hy.out
            have HPS : Hid (prTo p s (j + 1) = prTo p s j + ((s / 2 ^ j % 2 : Nat) : Int) * y) := Lib.hid (by simp only [prTo]; rw [hTy])
            have hyb := HV3.out j hlt
            rw [hTy] at hyb
            have hpb := HPT.out s j (by omega)
            have hj3 : (j : Int) < 3 := by omega
            have hj0 : (0 : Int) ≤ (j : Int) := by omega
            obtain ⟨u, hu⟩ : ∃ u, u = s / 2 ^ j % 2 := ⟨_, rfl⟩
            obtain ⟨V, hV⟩ : ∃ V, V = prTo p s j := ⟨_, rfl⟩
            rw [← hu] at HB HPS
            rw [← hV] at hpb HPS ⊢
            have hu1 : u ≤ 1 := by omega
            have hmul : 0 ≤ (u : Int) * y ∧ (u : Int) * y ≤ 40 := by
              rcases (show u = 0 ∨ u = 1 by omega) with rfl | rfl <;> simp <;> omega
            have e1 : IntKind.i64.wrap ((u : Int) * y) = (u : Int) * y := IntWalk.i64_in _ (by omega)
            have e2 : IntKind.i64.wrap (V + (u : Int) * y) = V + (u : Int) * y := IntWalk.i64_in _ (by omega)
            have hj1 : j + 1 ≤ 3 := hlt
            clear hu hV hy hTy hyb hpb hmul hlt
            go_wp2_with fail
            go_quiet ((go_at_call 27; exact HB.out _))
            go_wp2
            go_roundw
            case rel => exact ⟨j + 1, _, by rw [HPS.out], by go_num, hj1, rfl⟩
            case measure => simp only [intOf]; omega
          · obtain rfl : j = 3 := by omega
            obtain ⟨b, of2, y, hA6, _, hy, hcy⟩ := hA5.at_ (k := s) (by rw [H8.out]; exact hss)
            injection hA6 with hA6
            injection hA6 with hg6 ho6
            subst hg6 ho6
            rw [Nat.zero_add] at hcy
            have hTy := T_of hy.out
            obtain ⟨q1, q2⟩ := HSB.out s hss
            have hlf : lf t p s = y - prTo p s 3 := by unfold lf pr; rw [hTy]
            rw [hlf] at q1 q2
            have tb := HTB.out s hss
            rw [hTy] at tb
            have pb := HPT.out s 3 (by omega)
            obtain ⟨V, hV⟩ : ∃ V, V = prTo p s 3 := ⟨_, rfl⟩
            rw [← hV] at q1 q2 pb ⊢
            have HI2 := Lib.hid (fun (m : Nat) => calls_q (w := w5) (m := n) (HIN.out (w5.drewN (n + m)) (s : Int) r25))
            rw [q2] at HI2
            have e1 : IntKind.i64.wrap (y - V) = y - V := IntWalk.i64_in _ (by omega)
            have hne : decide (M < y - V) = false := by simp; omega
            have hbb : ((y - V == M) != (y - V == M)) = false := by simp
            clear hy hTy hlf q1 q2 tb pb hV hlt
            go_wp2_with fail
            go_quiet ((go_at_call 28; exact HI2.out _))
            go_wp2
            go_roundw
            case rel => exact ⟨s + 1, _, by go_num, by omega, rfl⟩
            case measure => simp only [intOf]; omega
      · obtain rfl : s = 8 := by omega
        have HB5 := Lib.hid B5
        go_wp2_with fail
        refine (HAS.out _ ?_).mono ?_
        · exact r25
        rintro e w6 ⟨rfl, n6, rfl⟩
        go_wp2
        go_ret
        exact ⟨rfl, below_drewN' B5 (n + n6)⟩

end Go.Proofs.Ytfjncipekjnbjaa

/-
  The laws of chapter 6: the draw of KeepsDemand.
-/
namespace Go.Proofs.Ytfjncipekjnbjaa
open Go.RowKit Go.Lib

/-- What is drawn: a list of at most eight numbers, prices, and others. -/
def DrawnTPQ (w : World) (e : Ending) (w' : World) : Prop :=
  ∃ (g c : Nat) (t : List Int) (g2 off c2 : Nat) (p : List Int) (A3 : Option Addr) (c3 : Nat) (q : List Int), e = .returned (.tuple #[.slice (some ⟨g, 0, none⟩) t.length c, .slice (some ⟨g2, off, none⟩) p.length c2, .slice A3 q.length c3]) ∧ Rd w' (some ⟨g, 0, none⟩) c t ∧ Rd w' (some ⟨g2, off, none⟩) c2 p ∧ Rd w' A3 c3 q ∧ t.length ≤ 8 ∧ t.length ≤ c ∧
    (p.length = 3 ∨ p.length = 2) ∧ q.length = p.length ∧ (∀ x ∈ p, -1 ≤ x ∧ x ≤ 41) ∧ p.length ≤ c2 ∧ Below w.heap.size w w'

theorem own_at0 {w : World} {B c : Nat} {A : Option Addr} {zs : List Int} (h : Own w B A c zs) (hl : 1 ≤ zs.length) : ∃ g, A = some ⟨g, 0, none⟩ := by
  unfold Own at h
  rcases h.2 with ⟨hv, hn⟩ | ⟨g, cap, cur, hv, _⟩
  · omega
  · injection hv with h1 _ _
    exact ⟨g, h1⟩

theorem Rd.keepb {w w' : World} {b off c : Nat} {zs : List Int} (h : Rd w (some ⟨b, off, none⟩) c zs) (hb : w'.heap[b]? = w.heap[b]?) : Rd w' (some ⟨b, off, none⟩) c zs := by
  rcases h with h | ⟨b', off', hA, hc⟩
  · exact .inl h
  · injection hA with hA
    injection hA with h1 h2
    subst h1 h2
    exact .inr ⟨b, off, rfl, fun k hk => by rw [← hc k hk]; unfold World.cell?; rw [hb]⟩

set_option maxHeartbeats 1600000 in
set_option maxRecDepth 100000 in
theorem DrawKeepsDemand_any (A : Option Addr) (c : Nat) (xs : List Int) (w : World) (h : Came .u8 w A c xs) :
    Calls Try.prog 34 #[.slice A xs.length c] w (DrawnTPQ w) := by
  go_enter Try.func34, Try.ntmps34
  go_wp2_with fail
  refine (newReader_any A c xs w h).mono ?_
  rintro e w1 ⟨rb, rfl, hrb, hr1, hb1⟩
  go_wp2_with fail
  refine (someTable_any rb 0 w1 hr1 (by decide)).mono ?_
  rintro e w2 ⟨g, c2, t, rfl, ht, o2, hr2, hg2⟩
  have hge := o2.ge
  have hl1 := hr1.lt
  have hl2 := hr2.lt
  go_wp2_with fail
  refine (somePrices_any rb (0 + 40) w2 hr2 (by decide)).mono ?_
  rintro e w3 ⟨g3, off, c3, p, rfl, hp, hpb, r3, hc3, hg3, hg3', hr3, hgg3⟩
  have o23 : Own w3 w1.heap.size (some ⟨g, 0, none⟩) c2 t := o2.kept_ (A2 := some ⟨rb, 0, none⟩) hgg3 (.inr (fun e => by have h3 : g = rb := Option.some.inj e; omega))
  have HB := Lib.hid (hb1.trans (gb_below (hg2.trans hgg3) hb1.size hrb))
  have HP := Lib.hid hpb
  have HE : Hid (Own (w3.alloc (.cells #[] 3)) w3.heap.size (some ⟨w3.heap.size, 0, none⟩) 0 []) := Lib.hid (own_empty w3)
  have hb3 : Below w3.heap.size w3 (w3.alloc (.cells #[] 3)) := (Below.refl _ w3).alloc (Nat.le_refl _) _
  have HR : Hid (Rd (w3.alloc (.cells #[] 3)) (some ⟨g3, off, none⟩) c3 p) := Lib.hid (r3.below hb3)
  have hpl : p.length ≤ 3 := by omega
  clear hg2 o2 hpb
  go_wp2_with (at_builtin; refine wpList_append_any rfl _ _ 24 Try.underlying24 rfl w3.heap.size (some ⟨w3.heap.size, 0, none⟩) 0 [] 0 rfl rfl HE.out _ _ p p.length rfl rfl HR.out (by omega) hb3.size ?_; intro A4 c4 w4 o4 g4)
  have B4 := Own.grownBelow0 hb3 HE.out hb3.size g4
  obtain ⟨gq, rfl⟩ := own_at0 o4 (by simp; omega)
  have hr4 := hr3.below B4
  have o24 : Own w4 w1.heap.size (some ⟨g, 0, none⟩) c2 t := o23.below B4
  have r34 := r3.below B4
  have hgq := o4.ge
  have hge4 : g < w3.heap.size := (own_blk o23 rfl).2
  have HBB := Lib.hid (below_then HB.out B4)
  have hsz4 : w3.heap.size ≤ w4.heap.size := B4.size
  have hwq : w.heap.size ≤ gq := Nat.le_trans HB.out.size hgq
  have hg3r : g3 ≠ rb := by omega
  have hg3q : g3 ≠ gq := by omega
  have hrq : rb < gq := by omega
  have hggq : g ≠ gq := by omega
  have hl3 := hr3.lt
  have hge2 : w1.heap.size ≤ g := hge
  clear g4 hb3 HE HR o23 r3 B4 hr3 HB hgg3 hr2 hge
  rw [List.nil_append] at o4
  go_loopw [9] (fun iv wr => ∃ (j : Nat) (qs : List Int), j ≤ p.length ∧ iv = .int .i64 (j : Int) ∧ qs.length = p.length ∧ Hid (∀ x ∈ qs, -1 ≤ x ∧ x ≤ 41 + 5 * (j : Int)) ∧ Own wr w3.heap.size (some ⟨gq, 0, none⟩) c4 qs ∧ Rdr wr rb (0 + 40 + 6 + j) ∧ Below w.heap.size w wr ∧ Own wr w1.heap.size (some ⟨g, 0, none⟩) c2 t ∧ Rd wr (some ⟨g3, off, none⟩) c3 p ∧ w3.heap.size ≤ wr.heap.size)
    (fun iv _ => p.length - (intOf iv).toNat)
  case atStart => exact ⟨0, p, by omega, rfl, rfl, Lib.hid (fun x hx => by have := HP.out x hx; simp; omega), o4, hr4, HBB.out, o24, r34, hsz4⟩
  case round =>
    obtain ⟨j, qs, hj, rfl, hql, HQ, oq, hr, hb, og, rp, hsw⟩ := hrel
    by_cases hlt : j < p.length
    · obtain ⟨x, hx⟩ := at_some (xs := qs) (k := j) (by omega)
      have hcell := oq.cell hx
      have hfree := oq.free j
      have hxb := HQ.out x (List.mem_of_getElem? hx)
      have oqA : Own (wr.alloc (.cells #[.int .i64 0, .int .i64 0, .int .i64 1, .int .i64 2, .int .i64 5] 3)) w3.heap.size (some ⟨gq, 0, none⟩) c4 qs := World.ownsRow.alloc oq _
      have ogA : Own (wr.alloc (.cells #[.int .i64 0, .int .i64 0, .int .i64 1, .int .i64 2, .int .i64 5] 3)) w1.heap.size (some ⟨g, 0, none⟩) c2 t := World.ownsRow.alloc og _
      have hbA : Below wr.heap.size wr (wr.alloc (.cells #[.int .i64 0, .int .i64 0, .int .i64 1, .int .i64 2, .int .i64 5] 3)) := (Below.refl _ wr).alloc (Nat.le_refl _) _
      have rpA : Rd (wr.alloc (.cells #[.int .i64 0, .int .i64 0, .int .i64 1, .int .i64 2, .int .i64 5] 3)) (some ⟨g3, off, none⟩) c3 p := rp.below hbA
      have hrA : Rdr (wr.alloc (.cells #[.int .i64 0, .int .i64 0, .int .i64 1, .int .i64 2, .int .i64 5] 3)) rb (0 + 40 + 6 + j) := hr.alloc _
      have oL : Own (wr.alloc (.cells #[.int .i64 0, .int .i64 0, .int .i64 1, .int .i64 2, .int .i64 5] 3)) wr.heap.size (some ⟨wr.heap.size, 0, none⟩) 5 [0, 0, 1, 2, 5] := own_lit wr [0, 0, 1, 2, 5] (by decide)
      have BA : Below w.heap.size w (wr.alloc (.cells #[.int .i64 0, .int .i64 0, .int .i64 1, .int .i64 2, .int .i64 5] 3)) := below_then hb hbA
      have hcellA := oqA.cell hx
      have hrD : Rdr (wr.alloc (.cells #[.int .i64 0, .int .i64 0, .int .i64 1, .int .i64 2, .int .i64 5] 3)).drew rb (0 + 40 + 6 + j) := hrA
      have oLD : Own (wr.alloc (.cells #[.int .i64 0, .int .i64 0, .int .i64 1, .int .i64 2, .int .i64 5] 3)).drew wr.heap.size (some ⟨wr.heap.size, 0, none⟩) 5 [0, 0, 1, 2, 5] := oL
      have oqD : Own (wr.alloc (.cells #[.int .i64 0, .int .i64 0, .int .i64 1, .int .i64 2, .int .i64 5] 3)).drew w3.heap.size (some ⟨gq, 0, none⟩) c4 qs := oqA
      have ogD : Own (wr.alloc (.cells #[.int .i64 0, .int .i64 0, .int .i64 1, .int .i64 2, .int .i64 5] 3)).drew w1.heap.size (some ⟨g, 0, none⟩) c2 t := ogA
      have rpD : Rd (wr.alloc (.cells #[.int .i64 0, .int .i64 0, .int .i64 1, .int .i64 2, .int .i64 5] 3)).drew (some ⟨g3, off, none⟩) c3 p := rpA
      have BD : Below w.heap.size w (wr.alloc (.cells #[.int .i64 0, .int .i64 0, .int .i64 1, .int .i64 2, .int .i64 5] 3)).drew := BA.drew
      have HKEEP : Hid (∀ W, (wr.alloc (.cells #[.int .i64 0, .int .i64 0, .int .i64 1, .int .i64 2, .int .i64 5] 3)).drew.grownBy W (some rb) → Own W w3.heap.size (some ⟨gq, 0, none⟩) c4 qs ∧ Own W w1.heap.size (some ⟨g, 0, none⟩) c2 t ∧ Rd W (some ⟨g3, off, none⟩) c3 p ∧ Below w.heap.size w W) := Lib.hid (fun W hg =>
        ⟨oqD.kept_ (A2 := some ⟨rb, 0, none⟩) hg (.inr (fun e => by have h3 : gq = rb := Option.some.inj e; omega)), ogD.kept_ (A2 := some ⟨rb, 0, none⟩) hg (.inr (fun e => by have h3 : g = rb := Option.some.inj e; omega)), rpD.keepb (hg.block g3 (Nat.lt_of_lt_of_le hg3' (Nat.le_trans hsw (by simp))) (fun e => hg3r (Option.some.inj e))), BD.grown hg BD.size (fun k hk => by have h3 : k = rb := (Option.some.inj hk).symm; have h4 := HBB.out.size; omega)⟩)
      have HONE := Lib.hid (one_any rb (0 + 40 + 6 + j) wr.heap.size 5 5 wr.heap.size [0, 0, 1, 2, 5] (wr.alloc (.cells #[.int .i64 0, .int .i64 0, .int .i64 1, .int .i64 2, .int .i64 5] 3)).drew rfl hrD oLD (by have := hr.lt; omega) (by decide) (by decide) (by omega))
      have hlr := hr.lt
      have hne : wr.heap.size ≠ rb := by omega
      have HX := Lib.hid hx
      have HQL := Lib.hid hql
      clear hx hb hr og rp oq hbA
      go_wp2_with fail
      go_region_law ((go_simp; go_at_call 64; refine HONE.out.mono ?_; rintro e w6 ⟨v, hv, rfl, hr6, hg6⟩; obtain ⟨oq6, og6, rp6, B6⟩ := HKEEP.out _ hg6; have hcell6 := oq6.cell HX.out; have hfree6 := oq6.free j; have hvb : 0 ≤ v ∧ v ≤ 5 := (by simp only [List.mem_cons, List.not_mem_nil, or_false] at hv; omega); have ew : IntKind.i64.wrap (x + v) = x + v := IntWalk.i64_in _ (by omega)))
      all_goals (
        have oq7 := oq6.set_ j (x + v)
        have hr7 := hr6.set_ (g := gq) (i := j) (v := .int .i64 (x + v)) hrq
        have B7 : Below w.heap.size w (w6.setCell ⟨gq, j, none⟩ (.int .i64 (x + v))) := B6.setCell hwq _
        have og7 : Own (w6.setCell ⟨gq, j, none⟩ (.int .i64 (x + v))) w1.heap.size (some ⟨g, 0, none⟩) c2 t := og6.kept_ (A2 := some ⟨gq, 0, none⟩) (grown_set w6 gq j _) (.inr (fun e => hggq (Option.some.inj e)))
        have rp7 : Rd (w6.setCell ⟨gq, j, none⟩ (.int .i64 (x + v))) (some ⟨g3, off, none⟩) c3 p := Rd.other rp6 (fun e => hg3q (Option.some.inj e))
        have hs7 : w3.heap.size ≤ (w6.setCell ⟨gq, j, none⟩ (.int .i64 (x + v))).heap.size := by have := oq6.lt; simp; omega
        have HQ7 : Hid (∀ y ∈ qs.set j (x + v), -1 ≤ y ∧ y ≤ 41 + 5 * ((j + 1 : Nat) : Int)) := Lib.hid (fun y hy => by
          rcases List.mem_or_eq_of_mem_set hy with h1 | h1
          · have := HQ.out y h1; omega
          · omega)
        clear hcell hfree hcellA hcell6 hfree6 oq6 og6 rp6 B6 HQ HKEEP HONE hrD oLD oqD ogD rpD BD oqA ogA rpA hrA oL BA
        go_wp2
        go_roundw
        case rel => exact ⟨j + 1, qs.set j (x + v), by omega, by go_num, by rw [List.length_set]; exact HQL.out, HQ7, oq7, by simpa [Nat.add_assoc] using hr7, B7, og7, rp7, hs7⟩
        case measure => simp [intOf]; omega)
    · obtain rfl : j = p.length := by omega
      have h12 : (p.length : Int) > 0 := by omega
      obtain ⟨x, hx⟩ := at_some (xs := qs) (k := 0) (by omega)
      have hxb := HQ.out x (List.mem_of_getElem? hx)
      go_wp2_with fail
      refine (pick_any rb _ 12 wr hr (by omega) (by decide) (by decide)).mono ?_
      rintro e w6 ⟨m, rfl, hm0, hm1, hr6, hg6⟩
      have oq6 : Own w6 w3.heap.size (some ⟨gq, 0, none⟩) c4 qs := oq.kept_ (A2 := some ⟨rb, 0, none⟩) hg6 (.inr (fun e => by have h3 : gq = rb := Option.some.inj e; omega))
      have og6 : Own w6 w1.heap.size (some ⟨g, 0, none⟩) c2 t := og.kept_ (A2 := some ⟨rb, 0, none⟩) hg6 (.inr (fun e => by have h3 : g = rb := Option.some.inj e; omega))
      have rp6 : Rd w6 (some ⟨g3, off, none⟩) c3 p := rp.keepb (hg6.block g3 (by omega) (fun e => hg3r (Option.some.inj e)))
      have B6 : Below w.heap.size w w6 := hb.grown hg6 hb.size (fun k hk => by have h3 : k = rb := (Option.some.inj hk).symm; omega)
      have hcell := oq6.cell hx
      have hfree := oq6.free 0
      have HQL := Lib.hid hql
      have ew : IntKind.i64.wrap (x - 1) = x - 1 := IntWalk.i64_in _ (by omega)
      by_cases hm : m = 0
      · have hmb : (m == 0) = true := by simpa using hm
        have oq7 := oq6.set_ 0 (x - 1)
        have B7 : Below w.heap.size w (w6.setCell ⟨gq, 0, none⟩ (.int .i64 (x - 1))) := B6.setCell hwq _
        have og7 : Own (w6.setCell ⟨gq, 0, none⟩ (.int .i64 (x - 1))) w1.heap.size (some ⟨g, 0, none⟩) c2 t := og6.kept_ (A2 := some ⟨gq, 0, none⟩) (grown_set w6 gq 0 _) (.inr (fun e => hggq (Option.some.inj e)))
        have rp7 : Rd (w6.setCell ⟨gq, 0, none⟩ (.int .i64 (x - 1))) (some ⟨g3, off, none⟩) c3 p := Rd.other rp6 (fun e => hg3q (Option.some.inj e))
        clear hm hx hql oq6 og6 rp6 B6 oq og rp hb hg6
        go_wp2
        go_ret3
        exact ⟨g, c2, t, g3, off, c3, p, some ⟨gq, 0, none⟩, c4, qs.set 0 (x - 1), by rw [List.length_set, HQL.out]; rfl, og7.rd, rp7, oq7.rd, ht, og7.cap.1, hp, by rw [List.length_set]; exact HQL.out, HP.out, hc3, B7⟩
      · have hmb : (m == 0) = false := by simpa using hm
        clear hm hx hql oq og rp hb hg6
        go_wp2
        go_ret3
        exact ⟨g, c2, t, g3, off, c3, p, some ⟨gq, 0, none⟩, c4, qs, by rw [HQL.out]; rfl, og6.rd, rp6, oq6.rd, ht, og6.cap.1, hp, HQL.out, HP.out, hc3, B6⟩

end Go.Proofs.Ytfjncipekjnbjaa
