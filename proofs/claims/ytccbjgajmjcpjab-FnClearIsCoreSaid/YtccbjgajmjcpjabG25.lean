/-
  The generators of the laws of chapters 4 and 5: tables of bidders whose things may be moved.
-/
import Derived.Test.YtccbjgajmjcpjabG24
import Derived.Test.YtccbjgajmjcpjabG00
import Derived.BigQuiet
import Derived.Test.YtccbjgajmjcpjabG23
import Derived.Test.YtccbjgajmjcpjabG05
namespace Go.Proofs.Ytccbjgajmjcpjab
open Go.RowKit Go.Lib

set_option maxHeartbeats 4000000 in
set_option maxRecDepth 100000 in
theorem easyTables_any (rb k : Nat) (w : World) (h : Rdr w rb k) (hk : k + 250 ≤ 1000000) :
    Calls Try.prog 66 #[.pointer (some ⟨rb, 0, none⟩)] w (TablesIs w rb (k + 170)) := by
  obtain ⟨i0, hi, hz0, hz1, hz2⟩ := info_parts intsU_info
  have hl := h.lt
  have HE := Lib.hid (rowsU_empty w)
  have HL : Hid (Own ((w.alloc (.cells #[] 26)).alloc (.cells #[.int .i64 2, .int .i64 3, .int .i64 1, .int .i64 2] 3)) (w.heap.size + 1) (some ⟨w.heap.size + 1, 0, none⟩) 4 [2, 3, 1, 2]) := Lib.hid (by
    have := own_lit (w.alloc (.cells #[] 26)) [2, 3, 1, 2] (by decide)
    rw [World.size_alloc] at this
    exact this)
  have HR := Lib.hid ((h.alloc (.cells #[] 26)).alloc (.cells #[.int .i64 2, .int .i64 3, .int .i64 1, .int .i64 2] 3))
  have HG : Hid (w.grownBy ((w.alloc (.cells #[] 26)).alloc (.cells #[.int .i64 2, .int .i64 3, .int .i64 1, .int .i64 2] 3)) (some rb)) := Lib.hid (gb_alloc (World.grownBy_alloc w _ (some rb)) _)
  have HO : Hid (RowsU ((w.alloc (.cells #[] 26)).alloc (.cells #[.int .i64 2, .int .i64 3, .int .i64 1, .int .i64 2] 3)) w.heap.size (.slice (some ⟨w.heap.size, 0, none⟩) 0 0) []) := Lib.hid (HE.out.below ((Below.refl _ _).alloc (Nat.le_refl _) _))
  have hl2 : w.heap.size + 1 ≠ rb := by omega
  clear HE
  go_enter Try.func66, Try.ntmps66
  go_wp2_with fail
  refine (one_any rb k (w.heap.size + 1) 4 4 (w.heap.size + 1) [2, 3, 1, 2] _ rfl HR.out HL.out hl2 (by decide) (by decide) (by omega)).mono ?_
  rintro e w1 ⟨most, hmo, rfl, hr1, hg1⟩
  have hm0 : 0 ≤ most := by simp only [List.mem_cons, List.not_mem_nil, or_false] at hmo; omega
  have hm1 : most ≤ 4 := by simp only [List.mem_cons, List.not_mem_nil, or_false] at hmo; omega
  have ho1 := HO.out.ask hg1 hl
  have gg1 := HG.out.trans hg1
  obtain ⟨S, hS⟩ : ∃ S, S = w.heap.size := ⟨_, rfl⟩
  have HSS := Lib.hid hS
  rw [← hS] at ho1 hl
  clear hmo HR HG HO HL hg1 hl2
  go_wp2_with fail
  rw [← hS]
  clear hS
  go_loopw [3] (fun v wr => ∃ (ps : List (Nat × Nat × List Int)), ps.length ≤ 4 ∧ (∃ g c, v = .slice (some ⟨g, 0, none⟩) ps.length c) ∧ Hid (∀ p ∈ ps, p.2.2.length ≤ 8) ∧ RowsU wr S v ps ∧ Rdr wr rb (k + 1 + 30 * ps.length) ∧ w.grownBy wr (some rb))
    (fun v _ => 4 - lenW v)
  case atStart => exact ⟨[], Nat.zero_le _, ⟨S, 0, rfl⟩, Lib.hid (fun _ h => absurd h (by simp)), ho1, hr1, gg1⟩
  case round =>
    obtain ⟨ps, hps, ⟨g, c, rfl⟩, HP, hR, hr, hg⟩ := hrel
    by_cases hlt : (ps.length : Int) < most
    · have hp4 : ps.length < 4 := by omega
      have HRW := Lib.hid hR
      clear hR
      go_wp2_with fail
      refine (pick_any rb (k + 1 + 30 * ps.length) 2 wr hr (by omega) (by decide) (by decide)).mono ?_
      rintro e w0 ⟨m, rfl, hm2, _, hr0, hg0⟩
      have hSw : S ≤ wr.heap.size := by rw [HSS.out]; exact hg.size
      have hR0 := HRW.out.ask hg0 hl
      have gg0 := hg.trans hg0
      have hs0 := hg0.size
      by_cases hm : m = 0
      · have hmb : (m == 0) = true := by simpa using hm
        clear hm
        go_wp2_with fail
        refine (oneTable_any rb (k + 1 + 30 * ps.length + 1) w0 hr0 (by omega)).mono ?_
        rintro e w2 ⟨g2, c2, ys, rfl, hy8, _, o2', hr2, hg2⟩
        have hR2 := hR0.ask hg2 hl
        have gg2 := gg0.trans hg2
        have HN := Lib.hid (hR0.notIn (Nat.le_refl _) o2')
        have o2 := o2'.base (show S ≤ w0.heap.size by omega)
        have hs2 := hg2.size
        clear o2' hg2 hR0 hmb
        have hy : ys.length ≤ 8 := by omega
        have e8 : slU (g2, c2, ys) = .slice (some ⟨g2, 0, none⟩) 8 c2 := by show Value.slice _ ys.length _ = _; rw [hy8]
        have E8 := Lib.hid e8
        clear hy8
        have HT := Lib.hid (own_len hR2.row ((Below.refl _ w2).alloc (Nat.le_refl _) (.cells #[.slice (some ⟨g2, 0, none⟩) 8 c2] 26)))
        have hb63 : ps.length + 1 ≤ maxLen := by unfold maxLen; omega
        have hSz : S ≤ w2.heap.size + 1 := by omega
        clear e8
        go_wp2_with (at_builtin; (refine wpList_append_own _ rfl _ _ 23 rfl S 26 i0 (.slice none 0 0) 1 24 Try.underlying23 hi hz0 hz1 hz2 rfl (by decide) (.slice (some ⟨g, 0, none⟩) ps.length c) ps.length (ps.map slU) rfl HT.out ⟨w2.heap.size, 0, none⟩ 1 1 [.slice (some ⟨g2, 0, none⟩) 8 c2] rfl rfl (cell_one_new _ _ _) (by simp [Value.oneCell']) hb63 (by omega) (by simpa using hSz) ?_; intro v5 w5 hown5 hg5 _))
        rw [← E8.out] at hown5
        have R5 : RowsU w5 S v5 (ps ++ [(g2, c2, ys)]) := hR2.more (p := (g2, c2, ys)) o2 HN.out hown5 hg5
        have hgeg : S ≤ g := (World.ownsRow.lt hR2.row g rfl).1
        have hr5 := (hr2.alloc (.cells #[.slice (some ⟨g2, 0, none⟩) 8 c2] 26)).grown (g := g) hg5 (by omega)
        have gg5 := gb_new (g := g) (gb_alloc gg2 (.cells #[.slice (some ⟨g2, 0, none⟩) 8 c2] 26)) hg5 (by rw [← HSS.out]; exact hgeg)
        obtain ⟨g5, c5, rfl⟩ := R5.one (by simp)
        have HP5 : Hid (∀ p ∈ ps ++ [(g2, c2, ys)], p.2.2.length ≤ 8) := Lib.hid (by
          intro p hp
          rcases List.mem_append.1 hp with hp | hp
          · exact HP.out p hp
          · obtain rfl : p = (g2, c2, ys) := by simpa using hp
            exact hy)
        have hlp : (ps ++ [(g2, c2, ys)]).length = ps.length + 1 := by simp
        have HLP := Lib.hid hlp
        clear hown5 hg5 hR2 HT o2 hlp
        go_roundw
        case rel => exact ⟨ps ++ [(g2, c2, ys)], by rw [HLP.out]; omega, ⟨g5, c5, rfl⟩, HP5, R5, hr5.more (by rw [HLP.out]; omega), gg5⟩
        case measure => simp [lenW]; omega
      · have hmb : (m == 0) = false := by simpa using hm
        clear hm
        go_wp2_with fail
        refine (oneTable_any rb (k + 1 + 30 * ps.length + 1) w0 hr0 (by omega)).mono ?_
        rintro e wa ⟨ga, ca, ysa, rfl, hla, hpa, oa, hra, hga⟩
        have hlta := hra.lt
        have hRa := hR0.ask hga hl
        have gga := gg0.trans hga
        have hsa := hga.size
        go_wp2_with fail
        refine (oneTable_any rb (k + 1 + 30 * ps.length + 1 + 3) wa hra (by omega)).mono ?_
        rintro e wb ⟨gb, cb, ysb, rfl, hlb, hpb, ob, hrb, hgb⟩
        have hRb := hRa.ask hgb hl
        have ggb := gga.trans hgb
        have hsb := hgb.size
        have oab : Own wb w0.heap.size (some ⟨ga, 0, none⟩) ca ysa := oa.kept_ (A2 := some ⟨rb, 0, none⟩) hgb (.inr (fun e => by have := Option.some.inj e; have h3 := oa.ge; have h4 : ga = rb := this; have h5 := hg.size; rw [HSS.out] at hl; omega))
        have HJ := Lib.hid (SJoinTables_any (some ⟨ga, 0, none⟩) (some ⟨gb, 0, none⟩) ca cb ysa ysb wb oab.rd ob.rd oab.cap.1 ob.cap.1 (by omega) (by omega))
        have HON := Lib.hid (ones_join hpa hpb)
        have HP2 := Lib.hid hpa.1
        have HP3 := Lib.hid hpb.1
        rw [hla, hlb] at HJ
        clear hpa hpb oa ob oab hga hgb hla hlb hmb hR0 hRa
        go_wp2_with fail
        refine HJ.out.mono ?_
        rintro e w2 ⟨hb4, ⟨_, _, _, g2, c2, rfl, o4⟩ | ⟨hno, _⟩⟩
        · obtain ⟨ys, hys⟩ : ∃ ys, ys = jnT ysa ysb := ⟨_, rfl⟩
          have hy8 : ys.length = 8 := by rw [hys]; exact jnT_len _ _
          rw [← hys] at o4
          have gg2 := ggb.trans (gb_of_below hb4 (some rb))
          have hR2 := hRb.below hb4
          have hr2 := hrb.below hb4
          have HN := Lib.hid (hRb.notIn (Nat.le_refl _) o4)
          have o2 := o4.base (show S ≤ wb.heap.size by omega)
          have hs2 := hb4.size
          clear o4 hys HON HP2 HP3 HJ hRb hb4
          have hy : ys.length ≤ 8 := by omega
          have e8 : slU (g2, c2, ys) = .slice (some ⟨g2, 0, none⟩) 8 c2 := by show Value.slice _ ys.length _ = _; rw [hy8]
          have E8 := Lib.hid e8
          clear hy8
          have HT := Lib.hid (own_len hR2.row ((Below.refl _ w2).alloc (Nat.le_refl _) (.cells #[.slice (some ⟨g2, 0, none⟩) 8 c2] 26)))
          have hb63 : ps.length + 1 ≤ maxLen := by unfold maxLen; omega
          have hSz : S ≤ w2.heap.size + 1 := by omega
          clear e8
          go_wp2_with (at_builtin; (refine wpList_append_own _ rfl _ _ 23 rfl S 26 i0 (.slice none 0 0) 1 24 Try.underlying23 hi hz0 hz1 hz2 rfl (by decide) (.slice (some ⟨g, 0, none⟩) ps.length c) ps.length (ps.map slU) rfl HT.out ⟨w2.heap.size, 0, none⟩ 1 1 [.slice (some ⟨g2, 0, none⟩) 8 c2] rfl rfl (cell_one_new _ _ _) (by simp [Value.oneCell']) hb63 (by omega) (by simpa using hSz) ?_; intro v5 w5 hown5 hg5 _))
          rw [← E8.out] at hown5
          have R5 : RowsU w5 S v5 (ps ++ [(g2, c2, ys)]) := hR2.more (p := (g2, c2, ys)) o2 HN.out hown5 hg5
          have hgeg : S ≤ g := (World.ownsRow.lt hR2.row g rfl).1
          have hr5 := (hr2.alloc (.cells #[.slice (some ⟨g2, 0, none⟩) 8 c2] 26)).grown (g := g) hg5 (by omega)
          have gg5 := gb_new (g := g) (gb_alloc gg2 (.cells #[.slice (some ⟨g2, 0, none⟩) 8 c2] 26)) hg5 (by rw [← HSS.out]; exact hgeg)
          obtain ⟨g5, c5, rfl⟩ := R5.one (by simp)
          have HP5 : Hid (∀ p ∈ ps ++ [(g2, c2, ys)], p.2.2.length ≤ 8) := Lib.hid (by
            intro p hp
            rcases List.mem_append.1 hp with hp | hp
            · exact HP.out p hp
            · obtain rfl : p = (g2, c2, ys) := by simpa using hp
              exact hy)
          have hlp : (ps ++ [(g2, c2, ys)]).length = ps.length + 1 := by simp
          have HLP := Lib.hid hlp
          clear hown5 hg5 hR2 HT o2 hlp
          go_roundw
          case rel => exact ⟨ps ++ [(g2, c2, ys)], by rw [HLP.out]; omega, ⟨g5, c5, rfl⟩, HP5, R5, hr5.more (by rw [HLP.out]; omega), gg5⟩
          case measure => simp [lenW]; omega
        · exact absurd ⟨HP2.out, HP3.out, HON.out⟩ hno
    · go_wp2
      go_ret
      exact ⟨_, ps, rfl, hR.base (by rw [HSS.out]; exact Nat.le_refl _), hps, HP.out, hr.more (by omega), hg⟩

end Go.Proofs.Ytccbjgajmjcpjab

/-
  The laws' helpers for lists of ints: equal, and the sum.
-/
namespace Go.Proofs.Ytccbjgajmjcpjab
open Go.RowKit

theorem take_sumU {xs : List Int} {k : Nat} {x : Int} (hx : xs[k]? = some x) : (xs.take (k + 1)).sum = (xs.take k).sum + x := by
  rw [List.take_add_one, hx]; simp
set_option maxHeartbeats 400000 in
theorem equalU_any (A B : Option Addr) (c d : Nat) (xs ys : List Int) (w : World) (h1 : Rd w A c xs) (h2 : Rd w B d ys) (hl : xs.length ≤ 1099511627776) :
    Calls Try.prog 16 #[.slice A xs.length c, .slice B ys.length d] w (BoolIs w (eqB xs ys)) := by
  by_cases hlen : xs.length = ys.length
  · have he : ((xs.length : Int) != (ys.length : Int)) = false := by simp [hlen]
    have HL := Lib.hid hlen
    have hle : ys.length ≤ xs.length := by omega
    have hle' : xs.length ≤ ys.length := by omega
    clear hlen
    go_enter Try.func16, Try.ntmps16
    go_wp2
    go_loopw [5] (fun i wr => ∃ k n : Nat, k ≤ xs.length ∧ i = .int .i64 k ∧ wr = w.drewN n ∧ Hid (xs.take k = ys.take k))
      (fun i _ => xs.length - (intOf i).toNat)
    case atStart => exact ⟨0, 0, Nat.zero_le _, rfl, rfl, Lib.hid rfl⟩
    case round =>
      obtain ⟨k, n, hk, rfl, rfl, HT⟩ := hrel
      by_cases hlt : k < xs.length
      · obtain ⟨b1, o1, x, rfl, _, hx, hc1⟩ := h1.at_ hlt
        have hlt2 : k < ys.length := by omega
        obtain ⟨b2, o2, y, rfl, _, hy, hc2⟩ := h2.at_ hlt2
        by_cases hxy : x = y
        · subst hxy
          have hne : (x != x) = false := by simp
          have HT' := Lib.hid (take_step hx.out hy.out HT.out)
          go_wp2
          go_quiet (fail)
          go_wp2
          go_roundw
          case rel => exact ⟨k + 1, _, by omega, by go_num, rfl, HT'⟩
          case measure => simp [intOf]; omega
        · have hne : (x != y) = true := by simpa using hxy
          have HE := Lib.hid (eqB_at hx.out hy.out hxy)
          go_wp2
          go_quiet (fail)
          go_wp2
          go_ret
          exact ⟨by rw [HE.out]; rfl, n + nq, World.drewN_drewN _ _ _⟩
      · obtain rfl : k = xs.length := by omega
        have HE := Lib.hid (eqB_all HL.out HT.out)
        go_wp2
        go_ret
        exact ⟨by rw [HE.out]; rfl, _, rfl⟩
  · have he : ((xs.length : Int) != (ys.length : Int)) = true := by simp; omega
    have HE := Lib.hid (eqB_len hlen)
    go_enter Try.func16, Try.ntmps16
    go_wp2
    go_ret
    exact ⟨by rw [HE.out]; rfl, 0, rfl⟩

/-- Numbers none of which is beyond 2 to 31. -/
def Abs2 (xs : List Int) : Prop := ∀ x ∈ xs, -2147483648 ≤ x ∧ x ≤ 2147483647
theorem abs2_sum {xs : List Int} (h : Abs2 xs) (k : Nat) : -2147483648 * (k : Int) ≤ (xs.take k).sum ∧ (xs.take k).sum ≤ 2147483647 * (k : Int) := by
  induction k with
  | zero => simp
  | succ k ih =>
    rw [List.take_add_one, List.sum_append]
    cases hx : xs[k]? with
    | none => simp; omega
    | some x => have := h x (List.mem_of_getElem? hx); simp; omega

end Go.Proofs.Ytccbjgajmjcpjab

/-
  The laws of chapters 4 and 5: what they draw.
-/
namespace Go.Proofs.Ytccbjgajmjcpjab
open Go.RowKit Go.Lib

theorem eight_map {ps : List (Nat × Nat × List Int)} (hl : ps.length ≤ 4) (h : ∀ p ∈ ps, p.2.2.length ≤ 8) : (ps.map (·.2.2)).length ≤ 4 ∧ ∀ r ∈ ps.map (·.2.2), r.length ≤ 8 :=
  ⟨by simpa using hl, fun r hr => by obtain ⟨p, hp, rfl⟩ := List.mem_map.1 hr; exact h p hp⟩
/-- What is drawn: tables. -/
def DrawnTs (w : World) (e : Ending) (w' : World) : Prop :=
  ∃ (A : Option Addr) (c : Nat) (rows : List (List Int)), e = .returned (.slice A rows.length c) ∧ RdR w' A c rows ∧ rows.length ≤ 4 ∧ (∀ r ∈ rows, r.length ≤ 8) ∧ Below w.heap.size w w'

set_option maxRecDepth 100000 in
theorem DrawPivotPays_any (A : Option Addr) (c : Nat) (xs : List Int) (w : World) (h : Came .u8 w A c xs) :
    Calls Try.prog 15 #[.slice A xs.length c] w (DrawnTs w) := by
  go_enter Try.func15, Try.ntmps15
  go_wp2_with fail
  refine (newReader_any A c xs w h).mono ?_
  rintro e w1 ⟨rb, rfl, hrb, hr1, hb1⟩
  go_wp2_with fail
  refine (pick_any rb 0 4 w1 hr1 (by decide) (by decide) (by decide)).mono ?_
  rintro e w2 ⟨m, rfl, hm2, _, hr2, hg2⟩
  have B2 := hb1.trans (gb_below hg2 hb1.size hrb)
  by_cases hm : m = 0
  · have hmb : (m == 0) = true := by simpa using hm
    clear hm
    go_wp2_with fail
    refine (easyTables_any rb 1 w2 hr2 (by decide)).mono ?_
    rintro e w3 ⟨v, ps, rfl, R3, hp4, hp8, hr3, hg3⟩
    have B3 := B2.trans (gb_below hg3 B2.size hrb)
    have H6 := Lib.hid (eight_map hp4 hp8)
    have HLN : Hid (ps.length = (ps.map (·.2.2)).length) := Lib.hid (by rw [List.length_map])
    obtain ⟨A2, c2, rfl, hR3⟩ := R3.rdr rfl
    clear hp8 hg3 R3 hg2 hmb
    go_wp2
    go_ret
    exact ⟨A2, c2, ps.map (·.2.2), by rw [← HLN.out]; rfl, hR3, H6.out.1, H6.out.2, B3⟩
  · have hmb : (m == 0) = false := by simpa using hm
    clear hm
    go_wp2_with fail
    refine (someTables_any rb 1 w2 hr2 (by decide)).mono ?_
    rintro e w3 ⟨v, ps, rfl, R3, hp4, hp8, hr3, hg3⟩
    have B3 := B2.trans (gb_below hg3 B2.size hrb)
    have H6 := Lib.hid (eight_map hp4 hp8)
    have HLN : Hid (ps.length = (ps.map (·.2.2)).length) := Lib.hid (by rw [List.length_map])
    obtain ⟨A2, c2, rfl, hR3⟩ := R3.rdr rfl
    clear hp8 hg3 R3 hg2 hmb
    go_wp2
    go_ret
    exact ⟨A2, c2, ps.map (·.2.2), by rw [← HLN.out]; rfl, hR3, H6.out.1, H6.out.2, B3⟩

end Go.Proofs.Ytccbjgajmjcpjab

/-
  The laws of chapter 4: what they reckon with, and the law of IsModest.
-/
namespace Go.Proofs.Ytccbjgajmjcpjab
open Go.RowKit Go.Lib

theorem Lpower_any (j : Nat) (hj : j ≤ 3) (w : World) :
    Calls Try.prog 90 #[.int .i64 (j : Int)] w fun e w' => e = .returned (.int .i64 ((2 ^ j : Nat) : Int)) ∧ w = w' := by
  go_enter Try.func90, Try.ntmps90
  go_wp2
  go_loop [0, 3] (fun n o => ∃ m : Nat, m ≤ j ∧ n = .int .i64 (m : Int) ∧ o = .int .i64 ((2 ^ (j - m) : Nat) : Int)) (fun n _ => (intOf n).toNat)
  case atStart => exact ⟨j, Nat.le_refl _, rfl, by simp⟩
  case round =>
    obtain ⟨m, hm, rfl, rfl⟩ := hrel
    cases m with
    | zero =>
      go_wp2
      go_ret
      exact ⟨rfl, rfl⟩
    | succ m =>
      have hp : 2 ^ (j - (m + 1)) ≤ 4 := by
        have : j - (m + 1) ≤ 2 := by omega
        calc 2 ^ (j - (m + 1)) ≤ 2 ^ 2 := Nat.pow_le_pow_right (by decide) this
          _ = 4 := rfl
      have he : 2 ^ (j - m) = 2 * 2 ^ (j - (m + 1)) := by rw [show j - m = (j - (m + 1)) + 1 by omega, Nat.pow_succ]; omega
      obtain ⟨q, hq⟩ : ∃ q, q = 2 ^ (j - (m + 1)) := ⟨_, rfl⟩
      rw [← hq] at hp he ⊢
      have HE := Lib.hid he
      have hm' : (0 : Int) < ((m + 1 : Nat) : Int) := by omega
      clear hq he
      go_wp2
      go_round
      case rel => exact ⟨m, by omega, by go_num, by rw [HE.out]; go_num⟩
      case measure => simp [intOf]

theorem Lbit_any (x j : Nat) (hx : x < 8) (hj : j < 3) (w : World) :
    Calls Try.prog 28 #[.int .i64 (x : Int), .int .i64 (j : Int)] w fun e w' => e = .returned (.int .i64 ((x / 2 ^ j % 2 : Nat) : Int)) ∧ w = w' := by
  have HP := Lib.hid (fun w => Lpower_any j (by omega) w)
  have hv : (wrap64 ((x : Int) / ((2 ^ j : Nat) : Int))).tmod 2 = ((x / 2 ^ j % 2 : Nat) : Int) := by
    have : ∀ x, x < 8 → ∀ j, j < 3 → (wrap64 (((x : Nat) : Int) / ((2 ^ j : Nat) : Int))).tmod 2 = ((x / 2 ^ j % 2 : Nat) : Int) := by decide +kernel
    exact this x hx j hj
  obtain ⟨p, hp⟩ : ∃ p, p = 2 ^ j := ⟨_, rfl⟩
  have hp0 : (p : Int) ≠ 0 := by
    have : 0 < 2 ^ j := Nat.pow_pos (by decide)
    omega
  rw [← hp] at HP hv ⊢
  have HV := Lib.hid hv
  clear hv hp
  go_enter Try.func28, Try.ntmps28
  go_wp2_with (go_at_call 90; refine (HP.out _).mono ?_; rintro e w1 ⟨rfl, rfl⟩)
  go_ret
  exact ⟨by rw [← HV.out]; rfl, rfl⟩

/-- What is drawn: a list of numbers. -/
def DrawnT (w : World) (e : Ending) (w' : World) : Prop :=
  ∃ (g c : Nat) (t : List Int), e = .returned (.slice (some ⟨g, 0, none⟩) t.length c) ∧ Rd w' (some ⟨g, 0, none⟩) c t ∧ t.length ≤ 8 ∧ t.length ≤ c ∧ Below w.heap.size w w'
/-- Modest tables are no more than their parts. -/
theorem mod_parts {t : List Int} (h : VT t) (hm : Mod t) {s : Nat} (hs : s < 8) : T t s ≤ ((s / 2 ^ 0 % 2 : Nat) : Int) * T t 1 + ((s / 2 ^ 1 % 2 : Nat) : Int) * T t 2 + ((s / 2 ^ 2 % 2 : Nat) : Int) * T t 4 := by
  have h0 := h.2.1
  have m12 := hm 1 (by omega) 2 (by omega)
  have m14 := hm 1 (by omega) 4 (by omega)
  have m24 := hm 2 (by omega) 4 (by omega)
  have m34 := hm 3 (by omega) 4 (by omega)
  simp only [show (1 ||| 2 : Nat) = 3 by decide, show (1 &&& 2 : Nat) = 0 by decide, show (1 ||| 4 : Nat) = 5 by decide, show (1 &&& 4 : Nat) = 0 by decide, show (2 ||| 4 : Nat) = 6 by decide, show (2 &&& 4 : Nat) = 0 by decide, show (3 ||| 4 : Nat) = 7 by decide, show (3 &&& 4 : Nat) = 0 by decide] at m12 m14 m24 m34
  rcases nat8 hs with rfl | rfl | rfl | rfl | rfl | rfl | rfl | rfl <;> simp <;> omega

/-- What the first j things alone are worth together, of those in the set. -/
def prt (t : List Int) (s : Nat) : Nat → Int
  | 0 => 0
  | j + 1 => prt t s j + ((s / 2 ^ j % 2 : Nat) : Int) * T t (2 ^ j)

theorem prt_bd {t : List Int} (h : ∀ s, s < 8 → 0 ≤ T t s ∧ T t s ≤ 30) {s : Nat} (_hs : s < 8) : ∀ j, j ≤ 3 → 0 ≤ prt t s j ∧ prt t s j ≤ 30 * j := by
  intro j
  induction j with
  | zero => intro _; simp [prt]
  | succ j ih =>
    intro hj
    have h1 := ih (by omega)
    have h2 := h (2 ^ j) (by rcases nat3 (show j < 3 by omega) with rfl | rfl | rfl <;> decide)
    simp only [prt]
    generalize T t (2 ^ j) = v at h2 ⊢
    rcases (show s / 2 ^ j % 2 = 0 ∨ s / 2 ^ j % 2 = 1 by omega) with e | e <;> rw [e]
    · simp only [Int.natCast_zero, Int.zero_mul]; omega
    · simp only [Int.natCast_one, Int.one_mul]; omega

end Go.Proofs.Ytccbjgajmjcpjab
