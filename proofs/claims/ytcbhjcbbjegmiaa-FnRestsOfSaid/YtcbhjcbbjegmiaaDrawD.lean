/-
  The generators of the laws: the arguments of LeastToWin, GainOf and BestBid.
-/
import Derived.Test.YtcbhjcbbjegmiaaDrawC
namespace Go.Proofs.Ytcbhjcbbjegmiaa
open Go.RowKit

theorem one_new (rb k n : Nat) (zs : List Int) (cs : Array Value) (w : World) (hcs : (zs.map (Value.int .i64)).toArray = cs) (hn : zs.length = n) (h : Rdr w rb k) (hn1 : 1 ≤ n) (hn2 : n ≤ 1048576) (hk : k ≤ 1000000) :
    Calls Try.prog 53 #[.pointer (some ⟨rb, 0, none⟩), .slice (some ⟨w.heap.size, 0, none⟩) n n] (w.alloc (.cells cs 3)) (OneIs w rb k zs) := by
  subst hcs
  have hl := h.lt
  have ho := own_lit w zs (by omega)
  refine (one_any rb k w.heap.size n n w.heap.size zs _ hn (h.alloc _) (by rw [← hn]; exact ho) (by omega) hn1 hn2 hk).mono ?_
  rintro e w' ⟨x, hx, he, hr, hg⟩
  exact ⟨x, hx, he, hr, (World.grownBy_alloc w _ (some rb)).trans hg⟩

/-- A slice that the generator made stays while the reader is asked. -/
theorem Own.ask {w w' : World} {rb g c B : Nat} {ys : List Int} (ho : Own w B (some ⟨g, 0, none⟩) c ys) (hg : w.grownBy w' (some rb)) (hB : rb < B) : Own w' B (some ⟨g, 0, none⟩) c ys :=
  ho.kept_ (A2 := some ⟨rb, 0, none⟩) hg (.inr (fun e => by have := Option.some.inj e; have h1 := ho.ge; simp at this; omega))

/-- What DrawLeastToWin hands back. -/
def DrawnLeast (w : World) (e : Ending) (w' : World) : Prop :=
  ∃ (A : Option Addr) (c : Nat) (xs : List Int) (i r : Int), e = .returned (.tuple #[.slice A xs.length c, .int .i64 i, .int .i64 r]) ∧ Rd w' A c xs ∧ xs.length ≤ 7 ∧ Below w.heap.size w w'

set_option maxRecDepth 100000 in
theorem DrawLeastToWin_any (A : Option Addr) (c : Nat) (xs : List Int) (w : World) (h : Came .u8 w A c xs) :
    Calls Try.prog 19 #[.slice A xs.length c] w (DrawnLeast w) := by
  go_enter Try.func19, Try.ntmps19
  go_wp2_with fail
  refine (newReader_any A c xs w h).mono ?_
  rintro e w1 ⟨rb, rfl, hrb, hr1, hb1⟩
  go_wp2_with fail
  refine (someBids_any rb 0 w1 hr1 (by decide)).mono ?_
  rintro e w2 ⟨g, c2, ys, rfl, ho, hy, hr2, hg2⟩
  have hlt1 := hr1.lt
  have B2 := hb1.trans (gb_below hg2 hb1.size hrb)
  go_wp2_with fail
  refine (pick_any rb 11 ys.length w2 hr2 (by decide) (by omega) (by omega)).mono ?_
  rintro e w3 ⟨i1, rfl, _, _, hr3, hg3⟩
  go_wp2_with fail
  refine (pick_any rb 12 ys.length w3 hr3 (by decide) (by omega) (by omega)).mono ?_
  rintro e w4 ⟨i2, rfl, _, _, hr4, hg4⟩
  have o4 := (ho.ask hg3 hlt1).ask hg4 hlt1
  have B4 := (B2.trans (gb_below hg3 B2.size hrb)).trans (gb_below hg4 (Nat.le_trans B2.size hg3.size) hrb)
  go_wp2_with fail
  refine (one_new rb 13 5 [i1, i2, 0, ys.length, -1] _ w4 rfl rfl hr4 (by decide) (by decide) (by decide)).mono ?_
  rintro e w5 ⟨i, _, rfl, hr5, hg5⟩
  have o5 := o4.ask hg5 hlt1
  have B5 := B4.trans (gb_below hg5 B4.size hrb)
  go_wp2_with fail
  refine (someReserve_any rb 14 w5 hr5 (by decide)).mono ?_
  rintro e w6 ⟨r, rfl, _, _, hr6, hg6⟩
  have o6 := o5.ask hg6 hlt1
  have B6 := B5.trans (gb_below hg6 B5.size hrb)
  go_wp2
  go_ret3
  exact ⟨_, c2, ys, i, r, rfl, o6.rd, hy, B6⟩

/-- What DrawGainOf hands back. -/
def DrawnGain (w : World) (e : Ending) (w' : World) : Prop :=
  ∃ (s : ByteArray) (A : Option Addr) (c : Nat) (xs : List Int) (i v r : Int), e = .returned (.tuple #[.string s, .slice A xs.length c, .int .i64 i, .int .i64 v, .int .i64 r]) ∧ Rd w' A c xs ∧ xs.length ≤ 7 ∧ Below w.heap.size w w'

theorem results_five {fn : Func} {t u v x y : Tmp} (h : fn.results = #[.tmp t, .tmp u, .tmp v, .tmp x, .tmp y]) (tmps : Array Value) (P : Program) (w : World) :
    (results fn tmps).run P w = .ok (.tuple #[tmps.getD t undef, tmps.getD u undef, tmps.getD v undef, tmps.getD x undef, tmps.getD y undef]) w := by simp [results, h]

set_option maxRecDepth 100000 in
set_option maxHeartbeats 1000000 in
theorem DrawGainOf_any (A : Option Addr) (c : Nat) (xs : List Int) (w : World) (h : Came .u8 w A c xs) :
    Calls Try.prog 22 #[.slice A xs.length c] w (DrawnGain w) := by
  go_enter Try.func22, Try.ntmps22
  go_wp2_with fail
  refine (newReader_any A c xs w h).mono ?_
  rintro e w1 ⟨rb, rfl, hrb, hr1, hb1⟩
  go_wp2_with fail
  refine (someBids_any rb 0 w1 hr1 (by decide)).mono ?_
  rintro e w2 ⟨g, c2, ys, rfl, ho, hy, hr2, hg2⟩
  have hlt1 := hr1.lt
  have B2 := hb1.trans (gb_below hg2 hb1.size hrb)
  go_wp2_with fail
  refine (pick_any rb 11 ys.length w2 hr2 (by decide) (by omega) (by omega)).mono ?_
  rintro e w3 ⟨i, rfl, hi0, _, hr3, hg3⟩
  go_wp2_with fail
  refine (pick_any rb 12 12 w3 hr3 (by decide) (by decide) (by decide)).mono ?_
  rintro e w4 ⟨v, rfl, _, _, hr4, hg4⟩
  have o4 := (ho.ask hg3 hlt1).ask hg4 hlt1
  have B4 := (B2.trans (gb_below hg3 B2.size hrb)).trans (gb_below hg4 (Nat.le_trans B2.size hg3.size) hrb)
  by_cases hil : i < (ys.length : Int)
  · obtain ⟨j0, rfl⟩ := Int.eq_ofNat_of_zero_le hi0
    obtain ⟨i, hi⟩ : ∃ i : Int, i = (j0 : Int) := ⟨_, rfl⟩
    go_wp2_with fail
    refine (pick_any rb 13 2 w4 hr4 (by decide) (by decide) (by decide)).mono ?_
    rintro e w5 ⟨q, rfl, _, _, hr5, hg5⟩
    have o5 := o4.ask hg5 hlt1
    have B5 := B4.trans (gb_below hg5 B4.size hrb)
    by_cases hq : q = 0
    · have hq0 : (q == 0) = true := by simpa using hq
      have hj0 : j0 < ys.length := by omega
      obtain ⟨x, hx⟩ := at_some hj0
      have hcx := o5.cell hx
      clear hx hq
      subst hi
      go_wp2_with fail
      refine (someKind_any rb 14 w5 hr5 (by decide)).mono ?_
      rintro e v1 ⟨s, rfl, _, hs1, gs1⟩
      have p1 := o5.ask gs1 hlt1
      have D1 := B5.trans (gb_below gs1 B5.size hrb)
      go_wp2_with fail
      refine (one_new rb (15) 5 [(j0 : Int), (j0 : Int), (j0 : Int), ys.length, -1] _ v1 rfl rfl hs1 (by decide) (by decide) (by decide)).mono ?_
      rintro e v2 ⟨j, _, rfl, hs2, gs2⟩
      have p2 := p1.ask gs2 hlt1
      have D2 := D1.trans (gb_below gs2 D1.size hrb)
      go_wp2_with fail
      refine (one_new rb (16) 5 [x, x, x, 30, 31] _ v2 rfl rfl hs2 (by decide) (by decide) (by decide)).mono ?_
      rintro e v3 ⟨u, _, rfl, hs3, gs3⟩
      have p3 := p2.ask gs3 hlt1
      have D3 := D2.trans (gb_below gs3 D2.size hrb)
      go_wp2_with fail
      refine (someReserve_any rb (17) v3 hs3 (by decide)).mono ?_
      rintro e v4 ⟨r, rfl, _, _, hs4, gs4⟩
      have p4 := p3.ask gs4 hlt1
      have D4 := D3.trans (gb_below gs4 D3.size hrb)
      go_wp2
      refine bodyPost_ret (results_five rfl _ _ _) rfl ?_
      exact ⟨s, _, c2, ys, j, u, r, rfl, p4.rd, hy, D4⟩
    · have hq0 : (q == 0) = false := by simpa using hq
      clear hq
      subst hi
      go_wp2_with fail
      refine (someKind_any rb 14 w5 hr5 (by decide)).mono ?_
      rintro e v1 ⟨s, rfl, _, hs1, gs1⟩
      have p1 := o5.ask gs1 hlt1
      have D1 := B5.trans (gb_below gs1 B5.size hrb)
      go_wp2_with fail
      refine (one_new rb (15) 5 [(j0 : Int), (j0 : Int), (j0 : Int), ys.length, -1] _ v1 rfl rfl hs1 (by decide) (by decide) (by decide)).mono ?_
      rintro e v2 ⟨j, _, rfl, hs2, gs2⟩
      have p2 := p1.ask gs2 hlt1
      have D2 := D1.trans (gb_below gs2 D1.size hrb)
      go_wp2_with fail
      refine (one_new rb (16) 5 [v, v, v, 30, 31] _ v2 rfl rfl hs2 (by decide) (by decide) (by decide)).mono ?_
      rintro e v3 ⟨u, _, rfl, hs3, gs3⟩
      have p3 := p2.ask gs3 hlt1
      have D3 := D2.trans (gb_below gs3 D2.size hrb)
      go_wp2_with fail
      refine (someReserve_any rb (17) v3 hs3 (by decide)).mono ?_
      rintro e v4 ⟨r, rfl, _, _, hs4, gs4⟩
      have p4 := p3.ask gs4 hlt1
      have D4 := D3.trans (gb_below gs4 D3.size hrb)
      go_wp2
      refine bodyPost_ret (results_five rfl _ _ _) rfl ?_
      exact ⟨s, _, c2, ys, j, u, r, rfl, p4.rd, hy, D4⟩
  · have hil2 : decide (i < (ys.length : Int)) = false := by simpa using hil
    go_wp2_with fail
    refine (someKind_any rb 13 w4 hr4 (by decide)).mono ?_
    rintro e v1 ⟨s, rfl, _, hs1, gs1⟩
    have p1 := o4.ask gs1 hlt1
    have D1 := B4.trans (gb_below gs1 B4.size hrb)
    go_wp2_with fail
    refine (one_new rb (14) 5 [i, i, i, ys.length, -1] _ v1 rfl rfl hs1 (by decide) (by decide) (by decide)).mono ?_
    rintro e v2 ⟨j, _, rfl, hs2, gs2⟩
    have p2 := p1.ask gs2 hlt1
    have D2 := D1.trans (gb_below gs2 D1.size hrb)
    go_wp2_with fail
    refine (one_new rb (15) 5 [v, v, v, 30, 31] _ v2 rfl rfl hs2 (by decide) (by decide) (by decide)).mono ?_
    rintro e v3 ⟨u, _, rfl, hs3, gs3⟩
    have p3 := p2.ask gs3 hlt1
    have D3 := D2.trans (gb_below gs3 D2.size hrb)
    go_wp2_with fail
    refine (someReserve_any rb (16) v3 hs3 (by decide)).mono ?_
    rintro e v4 ⟨r, rfl, _, _, hs4, gs4⟩
    have p4 := p3.ask gs4 hlt1
    have D4 := D3.trans (gb_below gs4 D3.size hrb)
    go_wp2
    refine bodyPost_ret (results_five rfl _ _ _) rfl ?_
    exact ⟨s, _, c2, ys, j, u, r, rfl, p4.rd, hy, D4⟩

set_option maxRecDepth 100000 in
set_option maxHeartbeats 1000000 in
theorem DrawBestBid_any (A : Option Addr) (c : Nat) (xs : List Int) (w : World) (h : Came .u8 w A c xs) :
    Calls Try.prog 25 #[.slice A xs.length c] w (DrawnGain w) := by
  go_enter Try.func25, Try.ntmps25
  go_wp2_with fail
  refine (newReader_any A c xs w h).mono ?_
  rintro e w1 ⟨rb, rfl, hrb, hr1, hb1⟩
  go_wp2_with fail
  refine (someBids_any rb 0 w1 hr1 (by decide)).mono ?_
  rintro e w2 ⟨g, c2, ys, rfl, ho, hy, hr2, hg2⟩
  have hlt1 := hr1.lt
  have B2 := hb1.trans (gb_below hg2 hb1.size hrb)
  go_wp2_with fail
  refine (pick_any rb 11 ys.length w2 hr2 (by decide) (by omega) (by omega)).mono ?_
  rintro e w3 ⟨i, rfl, hi0, _, hr3, hg3⟩
  go_wp2_with fail
  refine (pick_any rb 12 12 w3 hr3 (by decide) (by decide) (by decide)).mono ?_
  rintro e w4 ⟨v, rfl, _, _, hr4, hg4⟩
  have o4 := (ho.ask hg3 hlt1).ask hg4 hlt1
  have B4 := (B2.trans (gb_below hg3 B2.size hrb)).trans (gb_below hg4 (Nat.le_trans B2.size hg3.size) hrb)
  by_cases hil : i < (ys.length : Int)
  · obtain ⟨j0, rfl⟩ := Int.eq_ofNat_of_zero_le hi0
    obtain ⟨i, hi⟩ : ∃ i : Int, i = (j0 : Int) := ⟨_, rfl⟩
    go_wp2_with fail
    refine (pick_any rb 13 2 w4 hr4 (by decide) (by decide) (by decide)).mono ?_
    rintro e w5 ⟨q, rfl, _, _, hr5, hg5⟩
    have o5 := o4.ask hg5 hlt1
    have B5 := B4.trans (gb_below hg5 B4.size hrb)
    by_cases hq : q = 0
    · have hq0 : (q == 0) = true := by simpa using hq
      have hj0 : j0 < ys.length := by omega
      obtain ⟨x, hx⟩ := at_some hj0
      have hcx := o5.cell hx
      clear hx hq
      subst hi
      go_wp2_with fail
      refine (someKind_any rb 14 w5 hr5 (by decide)).mono ?_
      rintro e v1 ⟨s, rfl, _, hs1, gs1⟩
      have p1 := o5.ask gs1 hlt1
      have D1 := B5.trans (gb_below gs1 B5.size hrb)
      go_wp2_with fail
      refine (one_new rb (15) 5 [(j0 : Int), (j0 : Int), (j0 : Int), ys.length, -1] _ v1 rfl rfl hs1 (by decide) (by decide) (by decide)).mono ?_
      rintro e v2 ⟨j, _, rfl, hs2, gs2⟩
      have p2 := p1.ask gs2 hlt1
      have D2 := D1.trans (gb_below gs2 D1.size hrb)
      go_wp2_with fail
      refine (one_new rb (16) 5 [x, x, x, 30, 31] _ v2 rfl rfl hs2 (by decide) (by decide) (by decide)).mono ?_
      rintro e v3 ⟨u, _, rfl, hs3, gs3⟩
      have p3 := p2.ask gs3 hlt1
      have D3 := D2.trans (gb_below gs3 D2.size hrb)
      go_wp2_with fail
      refine (someReserve_any rb (17) v3 hs3 (by decide)).mono ?_
      rintro e v4 ⟨r, rfl, _, _, hs4, gs4⟩
      have p4 := p3.ask gs4 hlt1
      have D4 := D3.trans (gb_below gs4 D3.size hrb)
      go_wp2
      refine bodyPost_ret (results_five rfl _ _ _) rfl ?_
      exact ⟨s, _, c2, ys, j, u, r, rfl, p4.rd, hy, D4⟩
    · have hq0 : (q == 0) = false := by simpa using hq
      clear hq
      subst hi
      go_wp2_with fail
      refine (someKind_any rb 14 w5 hr5 (by decide)).mono ?_
      rintro e v1 ⟨s, rfl, _, hs1, gs1⟩
      have p1 := o5.ask gs1 hlt1
      have D1 := B5.trans (gb_below gs1 B5.size hrb)
      go_wp2_with fail
      refine (one_new rb (15) 5 [(j0 : Int), (j0 : Int), (j0 : Int), ys.length, -1] _ v1 rfl rfl hs1 (by decide) (by decide) (by decide)).mono ?_
      rintro e v2 ⟨j, _, rfl, hs2, gs2⟩
      have p2 := p1.ask gs2 hlt1
      have D2 := D1.trans (gb_below gs2 D1.size hrb)
      go_wp2_with fail
      refine (one_new rb (16) 5 [v, v, v, 30, 31] _ v2 rfl rfl hs2 (by decide) (by decide) (by decide)).mono ?_
      rintro e v3 ⟨u, _, rfl, hs3, gs3⟩
      have p3 := p2.ask gs3 hlt1
      have D3 := D2.trans (gb_below gs3 D2.size hrb)
      go_wp2_with fail
      refine (someReserve_any rb (17) v3 hs3 (by decide)).mono ?_
      rintro e v4 ⟨r, rfl, _, _, hs4, gs4⟩
      have p4 := p3.ask gs4 hlt1
      have D4 := D3.trans (gb_below gs4 D3.size hrb)
      go_wp2
      refine bodyPost_ret (results_five rfl _ _ _) rfl ?_
      exact ⟨s, _, c2, ys, j, u, r, rfl, p4.rd, hy, D4⟩
  · have hil2 : decide (i < (ys.length : Int)) = false := by simpa using hil
    go_wp2_with fail
    refine (someKind_any rb 13 w4 hr4 (by decide)).mono ?_
    rintro e v1 ⟨s, rfl, _, hs1, gs1⟩
    have p1 := o4.ask gs1 hlt1
    have D1 := B4.trans (gb_below gs1 B4.size hrb)
    go_wp2_with fail
    refine (one_new rb (14) 5 [i, i, i, ys.length, -1] _ v1 rfl rfl hs1 (by decide) (by decide) (by decide)).mono ?_
    rintro e v2 ⟨j, _, rfl, hs2, gs2⟩
    have p2 := p1.ask gs2 hlt1
    have D2 := D1.trans (gb_below gs2 D1.size hrb)
    go_wp2_with fail
    refine (one_new rb (15) 5 [v, v, v, 30, 31] _ v2 rfl rfl hs2 (by decide) (by decide) (by decide)).mono ?_
    rintro e v3 ⟨u, _, rfl, hs3, gs3⟩
    have p3 := p2.ask gs3 hlt1
    have D3 := D2.trans (gb_below gs3 D2.size hrb)
    go_wp2_with fail
    refine (someReserve_any rb (16) v3 hs3 (by decide)).mono ?_
    rintro e v4 ⟨r, rfl, _, _, hs4, gs4⟩
    have p4 := p3.ask gs4 hlt1
    have D4 := D3.trans (gb_below gs4 D3.size hrb)
    go_wp2
    refine bodyPost_ret (results_five rfl _ _ _) rfl ?_
    exact ⟨s, _, c2, ys, j, u, r, rfl, p4.rd, hy, D4⟩

end Go.Proofs.Ytcbhjcbbjegmiaa
