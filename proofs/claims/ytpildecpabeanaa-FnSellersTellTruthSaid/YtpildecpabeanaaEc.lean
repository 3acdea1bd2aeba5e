/-
  Chapter 10: the generators of buyers and sellers.
-/
import Derived.Test.YtpildecpabeanaaDrawD
namespace Go.Proofs.Ytpildecpabeanaa
open Go.RowKit

/-- What the generators of two lists hand back. -/
def DrawnTrade (w : World) (e : Ending) (w' : World) : Prop :=
  ∃ (A : Option Addr) (c : Nat) (xs : List Int) (A2 : Option Addr) (c2 : Nat) (ys : List Int), e = .returned (.tuple #[.slice A xs.length c, .slice A2 ys.length c2]) ∧ Rd w' A c xs ∧ Rd w' A2 c2 ys ∧ xs.length ≤ 7 ∧ ys.length ≤ 7 ∧ Below w.heap.size w w'

set_option maxRecDepth 100000 in
theorem DrawTradesOf_any (A : Option Addr) (c : Nat) (xs : List Int) (w : World) (h : Came .u8 w A c xs) :
    Calls Try.prog 14 #[.slice A xs.length c] w (DrawnTrade w) := by
  go_enter Try.func14, Try.ntmps14
  go_wp2_with fail
  refine (newReader_any A c xs w h).mono ?_
  rintro e w1 ⟨rb, rfl, hrb, hr1, hb1⟩
  go_wp2_with fail
  refine (someBids_any rb 0 w1 hr1 (by decide)).mono ?_
  rintro e w2 ⟨g, c2, ys, rfl, ho, hy, hr2, hg2⟩
  have hlt1 := hr1.lt
  have B2 := hb1.trans (gb_below hg2 hb1.size hrb)
  go_wp2_with fail
  refine (someBids_any rb 11 w2 hr2 (by decide)).mono ?_
  rintro e w3 ⟨g3, c3, zs, rfl, ho3, hz, hr3, hg3⟩
  have o3 := ho.ask hg3 hlt1
  have B3 := B2.trans (gb_below hg3 B2.size hrb)
  go_wp2
  go_ret2
  exact ⟨_, c2, ys, _, c3, zs, rfl, o3.rd, ho3.rd, hy, hz, B3⟩

set_option maxRecDepth 100000 in
theorem DrawTradeRange_any (A : Option Addr) (c : Nat) (xs : List Int) (w : World) (h : Came .u8 w A c xs) :
    Calls Try.prog 17 #[.slice A xs.length c] w (DrawnTrade w) := by
  go_enter Try.func17, Try.ntmps17
  go_wp2_with fail
  refine (newReader_any A c xs w h).mono ?_
  rintro e w1 ⟨rb, rfl, hrb, hr1, hb1⟩
  go_wp2_with fail
  refine (someBids_any rb 0 w1 hr1 (by decide)).mono ?_
  rintro e w2 ⟨g, c2, ys, rfl, ho, hy, hr2, hg2⟩
  have hlt1 := hr1.lt
  have B2 := hb1.trans (gb_below hg2 hb1.size hrb)
  go_wp2_with fail
  refine (someBids_any rb 11 w2 hr2 (by decide)).mono ?_
  rintro e w3 ⟨g3, c3, zs, rfl, ho3, hz, hr3, hg3⟩
  have o3 := ho.ask hg3 hlt1
  have B3 := B2.trans (gb_below hg3 B2.size hrb)
  go_wp2
  go_ret2
  exact ⟨_, c2, ys, _, c3, zs, rfl, o3.rd, ho3.rd, hy, hz, B3⟩

set_option maxRecDepth 100000 in
theorem DrawTradeLess_any (A : Option Addr) (c : Nat) (xs : List Int) (w : World) (h : Came .u8 w A c xs) :
    Calls Try.prog 20 #[.slice A xs.length c] w (DrawnTrade w) := by
  go_enter Try.func20, Try.ntmps20
  go_wp2_with fail
  refine (newReader_any A c xs w h).mono ?_
  rintro e w1 ⟨rb, rfl, hrb, hr1, hb1⟩
  go_wp2_with fail
  refine (someBids_any rb 0 w1 hr1 (by decide)).mono ?_
  rintro e w2 ⟨g, c2, ys, rfl, ho, hy, hr2, hg2⟩
  have hlt1 := hr1.lt
  have B2 := hb1.trans (gb_below hg2 hb1.size hrb)
  go_wp2_with fail
  refine (someBids_any rb 11 w2 hr2 (by decide)).mono ?_
  rintro e w3 ⟨g3, c3, zs, rfl, ho3, hz, hr3, hg3⟩
  have o3 := ho.ask hg3 hlt1
  have B3 := B2.trans (gb_below hg3 B2.size hrb)
  go_wp2
  go_ret2
  exact ⟨_, c2, ys, _, c3, zs, rfl, o3.rd, ho3.rd, hy, hz, B3⟩

/-- What DrawTradeGain hands back. -/
def DrawnGainT (w : World) (e : Ending) (w' : World) : Prop :=
  ∃ (A : Option Addr) (c : Nat) (xs : List Int) (A2 : Option Addr) (c2 : Nat) (ys : List Int) (i t : Int), e = .returned (.tuple #[.slice A xs.length c, .slice A2 ys.length c2, .int .i64 i, .int .i64 t]) ∧ Rd w' A c xs ∧ Rd w' A2 c2 ys ∧ xs.length ≤ 7 ∧ ys.length ≤ 7 ∧ Below w.heap.size w w'
theorem results_fourE {fn : Func} {t u v x : Tmp} (h : fn.results = #[.tmp t, .tmp u, .tmp v, .tmp x]) (tmps : Array Value) (P : Program) (w : World) :
    (results fn tmps).run P w = .ok (.tuple #[tmps.getD t undef, tmps.getD u undef, tmps.getD v undef, tmps.getD x undef]) w := by simp [results, h]

set_option maxRecDepth 100000 in
set_option maxHeartbeats 1000000 in
theorem DrawTradeGain_any (A : Option Addr) (c : Nat) (xs : List Int) (w : World) (h : Came .u8 w A c xs) :
    Calls Try.prog 23 #[.slice A xs.length c] w (DrawnGainT w) := by
  go_enter Try.func23, Try.ntmps23
  go_wp2_with fail
  refine (newReader_any A c xs w h).mono ?_
  rintro e w1 ⟨rb, rfl, hrb, hr1, hb1⟩
  go_wp2_with fail
  refine (someBids_any rb 0 w1 hr1 (by decide)).mono ?_
  rintro e w2 ⟨g, c2, ys, rfl, ho, hy, hr2, hg2⟩
  have hlt1 := hr1.lt
  have B2 := hb1.trans (gb_below hg2 hb1.size hrb)
  go_wp2_with fail
  refine (someBids_any rb 11 w2 hr2 (by decide)).mono ?_
  rintro e w3 ⟨g3, c3, zs, rfl, ho3, hz, hr3, hg3⟩
  have o3 := ho.ask hg3 hlt1
  have B3 := B2.trans (gb_below hg3 B2.size hrb)
  go_wp2_with fail
  refine (pick_any rb 22 ys.length w3 hr3 (by decide) (by omega) (by omega)).mono ?_
  rintro e w4 ⟨i1, rfl, _, _, hr4, hg4⟩
  have hlt3 := hr3.lt
  have o4 := o3.ask hg4 hlt1
  have p4 := ho3.ask hg4 hr2.lt
  have B4 := B3.trans (gb_below hg4 B3.size hrb)
  go_wp2_with fail
  refine (pick_any rb 23 ys.length w4 hr4 (by decide) (by omega) (by omega)).mono ?_
  rintro e w5 ⟨i2, rfl, _, _, hr5, hg5⟩
  have o5 := o4.ask hg5 hlt1
  have p5 := p4.ask hg5 hr2.lt
  have B5 := B4.trans (gb_below hg5 B4.size hrb)
  go_wp2_with fail
  refine (one_new rb 24 4 [i1, i2, 0, ys.length] _ w5 rfl rfl hr5 (by decide) (by decide) (by decide)).mono ?_
  rintro e w6 ⟨i, _, rfl, hr6, hg6⟩
  have o6 := o5.ask hg6 hlt1
  have p6 := p5.ask hg6 hr2.lt
  have B6 := B5.trans (gb_below hg6 B5.size hrb)
  go_wp2_with fail
  refine (pick_any rb 25 12 w6 hr6 (by decide) (by omega) (by omega)).mono ?_
  rintro e w7 ⟨t1, rfl, _, _, hr7, hg7⟩
  have o7 := o6.ask hg7 hlt1
  have p7 := p6.ask hg7 hr2.lt
  have B7 := B6.trans (gb_below hg7 B6.size hrb)
  go_wp2_with fail
  refine (pick_any rb 26 12 w7 hr7 (by decide) (by omega) (by omega)).mono ?_
  rintro e w8 ⟨t2, rfl, _, _, hr8, hg8⟩
  have o8 := o7.ask hg8 hlt1
  have p8 := p7.ask hg8 hr2.lt
  have B8 := B7.trans (gb_below hg8 B7.size hrb)
  go_wp2_with fail
  refine (one_new rb 27 5 [t1, t2, 0, 30, 31] _ w8 rfl rfl hr8 (by decide) (by decide) (by decide)).mono ?_
  rintro e w9 ⟨t, _, rfl, hr9, hg9⟩
  have o9 := o8.ask hg9 hlt1
  have p9 := p8.ask hg9 hr2.lt
  have B9 := B8.trans (gb_below hg9 B8.size hrb)
  go_wp2
  refine bodyPost_ret (results_fourE rfl _ _ _) rfl ?_
  exact ⟨_, c2, ys, _, c3, zs, i, t, rfl, o9.rd, p9.rd, hy, hz, B9⟩

end Go.Proofs.Ytpildecpabeanaa
