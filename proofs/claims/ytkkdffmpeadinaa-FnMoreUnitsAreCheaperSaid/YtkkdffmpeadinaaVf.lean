/-
  The generators of the laws of chapter 3: the arguments of each function.
-/
import Derived.Test.YtkkdffmpeadinaaVe
namespace Go.Proofs.Ytkkdffmpeadinaa
open Go.RowKit

/-- What the generators hand back: demands; with a number of units; with a bidder and a row too. -/
def DrawnR (w : World) (e : Ending) (w' : World) : Prop :=
  ∃ (A : Option Addr) (c : Nat) (rows : List (List Int)), e = .returned (.slice A rows.length c) ∧ RdR w' A c rows ∧ rows.length ≤ 4 ∧ (∀ r ∈ rows, r.length ≤ 6) ∧ Below w.heap.size w w'
def DrawnR1 (w : World) (e : Ending) (w' : World) : Prop :=
  ∃ (A : Option Addr) (c : Nat) (rows : List (List Int)) (n : Int), e = .returned (.tuple #[.slice A rows.length c, .int .i64 n]) ∧ RdR w' A c rows ∧ rows.length ≤ 4 ∧ (∀ r ∈ rows, r.length ≤ 6) ∧ -1 ≤ n ∧ n ≤ 6 ∧ Below w.heap.size w w'
def DrawnR4 (w : World) (e : Ending) (w' : World) : Prop :=
  ∃ (A : Option Addr) (c : Nat) (rows : List (List Int)) (n i : Int) (T : Option Addr) (d : Nat) (told : List Int), e = .returned (.tuple #[.slice A rows.length c, .int .i64 n, .int .i64 i, .slice T told.length d]) ∧ RdR w' A c rows ∧ rows.length ≤ 4 ∧ (∀ r ∈ rows, r.length ≤ 6) ∧
    Rd w' T d told ∧ told.length ≤ d ∧ told.length ≤ 6 ∧ -1 ≤ n ∧ n ≤ 6 ∧ 0 ≤ i ∧ i ≤ 4 ∧ Below w.heap.size w w'

theorem rows_of {ps : List (Nat × Nat × List Int)} (hl : ps.length ≤ 4) (h : ∀ p ∈ ps, p.2.2.length ≤ 6) : (ps.map (·.2.2)).length ≤ 4 ∧ ∀ r ∈ ps.map (·.2.2), r.length ≤ 6 :=
  ⟨by simpa using hl, fun r hr => by obtain ⟨p, hp, rfl⟩ := List.mem_map.1 hr; exact h p hp⟩

theorem DrawValidDemands_any (A : Option Addr) (c : Nat) (xs : List Int) (w : World) (h : Came .u8 w A c xs) :
    Calls Try.prog 15 #[.slice A xs.length c] w (DrawnR w) := by
  go_enter Try.func15, Try.ntmps15
  go_wp2_with fail
  refine (newReader_any A c xs w h).mono ?_
  rintro e w1 ⟨rb, rfl, hrb, hr1, hb1⟩
  go_wp2_with fail
  refine (someDemands_any rb 0 w1 hr1 (by decide)).mono ?_
  rintro e w2 ⟨v, ps, rfl, R2, hp4, hp6, hr2, hg2⟩
  have B2 := hb1.trans (gb_below hg2 hb1.size hrb)
  obtain ⟨A2, c2, rfl, hR2⟩ := R2.rdr rfl
  have H6 := Lib.hid (rows_of hp4 hp6)
  have HLN : Hid (ps.length = (ps.map (·.2.2)).length) := Lib.hid (by rw [List.length_map])
  clear R2 hp6 hr2 hg2
  go_wp2
  go_ret
  exact ⟨A2, c2, ps.map (·.2.2), by rw [← HLN.out]; rfl, hR2, H6.out.1, H6.out.2, B2⟩

set_option maxRecDepth 100000 in
theorem DrawAwardUnits_any (A : Option Addr) (c : Nat) (xs : List Int) (w : World) (h : Came .u8 w A c xs) :
    Calls Try.prog 18 #[.slice A xs.length c] w (DrawnR1 w) := by
  go_enter Try.func18, Try.ntmps18
  go_wp2_with fail
  refine (newReader_any A c xs w h).mono ?_
  rintro e w1 ⟨rb, rfl, hrb, hr1, hb1⟩
  go_wp2_with fail
  refine (someDemands_any rb 0 w1 hr1 (by decide)).mono ?_
  rintro e w2 ⟨v, ps, rfl, R2, hp4, hp6, hr2, hg2⟩
  have B2 := hb1.trans (gb_below hg2 hb1.size hrb)
  have H6 := Lib.hid (rows_of hp4 hp6)
  have HLN : Hid (ps.length = (ps.map (·.2.2)).length) := Lib.hid (by rw [List.length_map])
  have hlt1 := hr1.lt
  clear hp6 hg2
  go_wp2_with fail
  refine (one_new rb 40 8 [3, 2, 4, 1, 5, 0, 6, -1] _ w2 rfl rfl hr2 (by decide) (by decide) (by decide)).mono ?_
  rintro e w3 ⟨n, hn, rfl, hr3, hg3⟩
  have hn0 : -1 ≤ n := by simp only [List.mem_cons, List.not_mem_nil, or_false] at hn; omega
  have hn1 : n ≤ 6 := by simp only [List.mem_cons, List.not_mem_nil, or_false] at hn; omega
  have R3 := R2.ask hg3 hlt1
  have B3 := B2.trans (gb_below hg3 B2.size hrb)
  obtain ⟨A2, c2, rfl, hR3⟩ := R3.rdr rfl
  clear R2 R3 hg3 hn hr3
  go_wp2
  go_ret2
  exact ⟨A2, c2, ps.map (·.2.2), n, by rw [← HLN.out]; rfl, hR3, H6.out.1, H6.out.2, hn0, hn1, B3⟩

set_option maxRecDepth 100000 in
theorem DrawWorthOf_any (A : Option Addr) (c : Nat) (xs : List Int) (w : World) (h : Came .u8 w A c xs) :
    Calls Try.prog 24 #[.slice A xs.length c] w (DrawnR1 w) := by
  go_enter Try.func24, Try.ntmps24
  go_wp2_with fail
  refine (newReader_any A c xs w h).mono ?_
  rintro e w1 ⟨rb, rfl, hrb, hr1, hb1⟩
  go_wp2_with fail
  refine (someDemands_any rb 0 w1 hr1 (by decide)).mono ?_
  rintro e w2 ⟨v, ps, rfl, R2, hp4, hp6, hr2, hg2⟩
  have B2 := hb1.trans (gb_below hg2 hb1.size hrb)
  have H6 := Lib.hid (rows_of hp4 hp6)
  have HLN : Hid (ps.length = (ps.map (·.2.2)).length) := Lib.hid (by rw [List.length_map])
  have hlt1 := hr1.lt
  clear hp6 hg2
  go_wp2_with fail
  refine (one_new rb 40 8 [3, 2, 4, 1, 5, 0, 6, -1] _ w2 rfl rfl hr2 (by decide) (by decide) (by decide)).mono ?_
  rintro e w3 ⟨n, hn, rfl, hr3, hg3⟩
  have hn0 : -1 ≤ n := by simp only [List.mem_cons, List.not_mem_nil, or_false] at hn; omega
  have hn1 : n ≤ 6 := by simp only [List.mem_cons, List.not_mem_nil, or_false] at hn; omega
  have R3 := R2.ask hg3 hlt1
  have B3 := B2.trans (gb_below hg3 B2.size hrb)
  obtain ⟨A2, c2, rfl, hR3⟩ := R3.rdr rfl
  clear R2 R3 hg3 hn hr3
  go_wp2
  go_ret2
  exact ⟨A2, c2, ps.map (·.2.2), n, by rw [← HLN.out]; rfl, hR3, H6.out.1, H6.out.2, hn0, hn1, B3⟩

set_option maxRecDepth 100000 in
theorem DrawOnePrice_any (A : Option Addr) (c : Nat) (xs : List Int) (w : World) (h : Came .u8 w A c xs) :
    Calls Try.prog 36 #[.slice A xs.length c] w (DrawnR1 w) := by
  go_enter Try.func36, Try.ntmps36
  go_wp2_with fail
  refine (newReader_any A c xs w h).mono ?_
  rintro e w1 ⟨rb, rfl, hrb, hr1, hb1⟩
  go_wp2_with fail
  refine (someDemands_any rb 0 w1 hr1 (by decide)).mono ?_
  rintro e w2 ⟨v, ps, rfl, R2, hp4, hp6, hr2, hg2⟩
  have B2 := hb1.trans (gb_below hg2 hb1.size hrb)
  have H6 := Lib.hid (rows_of hp4 hp6)
  have HLN : Hid (ps.length = (ps.map (·.2.2)).length) := Lib.hid (by rw [List.length_map])
  have hlt1 := hr1.lt
  clear hp6 hg2
  go_wp2_with fail
  refine (one_new rb 40 8 [3, 2, 4, 1, 5, 0, 6, -1] _ w2 rfl rfl hr2 (by decide) (by decide) (by decide)).mono ?_
  rintro e w3 ⟨n, hn, rfl, hr3, hg3⟩
  have hn0 : -1 ≤ n := by simp only [List.mem_cons, List.not_mem_nil, or_false] at hn; omega
  have hn1 : n ≤ 6 := by simp only [List.mem_cons, List.not_mem_nil, or_false] at hn; omega
  have R3 := R2.ask hg3 hlt1
  have B3 := B2.trans (gb_below hg3 B2.size hrb)
  obtain ⟨A2, c2, rfl, hR3⟩ := R3.rdr rfl
  clear R2 R3 hg3 hn hr3
  go_wp2
  go_ret2
  exact ⟨A2, c2, ps.map (·.2.2), n, by rw [← HLN.out]; rfl, hR3, H6.out.1, H6.out.2, hn0, hn1, B3⟩

set_option maxRecDepth 100000 in
theorem DrawPushedUnits_any (A : Option Addr) (c : Nat) (xs : List Int) (w : World) (h : Came .u8 w A c xs) :
    Calls Try.prog 27 #[.slice A xs.length c] w (DrawnR1 w) := by
  go_enter Try.func27, Try.ntmps27
  go_wp2_with fail
  refine (newReader_any A c xs w h).mono ?_
  rintro e w1 ⟨rb, rfl, hrb, hr1, hb1⟩
  go_wp2_with fail
  refine (someDemands_any rb 0 w1 hr1 (by decide)).mono ?_
  rintro e w2 ⟨v, ps, rfl, R2, hp4, hp6, hr2, hg2⟩
  have B2 := hb1.trans (gb_below hg2 hb1.size hrb)
  have H6 := Lib.hid (rows_of hp4 hp6)
  have HLN : Hid (ps.length = (ps.map (·.2.2)).length) := Lib.hid (by rw [List.length_map])
  have hlt1 := hr1.lt
  clear hp6 hg2
  go_wp2_with fail
  refine (one_new rb 40 8 [3, 2, 4, 1, 5, 0, 6, -1] _ w2 rfl rfl hr2 (by decide) (by decide) (by decide)).mono ?_
  rintro e w3 ⟨n, hn, rfl, hr3, hg3⟩
  have hn0 : -1 ≤ n := by simp only [List.mem_cons, List.not_mem_nil, or_false] at hn; omega
  have hn1 : n ≤ 6 := by simp only [List.mem_cons, List.not_mem_nil, or_false] at hn; omega
  have R3 := R2.ask hg3 hlt1
  have B3 := B2.trans (gb_below hg3 B2.size hrb)
  obtain ⟨A2, c2, rfl, hR3⟩ := R3.rdr rfl
  clear R2 R3 hg3 hn hr3
  go_wp2
  go_ret2
  exact ⟨A2, c2, ps.map (·.2.2), n, by rw [← HLN.out]; rfl, hR3, H6.out.1, H6.out.2, hn0, hn1, B3⟩

set_option maxRecDepth 100000 in
theorem DrawEachUnits_any (A : Option Addr) (c : Nat) (xs : List Int) (w : World) (h : Came .u8 w A c xs) :
    Calls Try.prog 30 #[.slice A xs.length c] w (DrawnR1 w) := by
  go_enter Try.func30, Try.ntmps30
  go_wp2_with fail
  refine (newReader_any A c xs w h).mono ?_
  rintro e w1 ⟨rb, rfl, hrb, hr1, hb1⟩
  go_wp2_with fail
  refine (someDemands_any rb 0 w1 hr1 (by decide)).mono ?_
  rintro e w2 ⟨v, ps, rfl, R2, hp4, hp6, hr2, hg2⟩
  have B2 := hb1.trans (gb_below hg2 hb1.size hrb)
  have H6 := Lib.hid (rows_of hp4 hp6)
  have HLN : Hid (ps.length = (ps.map (·.2.2)).length) := Lib.hid (by rw [List.length_map])
  have hlt1 := hr1.lt
  clear hp6 hg2
  go_wp2_with fail
  refine (one_new rb 40 8 [3, 2, 4, 1, 5, 0, 6, -1] _ w2 rfl rfl hr2 (by decide) (by decide) (by decide)).mono ?_
  rintro e w3 ⟨n, hn, rfl, hr3, hg3⟩
  have hn0 : -1 ≤ n := by simp only [List.mem_cons, List.not_mem_nil, or_false] at hn; omega
  have hn1 : n ≤ 6 := by simp only [List.mem_cons, List.not_mem_nil, or_false] at hn; omega
  have R3 := R2.ask hg3 hlt1
  have B3 := B2.trans (gb_below hg3 B2.size hrb)
  obtain ⟨A2, c2, rfl, hR3⟩ := R3.rdr rfl
  clear R2 R3 hg3 hn hr3
  go_wp2
  go_ret2
  exact ⟨A2, c2, ps.map (·.2.2), n, by rw [← HLN.out]; rfl, hR3, H6.out.1, H6.out.2, hn0, hn1, B3⟩

theorem results_fourU {fn : Func} {t u v x : Tmp} (h : fn.results = #[.tmp t, .tmp u, .tmp v, .tmp x]) (tmps : Array Value) (P : Program) (w : World) :
    (results fn tmps).run P w = .ok (.tuple #[tmps.getD t undef, tmps.getD u undef, tmps.getD v undef, tmps.getD x undef]) w := by simp [results, h]

set_option maxRecDepth 100000 in
set_option maxHeartbeats 1000000 in
theorem DrawGainUnits_any (A : Option Addr) (c : Nat) (xs : List Int) (w : World) (h : Came .u8 w A c xs) :
    Calls Try.prog 33 #[.slice A xs.length c] w (DrawnR4 w) := by
  go_enter Try.func33, Try.ntmps33
  go_wp2_with fail
  refine (newReader_any A c xs w h).mono ?_
  rintro e w1 ⟨rb, rfl, hrb, hr1, hb1⟩
  go_wp2_with fail
  refine (someDemands_any rb 0 w1 hr1 (by decide)).mono ?_
  rintro e w2 ⟨v, ps, rfl, R2, hp4, hp6, hr2, hg2⟩
  have B2 := hb1.trans (gb_below hg2 hb1.size hrb)
  have H6 := Lib.hid (rows_of hp4 hp6)
  have HLN : Hid (ps.length = (ps.map (·.2.2)).length) := Lib.hid (by rw [List.length_map])
  have hlt1 := hr1.lt
  obtain ⟨A2, c2, hv, hcc⟩ : ∃ A2 c2, v = .slice A2 ps.length c2 ∧ True := by
    obtain ⟨A2, c2, hv, _⟩ := R2.rdr rfl
    exact ⟨A2, c2, by rw [hv, List.length_map], trivial⟩
  subst hv
  clear hp6 hg2 hcc
  go_wp2_with fail
  refine (one_new rb 40 7 [3, 2, 4, 1, 5, 0, 6] _ w2 rfl rfl hr2 (by decide) (by decide) (by decide)).mono ?_
  rintro e w3 ⟨n, hn, rfl, hr3, hg3⟩
  have hn0 : -1 ≤ n := by simp only [List.mem_cons, List.not_mem_nil, or_false] at hn; omega
  have hn1 : n ≤ 6 := by simp only [List.mem_cons, List.not_mem_nil, or_false] at hn; omega
  have R3 := R2.ask hg3 hlt1
  have B3 := B2.trans (gb_below hg3 B2.size hrb)
  clear R2 hg3 hn hr2 B2
  go_wp2_with fail
  refine (pick_any rb 41 ps.length w3 hr3 (by decide) (by omega) (by omega)).mono ?_
  rintro e w4 ⟨i1, rfl, hi10, hi11, hr4, hg4⟩
  have R4 := R3.ask hg4 hlt1
  have B4 := B3.trans (gb_below hg4 B3.size hrb)
  clear R3 hg4 hr3 B3
  go_wp2_with fail
  refine (pick_any rb 42 ps.length w4 hr4 (by decide) (by omega) (by omega)).mono ?_
  rintro e w5 ⟨i2, rfl, hi20, hi21, hr5, hg5⟩
  have R5 := R4.ask hg5 hlt1
  have B5 := B4.trans (gb_below hg5 B4.size hrb)
  clear R4 hg5 hr4 B4
  go_wp2_with fail
  refine (one_new rb 43 4 [i1, i2, 0, ps.length] _ w5 rfl rfl hr5 (by decide) (by decide) (by decide)).mono ?_
  rintro e w6 ⟨i, hi, rfl, hr6, hg6⟩
  have hi0 : 0 ≤ i := by simp only [List.mem_cons, List.not_mem_nil, or_false] at hi; omega
  have hi1 : i ≤ 4 := by simp only [List.mem_cons, List.not_mem_nil, or_false] at hi; omega
  have R6 := R5.ask hg6 hlt1
  have B6 := B5.trans (gb_below hg6 B5.size hrb)
  clear R5 hg6 hr5 B5 hi
  go_wp2_with fail
  refine (demandRow_any rb 44 w6 hr6 (by decide)).mono ?_
  rintro e w7 ⟨g7, c7, told, rfl, o7, ht7, hr7, hg7⟩
  have R7 := R6.ask hg7 hlt1
  have B7 := B6.trans (gb_below hg7 B6.size hrb)
  obtain ⟨A8, c8, hv8, hR7⟩ := R7.rdr rfl
  rw [List.length_map] at hv8
  injection hv8 with e1 _ e3
  subst e1 e3
  have HO7 := Lib.hid o7
  have ht6 : told.length ≤ 6 := by omega
  clear R6 R7 hg7 hr7 B6 o7
  go_wp2
  refine bodyPost_ret (results_fourU rfl _ _ _) rfl ?_
  exact ⟨A2, c2, ps.map (·.2.2), n, i, _, c7, told, by rw [← HLN.out]; rfl, hR7, H6.out.1, H6.out.2, HO7.out.rd, HO7.out.cap.1, ht6, hn0, hn1, hi0, hi1, B7⟩

end Go.Proofs.Ytkkdffmpeadinaa
