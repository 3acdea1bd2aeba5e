/-
  Chapter 8: the arguments that are drawn for the laws of pairs.
-/
import Derived.Test.YtkhpheebjkbihaaOp
namespace Go.Proofs.Ytkhpheebjkbihaa
open Go.RowKit

/-- Rows that are drawn. -/
def DrawnM (w : World) (e : Ending) (w' : World) : Prop :=
  ∃ (A : Option Addr) (c : Nat) (rows : List (List Int)), e = .returned (.slice A rows.length c) ∧ RdR w' A c rows ∧ rows.length ≤ 4 ∧ (∀ r ∈ rows, r.length ≤ 6) ∧ Below w.heap.size w w'
theorem marks_of {ps : List (Nat × Nat × List Int)} (hl : ps.length ≤ 4) (h : ∀ p ∈ ps, p.2.2.length ≤ 4) : (ps.map (·.2.2)).length ≤ 4 ∧ ∀ r ∈ ps.map (·.2.2), r.length ≤ 6 :=
  ⟨by simpa using hl, fun r hr => by obtain ⟨p, hp, rfl⟩ := List.mem_map.1 hr; have := h p hp; omega⟩

theorem DrawValidRows_any (A : Option Addr) (c : Nat) (xs : List Int) (w : World) (h : Came .u8 w A c xs) :
    Calls Try.prog 40 #[.slice A xs.length c] w (DrawnM w) := by
  go_enter Try.func40, Try.ntmps40
  go_wp2_with fail
  refine (newReader_any A c xs w h).mono ?_
  rintro e w1 ⟨rb, rfl, hrb, hr1, hb1⟩
  go_wp2_with fail
  refine (pairRows_any rb 0 w1 hr1 (by decide)).mono ?_
  rintro e w2 ⟨v, ps, rfl, R2, hp4, hp6, hr2, hg2⟩
  have B2 := hb1.trans (gb_below hg2 hb1.size hrb)
  obtain ⟨A2, c2, rfl, hR2⟩ := R2.rdr rfl
  have H6 := Lib.hid (marks_of hp4 hp6)
  have HLN : Hid (ps.length = (ps.map (·.2.2)).length) := Lib.hid (by rw [List.length_map])
  clear R2 hp6 hr2 hg2
  go_wp2
  go_ret
  exact ⟨A2, c2, ps.map (·.2.2), by rw [← HLN.out]; rfl, hR2, H6.out.1, H6.out.2, B2⟩

theorem DrawBestPairs_any (A : Option Addr) (c : Nat) (xs : List Int) (w : World) (h : Came .u8 w A c xs) :
    Calls Try.prog 43 #[.slice A xs.length c] w (DrawnM w) := by
  go_enter Try.func43, Try.ntmps43
  go_wp2_with fail
  refine (newReader_any A c xs w h).mono ?_
  rintro e w1 ⟨rb, rfl, hrb, hr1, hb1⟩
  go_wp2_with fail
  refine (pairRows_any rb 0 w1 hr1 (by decide)).mono ?_
  rintro e w2 ⟨v, ps, rfl, R2, hp4, hp6, hr2, hg2⟩
  have B2 := hb1.trans (gb_below hg2 hb1.size hrb)
  obtain ⟨A2, c2, rfl, hR2⟩ := R2.rdr rfl
  have H6 := Lib.hid (marks_of hp4 hp6)
  have HLN : Hid (ps.length = (ps.map (·.2.2)).length) := Lib.hid (by rw [List.length_map])
  clear R2 hp6 hr2 hg2
  go_wp2
  go_ret
  exact ⟨A2, c2, ps.map (·.2.2), by rw [← HLN.out]; rfl, hR2, H6.out.1, H6.out.2, B2⟩

theorem DrawPairPrices_any (A : Option Addr) (c : Nat) (xs : List Int) (w : World) (h : Came .u8 w A c xs) :
    Calls Try.prog 46 #[.slice A xs.length c] w (DrawnM w) := by
  go_enter Try.func46, Try.ntmps46
  go_wp2_with fail
  refine (newReader_any A c xs w h).mono ?_
  rintro e w1 ⟨rb, rfl, hrb, hr1, hb1⟩
  go_wp2_with fail
  refine (pairRows_any rb 0 w1 hr1 (by decide)).mono ?_
  rintro e w2 ⟨v, ps, rfl, R2, hp4, hp6, hr2, hg2⟩
  have B2 := hb1.trans (gb_below hg2 hb1.size hrb)
  obtain ⟨A2, c2, rfl, hR2⟩ := R2.rdr rfl
  have H6 := Lib.hid (marks_of hp4 hp6)
  have HLN : Hid (ps.length = (ps.map (·.2.2)).length) := Lib.hid (by rw [List.length_map])
  clear R2 hp6 hr2 hg2
  go_wp2
  go_ret
  exact ⟨A2, c2, ps.map (·.2.2), by rw [← HLN.out]; rfl, hR2, H6.out.1, H6.out.2, B2⟩

theorem DrawPairPays_any (A : Option Addr) (c : Nat) (xs : List Int) (w : World) (h : Came .u8 w A c xs) :
    Calls Try.prog 52 #[.slice A xs.length c] w (DrawnM w) := by
  go_enter Try.func52, Try.ntmps52
  go_wp2_with fail
  refine (newReader_any A c xs w h).mono ?_
  rintro e w1 ⟨rb, rfl, hrb, hr1, hb1⟩
  go_wp2_with fail
  refine (pairRows_any rb 0 w1 hr1 (by decide)).mono ?_
  rintro e w2 ⟨v, ps, rfl, R2, hp4, hp6, hr2, hg2⟩
  have B2 := hb1.trans (gb_below hg2 hb1.size hrb)
  obtain ⟨A2, c2, rfl, hR2⟩ := R2.rdr rfl
  have H6 := Lib.hid (marks_of hp4 hp6)
  have HLN : Hid (ps.length = (ps.map (·.2.2)).length) := Lib.hid (by rw [List.length_map])
  clear R2 hp6 hr2 hg2
  go_wp2
  go_ret
  exact ⟨A2, c2, ps.map (·.2.2), by rw [← HLN.out]; rfl, hR2, H6.out.1, H6.out.2, B2⟩

theorem DrawMostPairPrices_any (A : Option Addr) (c : Nat) (xs : List Int) (w : World) (h : Came .u8 w A c xs) :
    Calls Try.prog 56 #[.slice A xs.length c] w (DrawnM w) := by
  go_enter Try.func56, Try.ntmps56
  go_wp2_with fail
  refine (newReader_any A c xs w h).mono ?_
  rintro e w1 ⟨rb, rfl, hrb, hr1, hb1⟩
  go_wp2_with fail
  refine (pairRows_any rb 0 w1 hr1 (by decide)).mono ?_
  rintro e w2 ⟨v, ps, rfl, R2, hp4, hp6, hr2, hg2⟩
  have B2 := hb1.trans (gb_below hg2 hb1.size hrb)
  obtain ⟨A2, c2, rfl, hR2⟩ := R2.rdr rfl
  have H6 := Lib.hid (marks_of hp4 hp6)
  have HLN : Hid (ps.length = (ps.map (·.2.2)).length) := Lib.hid (by rw [List.length_map])
  clear R2 hp6 hr2 hg2
  go_wp2
  go_ret
  exact ⟨A2, c2, ps.map (·.2.2), by rw [← HLN.out]; rfl, hR2, H6.out.1, H6.out.2, B2⟩

end Go.Proofs.Ytkhpheebjkbihaa
