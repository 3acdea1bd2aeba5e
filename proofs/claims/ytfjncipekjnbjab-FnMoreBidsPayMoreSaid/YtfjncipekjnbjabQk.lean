/-
  The laws of chapters 4 and 5: what they draw.
-/
import Derived.Test.YtfjncipekjnbjabQj
import Derived.Test.YtfjncipekjnbjabVu
namespace Go.Proofs.Ytfjncipekjnbjab
open Go.RowKit Go.Lib

theorem eight_map {ps : List (Nat × Nat × List Int)} (hl : ps.length ≤ 4) (h : ∀ p ∈ ps, p.2.2.length ≤ 8) : (ps.map (·.2.2)).length ≤ 4 ∧ ∀ r ∈ ps.map (·.2.2), r.length ≤ 8 :=
  ⟨by simpa using hl, fun r hr => by obtain ⟨p, hp, rfl⟩ := List.mem_map.1 hr; exact h p hp⟩
/-- What is drawn: tables. -/
def DrawnTs (w : World) (e : Ending) (w' : World) : Prop :=
  ∃ (A : Option Addr) (c : Nat) (rows : List (List Int)), e = .returned (.slice A rows.length c) ∧ RdR w' A c rows ∧ rows.length ≤ 4 ∧ (∀ r ∈ rows, r.length ≤ 8) ∧ Below w.heap.size w w'

set_option maxRecDepth 100000 in
theorem DrawBroughtIn_any (A : Option Addr) (c : Nat) (xs : List Int) (w : World) (h : Came .u8 w A c xs) :
    Calls Try.prog 39 #[.slice A xs.length c] w (DrawnTs w) := by
  go_enter Try.func39, Try.ntmps39
  go_wp2_with fail
  refine (newReader_any A c xs w h).mono ?_
  rintro e w1 ⟨rb, rfl, hrb, hr1, hb1⟩
  go_wp2_with fail
  refine (pick_any rb 0 4 w1 hr1 (by decide) (by decide) (by decide)).mono ?_
  rintro e w2 ⟨m, rfl, hm2, _, hr2, hg2⟩
  have B2 := hb1.trans (gb_below hg2 hb1.size hrb)
  by_cases hm : m = 0
  · have hmb : (m == 0) = true := by simpa using hm
    clear hm
    go_wp2_with fail
    refine (easyTables_any rb 1 w2 hr2 (by decide)).mono ?_
    rintro e w3 ⟨v, ps, rfl, R3, hp4, hp8, hr3, hg3⟩
    have B3 := B2.trans (gb_below hg3 B2.size hrb)
    have H6 := Lib.hid (eight_map hp4 hp8)
    have HLN : Hid (ps.length = (ps.map (·.2.2)).length) := Lib.hid (by rw [List.length_map])
    obtain ⟨A2, c2, rfl, hR3⟩ := R3.rdr rfl
    clear hp8 hg3 R3 hg2 hmb
    go_wp2
    go_ret
    exact ⟨A2, c2, ps.map (·.2.2), by rw [← HLN.out]; rfl, hR3, H6.out.1, H6.out.2, B3⟩
  · have hmb : (m == 0) = false := by simpa using hm
    clear hm
    go_wp2_with fail
    refine (someTables_any rb 1 w2 hr2 (by decide)).mono ?_
    rintro e w3 ⟨v, ps, rfl, R3, hp4, hp8, hr3, hg3⟩
    have B3 := B2.trans (gb_below hg3 B2.size hrb)
    have H6 := Lib.hid (eight_map hp4 hp8)
    have HLN : Hid (ps.length = (ps.map (·.2.2)).length) := Lib.hid (by rw [List.length_map])
    obtain ⟨A2, c2, rfl, hR3⟩ := R3.rdr rfl
    clear hp8 hg3 R3 hg2 hmb
    go_wp2
    go_ret
    exact ⟨A2, c2, ps.map (·.2.2), by rw [← HLN.out]; rfl, hR3, H6.out.1, H6.out.2, B3⟩

end Go.Proofs.Ytfjncipekjnbjab
