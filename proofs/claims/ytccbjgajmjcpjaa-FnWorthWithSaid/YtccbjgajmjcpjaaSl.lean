/-
  The laws of chapter 9: what they draw.
-/
import Derived.Test.YtccbjgajmjcpjaaQk
import Derived.Test.YtccbjgajmjcpjaaQh
import Derived.Test.YtccbjgajmjcpjaaGO
namespace Go.Proofs.Ytccbjgajmjcpjaa
open Go.RowKit Go.Lib

set_option maxRecDepth 100000 in
theorem DrawIsNested_any (A : Option Addr) (c : Nat) (xs : List Int) (w : World) (h : Came .u8 w A c xs) :
    Calls Try.prog 62 #[.slice A xs.length c] w (DrawnTs w) := by
  go_enter Try.func62, Try.ntmps62
  go_wp2_with fail
  refine (newReader_any A c xs w h).mono ?_
  rintro e w1 ⟨rb, rfl, hrb, hr1, hb1⟩
  go_wp2_with fail
  refine (pick_any rb 0 4 w1 hr1 (by decide) (by decide) (by decide)).mono ?_
  rintro e w2 ⟨m, rfl, hm2, _, hr2, hg2⟩
  have B2 := hb1.trans (gb_below hg2 hb1.size hrb)
  by_cases hm : m = 0
  · have hmb : (m == 0) = true := by simpa using hm
    clear hm
    go_wp2_with fail
    refine (easyTables_any rb 1 w2 hr2 (by decide)).mono ?_
    rintro e w3 ⟨v, ps, rfl, R3, hp4, hp8, hr3, hg3⟩
    have B3 := B2.trans (gb_below hg3 B2.size hrb)
    have H6 := Lib.hid (eight_map hp4 hp8)
    have HLN : Hid (ps.length = (ps.map (·.2.2)).length) := Lib.hid (by rw [List.length_map])
    obtain ⟨A2, c2, rfl, hR3⟩ := R3.rdr rfl
    clear hp8 hg3 R3 hg2 hmb
    go_wp2
    go_ret
    exact ⟨A2, c2, ps.map (·.2.2), by rw [← HLN.out]; rfl, hR3, H6.out.1, H6.out.2, B3⟩
  · have hmb : (m == 0) = false := by simpa using hm
    clear hm
    go_wp2_with fail
    refine (someTables_any rb 1 w2 hr2 (by decide)).mono ?_
    rintro e w3 ⟨v, ps, rfl, R3, hp4, hp8, hr3, hg3⟩
    have B3 := B2.trans (gb_below hg3 B2.size hrb)
    have H6 := Lib.hid (eight_map hp4 hp8)
    have HLN : Hid (ps.length = (ps.map (·.2.2)).length) := Lib.hid (by rw [List.length_map])
    obtain ⟨A2, c2, rfl, hR3⟩ := R3.rdr rfl
    clear hp8 hg3 R3 hg2 hmb
    go_wp2
    go_ret
    exact ⟨A2, c2, ps.map (·.2.2), by rw [← HLN.out]; rfl, hR3, H6.out.1, H6.out.2, B3⟩

/-- What is drawn: tables and a set of bidders. -/
def DrawnW (w : World) (e : Ending) (w' : World) : Prop :=
  ∃ (A : Option Addr) (c : Nat) (rows : List (List Int)) (n : Int), e = .returned (.tuple #[.slice A rows.length c, .int .i64 n]) ∧ RdR w' A c rows ∧ rows.length ≤ 4 ∧ (∀ r ∈ rows, r.length ≤ 8) ∧ -1 ≤ n ∧ n ≤ 16 ∧ Below w.heap.size w w'

set_option maxRecDepth 100000 in
theorem DrawWorthWith_any (A : Option Addr) (c : Nat) (xs : List Int) (w : World) (h : Came .u8 w A c xs) :
    Calls Try.prog 51 #[.slice A xs.length c] w (DrawnW w) := by
  go_enter Try.func51, Try.ntmps51
  go_wp2_with fail
  refine (newReader_any A c xs w h).mono ?_
  rintro e w1 ⟨rb, rfl, hrb, hr1, hb1⟩
  go_wp2_with fail
  refine (someTables_any rb 0 w1 hr1 (by decide)).mono ?_
  rintro e w2 ⟨v, ps, rfl, R2, hp4, hp6, hr2, hg2⟩
  have B2 := hb1.trans (gb_below hg2 hb1.size hrb)
  have H6 := Lib.hid (eight_of hp4 hp6)
  have HLN : Hid (ps.length = (ps.map (·.2.2)).length) := Lib.hid (by rw [List.length_map])
  have hlt1 := hr1.lt
  obtain ⟨n, hn⟩ : ∃ n, n = ps.length := ⟨_, rfl⟩
  have HP := Lib.hid (fun w1 => Spow4_any n (by omega) w1)
  have hp16 : 1 ≤ 2 ^ n ∧ 2 ^ n ≤ 16 := ⟨Nat.pow_pos (by omega), Nat.pow_le_pow_right (n := 2) (by omega) (show n ≤ 4 by omega)⟩
  obtain ⟨P, hP⟩ : ∃ P, P = 2 ^ n := ⟨_, rfl⟩
  rw [← hP] at HP hp16
  obtain ⟨A2, c2, hv, _⟩ := R2.rdr rfl
  have HV := Lib.hid hv
  rw [show (ps.map (·.2.2)).length = n by rw [List.length_map, hn]] at hv
  subst hv
  have HN := Lib.hid hn
  have e1 : IntKind.i64.wrap ((P : Int) - 1) = (P : Int) - 1 := IntWalk.i64_in _ (by omega)
  clear hp6 hg2 hn hP
  go_wp2_with fail
  refine (HP.out _).mono ?_
  rintro e w3 ⟨rfl, rfl⟩
  go_wp2_with fail
  refine (pick_any rb 170 P w2 hr2 (by decide) (by omega) (by omega)).mono ?_
  rintro e w4 ⟨m1, rfl, hm0, hm1, hr4, hg4⟩
  have R4 := R2.ask hg4 hlt1
  have B4 := B2.trans (gb_below hg4 B2.size hrb)
  clear R2 hg4
  go_wp2_with fail
  refine (HP.out _).mono ?_
  rintro e w5 ⟨rfl, rfl⟩
  go_wp2_with fail
  refine (pick_any rb _ P w4 hr4 (by decide) (by omega) (by omega)).mono ?_
  rintro e w6 ⟨m2, rfl, hm20, hm21, hr6, hg6⟩
  have R6 := R4.ask hg6 hlt1
  have B6 := B4.trans (gb_below hg6 B4.size hrb)
  clear R4 hg6
  go_wp2_with fail
  refine (HP.out _).mono ?_
  rintro e w7 ⟨rfl, rfl⟩
  go_wp2_with fail
  refine (HP.out _).mono ?_
  rintro e w8 ⟨rfl, rfl⟩
  go_wp2_with fail
  refine (one_new rb _ 6 [m1, m2, 0, (P : Int) - 1, P, -1] _ w6 rfl rfl hr6 (by decide) (by decide) (by decide)).mono ?_
  rintro e w9 ⟨x, hx, rfl, hr9, hg9⟩
  have hx0 : -1 ≤ x := by simp only [List.mem_cons, List.not_mem_nil, or_false] at hx; omega
  have hx1 : x ≤ 16 := by simp only [List.mem_cons, List.not_mem_nil, or_false] at hx; omega
  have R9 := R6.ask hg9 hlt1
  have B9 := B6.trans (gb_below hg9 B6.size hrb)
  obtain ⟨A9, c9, hv9, hR9⟩ := R9.rdr rfl
  rw [show (ps.map (·.2.2)).length = n by rw [List.length_map, HN.out]] at hv9
  cases hv9
  clear R6 R9 hg9 hx hr9
  go_wp2
  go_ret2
  exact ⟨A2, c2, ps.map (·.2.2), x, by rw [← HLN.out, ← HN.out]; rfl, hR9, H6.out.1, H6.out.2, hx0, hx1, B9⟩

end Go.Proofs.Ytccbjgajmjcpjaa
