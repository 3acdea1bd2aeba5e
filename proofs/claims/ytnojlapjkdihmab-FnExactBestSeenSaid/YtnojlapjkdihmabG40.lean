/-
  Chapter 11: BestSeen of the program and of the model.
-/
import Derived.Test.YtnojlapjkdihmabHp
import Derived.Test.YtnojlapjkdihmabG07
import Derived.Test.YtnojlapjkdihmabCj
namespace Go.Proofs.Ytnojlapjkdihmab
open Go.RowKit

theorem stV_parts (b : Bool) (q : Rat) : ∃ x y v, stV b q = .tuple #[frV x y, .bool v] := by
  cases b with
  | false => exact ⟨0, 0, false, rfl⟩
  | true => exact ⟨q.num, q.den, true, rfl⟩
theorem BestSeen_both (rows : List (List Int)) : ∃ x y v, rows.length ≤ 1099511627776 → (∀ r ∈ rows, r.length ≤ 1099511627776) →
    (∀ A c w, RdR w A c rows → Calls Try.prog 16 #[.slice A rows.length c] w fun e w' => e = .returned (.tuple #[frV x y, .bool v]) ∧ Below w.heap.size w w') ∧
    (∀ A c w, RdR w A c rows → Calls Try.prog 17 #[.slice A rows.length c] w fun e w' => e = .returned (.tuple #[frV x y, .bool v]) ∧ Below w.heap.size w w') := by
  obtain ⟨x, y, v, h⟩ := stV_parts (vsB rows) (fq (seenN rows) (waysL rows))
  exact ⟨x, y, v, fun h1 h2 => ⟨fun A c w hR => by have := SBestSeen_any A c rows w hR h1 h2; rwa [h] at this, fun A c w hR => by have := BestSeen_any A c rows w hR h1 h2; rwa [h] at this⟩⟩
end Go.Proofs.Ytnojlapjkdihmab

/-
  The walk of the exact law of BestSeen.
-/
namespace Go.Proofs.Ytnojlapjkdihmab
open Go.RowKit

set_option maxRecDepth 100000 in
set_option maxHeartbeats 4000000 in
theorem fnExactBestSeen_walk {A : Option Addr} {c : Nat} {rows : List (List Int)} {w : World} (h0 : CameR w A c rows) :
    Calls Try.prog 4 #[.slice A rows.length c] w fun e w' => e = .returned (.bool true) ∧ Below w.heap.size w w' := by
  have h := h0.1
  have HSZ := Lib.hid (szIntSS_any A c rows w h h0.2.1 h0.2.2)
  obtain ⟨x, y, v, HB⟩ := BestSeen_both rows
  have HS : Hid (rows.length ≤ 1099511627776 → (∀ r ∈ rows, r.length ≤ 1099511627776) → ∀ A c w, RdR w A c rows → Calls Try.prog 16 #[.slice A rows.length c] w fun e w' => e = .returned (.tuple #[frV x y, .bool v]) ∧ Below w.heap.size w w') := Lib.hid (fun h1 h2 => (HB h1 h2).1)
  have HI : Hid (rows.length ≤ 1099511627776 → (∀ r ∈ rows, r.length ≤ 1099511627776) → ∀ A c w, RdR w A c rows → Calls Try.prog 17 #[.slice A rows.length c] w fun e w' => e = .returned (.tuple #[frV x y, .bool v]) ∧ Below w.heap.size w w') := Lib.hid (fun h1 h2 => (HB h1 h2).2)
  have hvv : (v != v) = false := by simp
  clear h0 HB
  go_enter Try.func4, Try.ntmps4
  go_wp2_with fail
  refine HSZ.out.mono ?_
  rintro e w1 ⟨⟨z, rfl, hz⟩, n1, rfl⟩
  rcases hz with ⟨rfl, _⟩ | ⟨hz0, hs⟩
  · go_wp2
    go_ret
    exact ⟨rfl, below_drewN' (Below.refl _ _) n1⟩
  have hzn : decide (z < 0) = false := by simp; omega
  have HZ := Lib.hid hs
  have HS := Lib.hid (HS.out (by have := szR_len hs; omega) (szR_each hs))
  have HI := Lib.hid (HI.out (by have := szR_len hs; omega) (szR_each hs))
  clear hs HSZ hz0
  go_wp2_with fail
  refine (toIntSS_any A c rows (w.drewN n1) (h.drewN n1) HZ.out).mono ?_
  rintro e w2 ⟨v2, ps2, rfl, R2, hm2, b2⟩
  have B2 : Below w.heap.size w w2 := (below_drewN' (Below.refl _ w) n1).trans b2
  obtain ⟨A2, c2, rfl, hR2⟩ := R2.rdr hm2
  go_wp2_with fail
  refine (HS.out A2 c2 w2 hR2).mono ?_
  rintro e w3 ⟨rfl, b3⟩
  unfold frV
  have hk3 := PairAt.new (w := w3) (x := x) (y := y)
  have B3 := (B2.trans (b3.mono B2.size)).trans ((below_al w3 (.cells #[.int .i64 x, .int .i64 y] 28)).mono (B2.trans (b3.mono B2.size)).size)
  clear R2 hm2 hR2 b2 b3 B2
  go_wp2_with fail
  refine (toIntSS_any A c rows _ (h.below B3) HZ.out).mono ?_
  rintro e w4 ⟨v4, ps4, rfl, R4, hm4, b4⟩
  have B4 := B3.trans (b4.mono B3.size)
  have hk4 := hk3.below b4
  obtain ⟨hpl, hps, hpe⟩ := nums_sz hm4 HZ.out
  have HPE := Lib.hid hpe
  have HM4 := Lib.hid hm4
  have hlen4 : ps4.length = rows.length := by have := congrArg List.length hm4; simpa using this
  obtain ⟨A4, c4, rfl, hR4⟩ := R4.rdr hm4
  clear hpe hm4 hk3
  go_wp2_with fail
  refine (HI.out A4 c4 w4 hR4).mono ?_
  rintro e w5 ⟨rfl, b5⟩
  unfold frV
  have hk5 := (hk4.below b5).old (.cells #[.int .i64 x, .int .i64 y] 28)
  have hg5 := PairAt.new (w := w5) (x := x) (y := y)
  have ba5 := below_al w5 (.cells #[.int .i64 x, .int .i64 y] 28)
  have B5' := B4.trans (b5.mono B4.size)
  have B5 := B5'.trans (ba5.mono B5'.size)
  have R5 := (R4.below b5).below ba5
  obtain ⟨c0, c1', f0, f1⟩ := hk5.facts
  obtain ⟨c2', c3, f2, f3⟩ := hg5.facts
  clear R4 b5 hR4 b4 B4 hk4 B5' hk5 hg5
  go_wp2_with fail
  refine (eqFrac_same _ _ _).mono ?_
  rintro e w6 ⟨rfl, b6⟩
  have R6 := R5.below b6
  have B6 := B5.trans (b6.mono B5.size)
  clear R5 B5 ba5 b6
  go_wp2_with fail
  refine (toIntSS_any A c rows w6 (h.below B6) HZ.out).mono ?_
  rintro e w7 ⟨v7, ps7, rfl, R7, hm7, b7⟩
  have B7 := B6.trans (b7.mono B6.size)
  have R57 := R6.below b7
  have HEQ : Hid (ps4.map (·.2.2) = ps7.map (·.2.2)) := Lib.hid (by rw [HM4.out, hm7])
  clear R6 B6 b7 hm7
  go_wp2_with fail
  refine (eqIntSSU w7 R57 R7 HEQ.out hpl HPE.out).mono ?_
  rintro e w8 ⟨rfl, b8⟩
  have B8 := B7.trans (b8.mono B7.size)
  go_wp2
  go_ret
  exact ⟨rfl, B8⟩

end Go.Proofs.Ytnojlapjkdihmab
