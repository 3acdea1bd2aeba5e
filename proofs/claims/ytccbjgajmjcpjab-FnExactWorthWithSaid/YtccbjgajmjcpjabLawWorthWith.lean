/-
  The walk of the exact law of WorthWith.
-/
import Derived.Test.YtccbjgajmjcpjabUz
import Derived.Test.YtccbjgajmjcpjabSk
namespace Go.Proofs.Ytccbjgajmjcpjab
open Go.RowKit

set_option maxRecDepth 100000 in
set_option maxHeartbeats 4000000 in
theorem fnExactWorthWith_walk {A : Option Addr} {c : Nat} {rows : List (List Int)} {k : Int} {w : World} (h0 : CameR w A c rows) (_hk : (Lit.int .i64 k).wf = true) :
    Calls Try.prog 11 #[.slice A rows.length c, .int .i64 k] w fun e w' => e = .returned (.bool true) ∧ Below w.heap.size w w' := by
  have h := h0.1
  have HSZ := Lib.hid (szIntSS_any A c rows w h h0.2.1 h0.2.2)
  obtain ⟨v, hv⟩ : ∃ v, v = wwB rows k := ⟨_, rfl⟩
  have HS : Hid (rows.length ≤ 1099511627776 → (∀ r ∈ rows, r.length ≤ 1099511627776) → ∀ A c w, RdR w A c rows → Calls Try.prog 57 #[.slice A rows.length c, .int .i64 k] w fun e w' => e = .returned (.int .i64 v) ∧ Below w.heap.size w w') :=
    Lib.hid (fun h1 h2 => by rw [hv]; exact (WorthWith_both rows k h1 h2).1)
  have HI : Hid (rows.length ≤ 1099511627776 → (∀ r ∈ rows, r.length ≤ 1099511627776) → ∀ A c w, RdR w A c rows → Calls Try.prog 58 #[.slice A rows.length c, .int .i64 k] w fun e w' => e = .returned (.int .i64 v) ∧ Below w.heap.size w w') :=
    Lib.hid (fun h1 h2 => by rw [hv]; exact (WorthWith_both rows k h1 h2).2)
  have hvv : (v != v) = false := by simp
  clear h0 hv
  go_enter Try.func11, Try.ntmps11
  go_wp2_with fail
  refine HSZ.out.mono ?_
  rintro e w1 ⟨⟨z, rfl, hz⟩, n1, rfl⟩
  rcases hz with ⟨rfl, _⟩ | ⟨hz0, hs⟩
  · go_wp2
    go_ret
    exact ⟨rfl, below_drewN' (Below.refl _ _) n1⟩
  have hzn : decide (z < 0) = false := by simp; omega
  have HZ := Lib.hid hs
  have HS := Lib.hid (HS.out (by have := szR_len hs; omega) (szR_each hs))
  have HI := Lib.hid (HI.out (by have := szR_len hs; omega) (szR_each hs))
  clear hs HSZ hz0
  go_wp2_with fail
  refine (toIntSS_any A c rows (w.drewN n1) (h.drewN n1) HZ.out).mono ?_
  rintro e w2 ⟨v2, ps2, rfl, R2, hm2, b2⟩
  have B2 : Below w.heap.size w w2 := (below_drewN' (Below.refl _ w) n1).trans b2
  obtain ⟨A2, c2, rfl, hR2⟩ := R2.rdr hm2
  go_wp2_with fail
  refine (HS.out A2 c2 w2 hR2).mono ?_
  rintro e w3 ⟨rfl, b3⟩
  have B3 := B2.trans (b3.mono B2.size)
  clear R2 hm2 hR2 b2 b3 B2
  go_wp2_with fail
  refine (toIntSS_any A c rows w3 (h.below B3) HZ.out).mono ?_
  rintro e w4 ⟨v4, ps4, rfl, R4, hm4, b4⟩
  have B4 := B3.trans (b4.mono B3.size)
  obtain ⟨hpl, hps, hpe⟩ := nums_sz hm4 HZ.out
  have HPE := Lib.hid hpe
  have HM4 := Lib.hid hm4
  have hlen4 : ps4.length = rows.length := by have := congrArg List.length hm4; simpa using this
  obtain ⟨A4, c4, rfl, hR4⟩ := R4.rdr hm4
  clear hpe hm4
  go_wp2_with fail
  refine (HI.out A4 c4 w4 hR4).mono ?_
  rintro e w5 ⟨rfl, b5⟩
  have B5 := B4.trans (b5.mono B4.size)
  have R5 := R4.below b5
  clear R4 b5 hR4 b4 B4
  go_wp2_with fail
  refine (toIntSS_any A c rows w5 (h.below B5) HZ.out).mono ?_
  rintro e w7 ⟨v7, ps7, rfl, R7, hm7, b7⟩
  have B7 := B5.trans (b7.mono B5.size)
  have R57 := R5.below b7
  have HEQ : Hid (ps4.map (·.2.2) = ps7.map (·.2.2)) := Lib.hid (by rw [HM4.out, hm7])
  clear R5 B5 b7 hm7
  go_wp2_with fail
  refine (eqIntSSU w7 R57 R7 HEQ.out hpl HPE.out).mono ?_
  rintro e w8 ⟨rfl, b8⟩
  have B8 := B7.trans (b8.mono B7.size)
  go_wp2
  go_ret
  exact ⟨rfl, B8⟩

end Go.Proofs.Ytccbjgajmjcpjab
