/-
  The laws of RestsOf: lists of rows compared; the drawn arguments.
-/
import Derived.Test.YtcbhjcbbjegmiaaGridS
import Derived.Test.YtcbhjcbbjegmiaaFnTrue
import Derived.Test.YtcbhjcbbjegmiaaLawsA
namespace Go.Proofs.Ytcbhjcbbjegmiaa
open Go.RowKit

set_option maxHeartbeats 2000000 in
theorem equalRows_same {B B' : Nat} {v u : Value} {ps qs : List (Nat × Nat × List Int)} (w : World) (h1 : RowsIn w B v ps) (h2 : RowsIn w B' u qs) (he : ps.map (·.2.2) = qs.map (·.2.2)) (hl : ps.length ≤ 1000) (hp : ∀ p ∈ ps, p.2.2.length ≤ 1099511627776) :
    Calls Try.prog 33 #[v, u] w (BoolAt w true) := by
  have hlen : ps.length = qs.length := by have := congrArg List.length he; simpa using this
  rcases h1.shape with ⟨rfl, rfl⟩ | ⟨g, c, rfl, hc1⟩
  · obtain rfl : qs = [] := List.eq_nil_of_length_eq_zero (by rw [← hlen]; rfl)
    rcases h2.shape with ⟨_, rfl⟩ | ⟨g2, c2, rfl, _⟩
    all_goals
      go_enter Try.func33, Try.ntmps33
      go_wp2
      go_loopw [5] (fun i wr => i = .int .i64 0 ∧ wr = w) (fun _ _ => 0)
      case atStart => exact ⟨rfl, rfl⟩
      case round =>
        obtain ⟨rfl, rfl⟩ := hrel
        go_wp2
        go_ret
        exact ⟨rfl, Below.refl _ _⟩
  · rcases h2.shape with ⟨rfl, rfl⟩ | ⟨g2, c2, rfl, hc2⟩
    · simp at hlen
      subst hlen
      go_enter Try.func33, Try.ntmps33
      go_wp2
      go_loopw [5] (fun i wr => i = .int .i64 0 ∧ wr = w) (fun _ _ => 0)
      case atStart => exact ⟨rfl, rfl⟩
      case round =>
        obtain ⟨rfl, rfl⟩ := hrel
        go_wp2
        go_ret
        exact ⟨rfl, Below.refl _ _⟩
    · have hne : ((ps.length : Int) != (qs.length : Int)) = false := by simp [hlen]
      have HL := Lib.hid hlen
      have HC1 := Lib.hid hc1
      have HC2 := Lib.hid hc2
      have HE := Lib.hid he
      have HP := Lib.hid hp
      have hs1 : g < w.heap.size := (World.ownsRow.lt h1.row g rfl).2
      have hs2 : g2 < w.heap.size := (World.ownsRow.lt h2.row g2 rfl).2
      clear hlen hc1 hc2 he hp
      go_enter Try.func33, Try.ntmps33
      go_wp2
      go_loopw [5] (fun i wr => ∃ k : Nat, k ≤ ps.length ∧ i = .int .i64 k ∧ Below w.heap.size w wr) (fun i _ => ps.length - (intOf i).toNat)
      case atStart => exact ⟨0, Nat.zero_le _, rfl, Below.refl _ _⟩
      case round =>
        obtain ⟨k, hk, rfl, hb⟩ := hrel
        by_cases hlt : k < ps.length
        · have hlt2 : k < qs.length := by have := HL.out; omega
          obtain ⟨p, hp⟩ : ∃ p, ps[k]? = some p := ⟨_, List.getElem?_eq_getElem hlt⟩
          obtain ⟨q, hq⟩ : ∃ q, qs[k]? = some q := ⟨_, List.getElem?_eq_getElem hlt2⟩
          have hpq : p.2.2 = q.2.2 := by
            have := congrArg (fun l => l[k]?) HE.out
            simpa [hp, hq] using this
          have hcp := (hb.cell (p := ⟨g, k, none⟩) hs1).trans (HC1.out k p hp)
          have hcq := (hb.cell (p := ⟨g2, k, none⟩) hs2).trans (HC2.out k q hq)
          have hr1 := Lib.hid ((h1.below hb).each p (List.mem_of_getElem? hp)).rd
          have hr2 := Lib.hid ((h2.below hb).each q (List.mem_of_getElem? hq)).rd
          have hll := Lib.hid (HP.out p (List.mem_of_getElem? hp))
          have HEQ : Hid (eqB p.2.2 q.2.2 = true) := Lib.hid (by rw [hpq]; exact eqB_self _)
          obtain ⟨pg, pc, pl⟩ := p
          obtain ⟨qg, qc, ql⟩ := q
          simp only [slOf] at hcp hcq
          clear hp hq hpq
          go_wp2_with fail
          go_region_with (go_at_call 18; refine (equalInts_any _ _ _ _ pl ql _ ?_ ?_ ?_).mono ?_; exact hr1.out; exact hr2.out; exact hll.out; rw [HEQ.out]; rintro e w2 ⟨rfl, n2, rfl⟩)
          all_goals
            clear hcp hcq
            go_wp2
            go_roundw
            case rel => exact ⟨k + 1, by omega, by go_num, below_drewN' hb _⟩
            case measure => simp [intOf]; omega
        · obtain rfl : k = ps.length := by omega
          go_wp2
          go_ret
          exact ⟨rfl, hb⟩

/-- What DrawRestsOf hands back. -/
def DrawnRests (w : World) (e : Ending) (w' : World) : Prop :=
  ∃ (s : ByteArray) (A : Option Addr) (c : Nat) (ys : List Int) (t : Int), Drawn s ∧ e = .returned (.tuple #[.string s, .slice A ys.length c, .int .i64 t]) ∧ Rd w' A c ys ∧ ys.length ≤ 7 ∧ Below w.heap.size w w'

set_option maxRecDepth 100000 in
set_option maxHeartbeats 1000000 in
theorem DrawRestsOf_any (A : Option Addr) (c : Nat) (xs : List Int) (w : World) (h : Came .u8 w A c xs) :
    Calls Try.prog 31 #[.slice A xs.length c] w (DrawnRests w) := by
  go_enter Try.func31, Try.ntmps31
  go_wp2_with fail
  refine (newReader_any A c xs w h).mono ?_
  rintro e w1 ⟨rb, rfl, hrb, hr1, hb1⟩
  have hlt1 := hr1.lt
  go_wp2_with fail
  refine (someKind_drawn rb 0 w1 hr1 (by decide)).mono ?_
  rintro e w2 ⟨s, hs, rfl, hr2, hg2⟩
  have HS := Lib.hid hs
  have B2 := hb1.trans (gb_below hg2 hb1.size hrb)
  clear hs
  go_wp2_with fail
  refine (one_new rb 1 6 [2, 1, 3, 2, 0, 4] _ w2 rfl rfl hr2 (by decide) (by decide) (by decide)).mono ?_
  rintro e w3 ⟨n, hn, rfl, hr3, hg3⟩
  have hn7 : n ≤ ((7 : Nat) : Int) := by
    simp only [List.mem_cons, List.not_mem_nil, or_false] at hn
    omega
  have B3 := B2.trans (gb_below hg3 B2.size hrb)
  clear hn
  go_wp2_with fail
  refine (bidsOf_any rb 2 7 n w3 hr3 (by decide) hn7 (by decide)).mono ?_
  rintro e w4 ⟨g, c4, ys, rfl, ho, hy, hr4, hg4⟩
  have B4 := B3.trans (gb_below hg4 B3.size hrb)
  have hsz : rb < w3.heap.size := hr3.lt
  go_wp2_with fail
  refine (one_new rb 12 7 [2, 3, 1, 4, 0, 5, 6] _ w4 rfl rfl hr4 (by decide) (by decide) (by decide)).mono ?_
  rintro e w5 ⟨t, _, rfl, hr5, hg5⟩
  have o5 := ho.ask hg5 hsz
  have B5 := B4.trans (gb_below hg5 B4.size hrb)
  go_wp2
  go_ret3
  exact ⟨s, _, c4, ys, t, HS.out, rfl, o5.rd, hy, B5⟩

end Go.Proofs.Ytcbhjcbbjegmiaa
