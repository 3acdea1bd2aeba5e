/-
  Chapter 8: markets of pairs that are drawn.
-/
import Derived.Test.YtpildecpabeanaaG32
import Derived.Test.YtpildecpabeanaaDrawD
import Derived.Test.YtpildecpabeanaaG04
import Derived.Test.YtpildecpabeanaaRw
import Derived.Test.YtpildecpabeanaaG31
namespace Go.Proofs.Ytpildecpabeanaa
open Go.RowKit

/-- What pairRows hands back. -/
def MarketIs (w : World) (rb k : Nat) (e : Ending) (w' : World) : Prop :=
  ∃ v ps, e = .returned v ∧ RowsU w' w.heap.size v ps ∧ ps.length ≤ 4 ∧ (∀ p ∈ ps, p.2.2.length ≤ 4) ∧ Rdr w' rb k ∧ w.grownBy w' (some rb)
def lenW : Value → Nat
  | .slice _ n _ => n
  | _ => 0

theorem own_first {w : World} {B g c M : Nat} {zs : List Int} (h : Own w B (some ⟨g, 0, none⟩) c zs) (hl : zs.length = M) (hM : 1 ≤ M) : ∃ z, w.cell? ⟨g, 0, none⟩ = some (.int .i64 z) := by
  have hy : zs[0]? = some (zs[0]'(by omega)) := List.getElem?_eq_getElem _
  exact ⟨_, h.cell hy⟩
set_option maxHeartbeats 4000000 in
set_option maxRecDepth 100000 in
theorem pairRows_any (rb k : Nat) (w : World) (h : Rdr w rb k) (hk : k + 60 ≤ 1000000) :
    Calls Try.prog 103 #[.pointer (some ⟨rb, 0, none⟩)] w (MarketIs w rb (k + 30)) := by
  obtain ⟨i0, hi, hz0, hz1, hz2⟩ := info_parts intsU_info
  have hl := h.lt
  go_enter Try.func103, Try.ntmps103
  go_wp2_with fail
  refine (one_new rb k 4 [3, 2, 4, 1] _ w rfl rfl h (by decide) (by decide) (by omega)).mono ?_
  rintro e w1 ⟨n, hn, rfl, hr1, hg1⟩
  have hn4 : n ≤ 4 := by simp only [List.mem_cons, List.not_mem_nil, or_false] at hn; omega
  have hn1 : 1 ≤ n := by simp only [List.mem_cons, List.not_mem_nil, or_false] at hn; omega
  clear hn
  go_wp2_with fail
  refine (one_new rb (k + 1) 4 [3, 2, 4, 1] _ w1 rfl rfl hr1 (by decide) (by decide) (by omega)).mono ?_
  rintro e w2 ⟨m, hm, rfl, hr2, hg2⟩
  obtain ⟨M, rfl, hM1, hM4⟩ : ∃ M : Nat, m = (M : Int) ∧ 1 ≤ M ∧ M ≤ 4 := by
    simp only [List.mem_cons, List.not_mem_nil, or_false] at hm
    exact ⟨m.toNat, by omega, by omega, by omega⟩
  have HM1 := Lib.hid hM1
  have gg2 := hg1.trans hg2
  clear hm hg1 hg2 hr1
  go_wp2_with fail
  refine (one_new rb (k + 1 + 1) 3 [6, 12, 3] _ w2 rfl rfl hr2 (by decide) (by decide) (by omega)).mono ?_
  rintro e w3 ⟨most, hmo, rfl, hr3, hg3⟩
  have hmo0 : 0 ≤ most := by simp only [List.mem_cons, List.not_mem_nil, or_false] at hmo; omega
  have hmo1 : most ≤ 12 := by simp only [List.mem_cons, List.not_mem_nil, or_false] at hmo; omega
  have gg3 := gg2.trans hg3
  have HE := Lib.hid (rowsU_empty w3)
  have HR := Lib.hid (hr3.alloc (.cells #[] 23))
  have HG := Lib.hid (gb_alloc gg3 (.cells #[] 23))
  obtain ⟨S, hS⟩ : ∃ S, S = w3.heap.size := ⟨_, rfl⟩
  have hlS : rb < S := by have := gg3.size; omega
  have hwS : w.heap.size ≤ S := by rw [hS]; exact gg3.size
  have HSS := Lib.hid hS
  rw [← hS] at HE
  clear hmo hr2 hr3 hg3 gg2 gg3
  go_wp2_with fail
  rw [← hS]
  clear hS
  go_loopw [6] (fun v wr => ∃ (ps : List (Nat × Nat × List Int)), ps.length ≤ 4 ∧ (∃ g c, v = .slice (some ⟨g, 0, none⟩) ps.length c) ∧ Hid (∀ p ∈ ps, p.2.2.length = M) ∧ Hid (RowsU wr S v ps) ∧ Hid (Rdr wr rb (k + 3 + 4 * ps.length)) ∧ Hid (w.grownBy wr (some rb)))
    (fun v _ => 4 - lenW v)
  case atStart => exact ⟨[], Nat.zero_le _, ⟨S, 0, rfl⟩, Lib.hid (fun _ h => absurd h (by simp)), HE, HR, HG⟩
  case round =>
    obtain ⟨ps, hps, ⟨g, c, rfl⟩, HP, HRW, Hr, Hg⟩ := hrel
    obtain ⟨W, hW⟩ : ∃ W : World, W = wr := ⟨_, rfl⟩
    subst hW
    by_cases hlt : (ps.length : Int) < n
    · have hp4 : ps.length < 4 := by omega
      have HE2 := Lib.hid (own_empty W)
      have HR2 := Lib.hid (Hr.out.alloc (.cells #[] 3))
      have HG2 := Lib.hid (World.grownBy_alloc W (.cells #[] 3) (some rb))
      obtain ⟨T, hT⟩ : ∃ T, T = W.heap.size := ⟨_, rfl⟩
      have hST : S ≤ T := by rw [hT, HSS.out]; have h1 := (World.ownsRow.lt HRW.out.row g rfl); have h2 := HSS.out; omega
      have HTT := Lib.hid hT
      rw [← hT] at HE2
      go_wp2_with fail
      rw [← hT]
      clear hT
      go_loopw [7] (fun v wr => ∃ (g c : Nat) (ys : List Int), ys.length ≤ M ∧ v = .slice (some ⟨g, 0, none⟩) ys.length c ∧ Hid (Own wr T (some ⟨g, 0, none⟩) c ys) ∧ Hid (Rdr wr rb (k + 3 + 4 * ps.length + ys.length)) ∧ Hid (W.grownBy wr (some rb)))
        (fun v _ => M - lenW v)
      case atStart => exact ⟨T, 0, [], Nat.zero_le _, rfl, HE2, HR2, HG2⟩
      case round =>
        obtain ⟨g7, c7, ys, hys, rfl, HO7, Hr7, Hg7⟩ := hrel
        by_cases hy : (ys.length : Int) < (M : Int)
        · have hmw : IntKind.i64.wrap (most + 1) = most + 1 := IntWalk.i64_in _ (by omega)
          have hyl : ys.length + 1 ≤ 1099511627776 := by omega
          have HYL := Lib.hid hyl
          clear hyl
          go_wp2_with fail
          refine (pick_any rb (k + 3 + 4 * ps.length + ys.length) (most + 1) wr Hr7.out (by omega) (by omega) (by omega)).mono ?_
          rintro e w8 ⟨x, rfl, hx0, hx1, hr8, hg8⟩
          have HLm := Lib.hid (ints_one w8 x)
          have HOm : Hid (Own (w8.alloc (.cells #[.int .i64 x] 3)) T (some ⟨g7, 0, none⟩) c7 ys) := Lib.hid (World.ownsRow.alloc (HO7.out.ask hg8 (by omega)) _)
          have hgg := gb_alloc (Hg7.out.trans hg8) (.cells #[.int .i64 x] 3)
          have hrr := hr8.alloc (.cells #[.int .i64 x] 3)
          have hTz : T ≤ (w8.alloc (.cells #[.int .i64 x] 3)).heap.size := by rw [HTT.out]; exact hgg.size
          have HTZ := Lib.hid hTz
          have hge := HO7.out.ge
          clear hTz hx0 hx1 hr8 hg8
          go_wp2_with (at_builtin; refine wpList_append_any rfl _ _ 23 Try.underlying23 rfl T (some ⟨g7, 0, none⟩) c7 ys ys.length rfl rfl HOm.out (some ⟨w8.heap.size, 0, none⟩) 1 [x] 1 rfl rfl HLm.out HYL.out HTZ.out ?_; intro A3 c3 w9 o3 hg9)
          obtain ⟨g3, rfl⟩ := own_some o3 (by simp)
          have hr9 := Lib.hid ((hrr.grown (g := g7) hg9 (by omega)).more (k' := k + 3 + 4 * ps.length + (ys ++ [x]).length) (by simp; omega))
          have gg9 := Lib.hid (gb_new (g := g7) hgg hg9 (by rw [← HTT.out]; exact hge))
          go_roundw
          case rel => exact ⟨g3, c3, ys ++ [x], by simp; omega, by simp, Lib.hid o3, hr9, gg9⟩
          case measure => simp [lenW]; omega
        · have HYM : Hid (ys.length = M) := Lib.hid (by omega)
          have hR2 := HRW.out.ask Hg7.out hlS
          have gg2 := Hg.out.trans Hg7.out
          have HN := Lib.hid (HRW.out.notIn (B' := T) (by rw [HTT.out]; exact Nat.le_refl _) HO7.out)
          have HT := Lib.hid (own_len hR2.row ((Below.refl _ wr).alloc (Nat.le_refl _) (.cells #[slU (g7, c7, ys)] 23)))
          have hb63 : ps.length + 1 ≤ maxLen := by unfold maxLen; omega
          have HB63 := Lib.hid hb63
          have hSz : S ≤ wr.heap.size + 1 := by have := Hg7.out.size; have := HTT.out; omega
          have HSZ := Lib.hid hSz
          clear hb63 hSz
          go_wp2_with (at_builtin; (refine wpList_append_own _ rfl _ _ 35 rfl S 23 i0 (.slice none 0 0) 1 24 Try.underlying35 hi hz0 hz1 hz2 rfl (by decide) (.slice (some ⟨g, 0, none⟩) ps.length c) ps.length (ps.map slU) rfl HT.out ⟨wr.heap.size, 0, none⟩ 1 1 [slU (g7, c7, ys)] rfl rfl (cell_one_new _ _ _) (by simp [slU, Value.oneCell']) HB63.out (by omega) (by simpa using HSZ.out) ?_; intro v5 w5 hown5 hg5 _))
          have R5 : RowsU w5 S v5 (ps ++ [(g7, c7, ys)]) := hR2.more (p := (g7, c7, ys)) (HO7.out.base hST) HN.out hown5 hg5
          have hgeg : S ≤ g := (World.ownsRow.lt hR2.row g rfl).1
          have hr5 := (Hr7.out.alloc (.cells #[slU (g7, c7, ys)] 23)).grown (g := g) hg5 (by omega)
          have gg5 := gb_new (g := g) (gb_alloc gg2 (.cells #[slU (g7, c7, ys)] 23)) hg5 (by omega)
          obtain ⟨g5, c5, rfl⟩ := R5.one (by simp)
          have HP5 : Hid (∀ p ∈ ps ++ [(g7, c7, ys)], p.2.2.length = M) := Lib.hid (by
            intro p hp
            rcases List.mem_append.1 hp with hp | hp
            · exact HP.out p hp
            · obtain rfl : p = (g7, c7, ys) := by simpa using hp
              exact HYM.out)
          have hlp : (ps ++ [(g7, c7, ys)]).length = ps.length + 1 := by simp
          have HLP := Lib.hid hlp
          clear hown5 hg5 hR2 HT hlp
          go_roundw
          case rel => exact ⟨ps ++ [(g7, c7, ys)], by rw [HLP.out]; omega, ⟨g5, c5, rfl⟩, HP5, Lib.hid R5, Lib.hid (hr5.more (by rw [HLP.out]; omega)), Lib.hid gg5⟩
          case measure => simp [lenW]; omega
    · obtain ⟨p, rs, rfl⟩ : ∃ p rs, ps = p :: rs := by
        cases ps with
        | nil => simp at hlt; omega
        | cons p rs => exact ⟨p, rs, rfl⟩
      obtain ⟨L, hL⟩ : ∃ L, L = (p :: rs).length := ⟨_, rfl⟩
      have hL0 : (0 : Int) < (L : Int) := by rw [hL]; simp
      have hL1 : 1 ≤ L := by omega
      have HLL := Lib.hid hL
      rw [← hL] at Hr hps hlt ⊢
      have hpM : p.2.2.length = M := HP.out p (by simp)
      clear hL
      go_wp2_with fail
      refine (pick_any rb (k + 3 + 4 * L) 30 W Hr.out (by omega) (by decide) (by decide)).mono ?_
      rintro e w2 ⟨q, rfl, hq0, _, hr2, hg2⟩
      have gg2 := Hg.out.trans hg2
      have HR2 := Lib.hid (HRW.out.ask hg2 hlS)
      have HPM := Lib.hid hpM
      by_cases hz : q = 0
      · subst hz
        have hrb2 := hr2.lt
        have ho := own_lit w2 [13, -1] (by decide)
        have HOo : Hid (Own (w2.alloc (.cells #[.int .i64 13, .int .i64 (-1)] 3)).drew w2.heap.size (some ⟨w2.heap.size, 0, none⟩) 2 [13, -1]) := Lib.hid (ho.below (below_drewN' (Below.refl _ _) 1))
        have HRr : Hid (Rdr (w2.alloc (.cells #[.int .i64 13, .int .i64 (-1)] 3)).drew rb (k + 3 + 4 * L + 1)) := Lib.hid ((hr2.alloc _).below (below_drewN' (Below.refl _ _) 1))
        have HNE : Hid (w2.heap.size ≠ rb) := Lib.hid (by omega)
        have HR3 : Hid (RowsU (w2.alloc (.cells #[.int .i64 13, .int .i64 (-1)] 3)).drew S (.slice (some ⟨g, 0, none⟩) (p :: rs).length c) (p :: rs)) := Lib.hid (HR2.out.below (below_drewN' ((Below.refl _ w2).alloc (Nat.le_refl _) (.cells #[.int .i64 13, .int .i64 (-1)] 3)) 1))
        have HG3 : Hid (w.grownBy (w2.alloc (.cells #[.int .i64 13, .int .i64 (-1)] 3)).drew (some rb)) := Lib.hid (gb_drewN (gb_alloc gg2 (.cells #[.int .i64 13, .int .i64 (-1)] 3)) 1)
        have HCE : Hid (∀ w', RowsU w' S (.slice (some ⟨g, 0, none⟩) (p :: rs).length c) (p :: rs) → w'.cell? ⟨g, 0, none⟩ = some (.slice (some ⟨p.1, 0, none⟩) M p.2.1)) := Lib.hid (fun w' h' => by
          have := h'.cell_at (k := 0) (p := p) rfl
          rw [this, slU, HPM.out])
        have hc2 := HCE.out _ HR2.out
        have hc3 : (w2.alloc (.cells #[.int .i64 13, .int .i64 (-1)] 3)).cell? ⟨g, 0, none⟩ = some (.slice (some ⟨p.1, 0, none⟩) M p.2.1) := HCE.out (w2.alloc (.cells #[.int .i64 13, .int .i64 (-1)] 3)) (HR2.out.below ((Below.refl _ w2).alloc (Nat.le_refl _) (.cells #[.int .i64 13, .int .i64 (-1)] 3)))
        have hM1' : (0 : Int) < (M : Int) := by omega
        clear hpM ho hr2
        go_wp2_with fail
        go_region_with (first
          | (go_at_call 62; refine (one_any rb (k + 3 + 4 * L + 1) w2.heap.size 2 2 w2.heap.size [13, -1] (w2.alloc (.cells #[.int .i64 13, .int .i64 (-1)] 3)).drew rfl HRr.out HOo.out HNE.out (by decide) (by decide) (by omega)).mono ?_; rintro e w4 ⟨x, _, rfl, hr4, hg4⟩; have HR4 := Lib.hid (HR3.out.ask hg4 hlS); have HG4 := Lib.hid (HG3.out.trans hg4); have hc4 := HCE.out _ HR4.out; have HO4 := Lib.hid (HR4.out.each p (List.mem_cons_self ..)); obtain ⟨z, hcz⟩ := own_first HO4.out HPM.out HM1.out; have hf4 := HO4.out.free 0; have HRR4 := Lib.hid hr4; clear hr4 hg4))
        all_goals
          have hpge : S ≤ p.1 := HO4.out.ge
          have hR5 := RowsU.turn (qs := []) (w' := w4.setCell ⟨p.1, 0, none⟩ (.int .i64 x)) HR4.out (zs := p.2.2.set 0 x) (by simp) (HO4.out.set_ 0 x) (World.ownsRow.stored HO4.out 0 (.int .i64 x)).2
          have hr5 := HRR4.out.set_ (i := 0) (v := .int .i64 x) (show rb < p.1 by omega)
          have gg5 := gb_set (i := 0) (v := .int .i64 x) HG4.out (show w.heap.size ≤ p.1 by omega)
          have HR5 := Lib.hid hR5
          have Hr5 := Lib.hid hr5
          have HG5 := Lib.hid gg5
          clear hR5 hr5 gg5 hcz hf4 hc4 hc2 hc3
          go_wp2
          go_ret
          exact ⟨.slice (some ⟨g, 0, none⟩) L c, (p.1, p.2.1, p.2.2.set 0 x) :: rs, rfl, by rw [HLL.out]; exact HR5.out.base hwS, by rw [List.length_cons, ← List.length_cons (a := p), ← HLL.out]; exact hps, (fun q hq => by
            rcases List.mem_cons.1 hq with rfl | hq
            · simp only [List.length_set]; have := HPM.out; omega
            · have := HP.out q (by simp [hq]); omega), Hr5.out.more (by omega), HG5.out⟩
      · by_cases h1 : q = 1
        · subst h1
          have HE3 := Lib.hid (rowsU_empty w2)
          have HR3 := Lib.hid (hr2.alloc (.cells #[] 23))
          have HG3 := Lib.hid (gb_alloc gg2 (.cells #[] 23))
          go_wp2
          go_ret
          exact ⟨_, [], rfl, HE3.out.base gg2.size, by simp, (fun _ h => absurd h (by simp)), HR3.out.more (by omega), HG3.out⟩
        · have hz0 : (q == 0) = false := by simpa using hz
          have hz1 : (q == 1) = false := by simpa using h1
          clear hz h1
          go_wp2
          go_ret
          exact ⟨.slice (some ⟨g, 0, none⟩) L c, p :: rs, rfl, by rw [HLL.out]; exact HR2.out.base hwS, by rw [← HLL.out]; exact hps, (fun q hq => by have := HP.out q hq; omega), hr2.more (by omega), gg2⟩
end Go.Proofs.Ytpildecpabeanaa

/-
  Chapter 8: the arguments that are drawn for the laws of pairs.
-/
namespace Go.Proofs.Ytpildecpabeanaa
open Go.RowKit

/-- Rows that are drawn. -/
def DrawnM (w : World) (e : Ending) (w' : World) : Prop :=
  ∃ (A : Option Addr) (c : Nat) (rows : List (List Int)), e = .returned (.slice A rows.length c) ∧ RdR w' A c rows ∧ rows.length ≤ 4 ∧ (∀ r ∈ rows, r.length ≤ 6) ∧ Below w.heap.size w w'
theorem marks_of {ps : List (Nat × Nat × List Int)} (hl : ps.length ≤ 4) (h : ∀ p ∈ ps, p.2.2.length ≤ 4) : (ps.map (·.2.2)).length ≤ 4 ∧ ∀ r ∈ ps.map (·.2.2), r.length ≤ 6 :=
  ⟨by simpa using hl, fun r hr => by obtain ⟨p, hp, rfl⟩ := List.mem_map.1 hr; have := h p hp; omega⟩

theorem DrawPairPrices_any (A : Option Addr) (c : Nat) (xs : List Int) (w : World) (h : Came .u8 w A c xs) :
    Calls Try.prog 45 #[.slice A xs.length c] w (DrawnM w) := by
  go_enter Try.func45, Try.ntmps45
  go_wp2_with fail
  refine (newReader_any A c xs w h).mono ?_
  rintro e w1 ⟨rb, rfl, hrb, hr1, hb1⟩
  go_wp2_with fail
  refine (pairRows_any rb 0 w1 hr1 (by decide)).mono ?_
  rintro e w2 ⟨v, ps, rfl, R2, hp4, hp6, hr2, hg2⟩
  have B2 := hb1.trans (gb_below hg2 hb1.size hrb)
  obtain ⟨A2, c2, rfl, hR2⟩ := R2.rdr rfl
  have H6 := Lib.hid (marks_of hp4 hp6)
  have HLN : Hid (ps.length = (ps.map (·.2.2)).length) := Lib.hid (by rw [List.length_map])
  clear R2 hp6 hr2 hg2
  go_wp2
  go_ret
  exact ⟨A2, c2, ps.map (·.2.2), by rw [← HLN.out]; rfl, hR2, H6.out.1, H6.out.2, B2⟩

theorem DrawMostPairPrices_any (A : Option Addr) (c : Nat) (xs : List Int) (w : World) (h : Came .u8 w A c xs) :
    Calls Try.prog 52 #[.slice A xs.length c] w (DrawnM w) := by
  go_enter Try.func52, Try.ntmps52
  go_wp2_with fail
  refine (newReader_any A c xs w h).mono ?_
  rintro e w1 ⟨rb, rfl, hrb, hr1, hb1⟩
  go_wp2_with fail
  refine (pairRows_any rb 0 w1 hr1 (by decide)).mono ?_
  rintro e w2 ⟨v, ps, rfl, R2, hp4, hp6, hr2, hg2⟩
  have B2 := hb1.trans (gb_below hg2 hb1.size hrb)
  obtain ⟨A2, c2, rfl, hR2⟩ := R2.rdr rfl
  have H6 := Lib.hid (marks_of hp4 hp6)
  have HLN : Hid (ps.length = (ps.map (·.2.2)).length) := Lib.hid (by rw [List.length_map])
  clear R2 hp6 hr2 hg2
  go_wp2
  go_ret
  exact ⟨A2, c2, ps.map (·.2.2), by rw [← HLN.out]; rfl, hR2, H6.out.1, H6.out.2, B2⟩

end Go.Proofs.Ytpildecpabeanaa

/-
  Chapter 8: the walk of FnMostPairPrices.
-/
namespace Go.Proofs.Ytpildecpabeanaa
open Go.RowKit

set_option maxHeartbeats 400000 in
theorem atMostT_any (A B : Option Addr) (c d n : Nat) (xs ys : List Int) (w : World) (hx : Rd w A c xs) (hy : Rd w B d ys) (h1 : xs.length = n) (h2 : ys.length = n) (hl : n ≤ 1000) (h : ∀ (k : Nat) (x y : Int), xs[k]? = some x → ys[k]? = some y → x ≤ y) :
    Calls Try.prog 30 #[.slice A n c, .slice B n d] w fun e w' => e = .returned (.bool true) ∧ ∃ m, w' = w.drewN m := by
  have H1 := Lib.hid h1
  have H2 := Lib.hid h2
  clear h1 h2
  go_enter Try.func30, Try.ntmps30
  go_wp2
  go_loopw [5] (fun i wr => ∃ k q : Nat, k ≤ n ∧ i = .int .i64 (k : Int) ∧ wr = w.drewN q) (fun i _ => n - (intOf i).toNat)
  case atStart => exact ⟨0, 0, Nat.zero_le _, rfl, rfl⟩
  case round =>
    obtain ⟨k, q, hk, rfl, rfl⟩ := hrel
    by_cases hlt : k < n
    · obtain ⟨b1, o1, x, rfl, _, hxx, hcx⟩ := hx.at_ (k := k) (by rw [H1.out]; exact hlt)
      obtain ⟨b2, o2, y, rfl, _, hyy, hcy⟩ := hy.at_ (k := k) (by rw [H2.out]; exact hlt)
      have hle := h k x y hxx.out hyy.out
      have hgt : ¬ y < x := by omega
      clear hle hxx hyy
      go_wp2_with fail
      go_quiet (fail)
      go_wp2
      go_roundw
      case rel => exact ⟨k + 1, _, hlt, by go_num, rfl⟩
      case measure => simp [intOf]; omega
    · obtain rfl : k = n := by omega
      go_wp2
      go_ret
      exact ⟨rfl, q, rfl⟩

set_option maxRecDepth 100000 in
/-- A slice of ints is made under a guard that holds. -/
theorem upon_make_ints {o : Oper} {a : Act} {w : World} {next : Act → World → Prop} {Q : Exit → Act → World → Prop} (base n : Nat) (hn : n ≤ 1099511627776) (hb : base ≤ w.heap.size)
    (hK : ∀ w', Own w' base (some ⟨w.heap.size, 0, none⟩) n (List.replicate n 0) → Below base w w' → next (a.put o.dst (.slice (some ⟨w.heap.size, 0, none⟩) n n)) w') :
    Oper.upon Try.prog o a next Q ((Sem.run Try.prog (Instr.makeSlice 23 (.int .i64 (n : Int)) (.int .i64 (n : Int))) w).andThen fun a w' => Result.ok (Next.value a) w') := by
  obtain ⟨i0, hi, hz0, hz1, hz2⟩ := info_parts int_info
  obtain ⟨w', hrun, r1, r2⟩ := run_make_full (P := Try.prog) w base 23 3 i0 (.int .i64 0) 1 Try.underlying23 hi hz0 hz1 .i64 .i64 n (by rw [hz2]; omega) (by unfold maxLen; omega) hb
  rw [hrun]
  simp only [Result.andThen, Oper.upon]
  refine hK w' ?_ ((Below.refl base w).grown r2 hb (fun k h => by cases h))
  unfold Own
  simpa [toList_madeCells_one, Value.cells] using r1
theorem pls_zero (n : Nat) : ∀ (k : Nat) (x y : Int), (List.replicate n (0 : Int))[k]? = some x → 0 ≤ y → x ≤ y := by
  intro k x y hx hy
  rw [List.getElem?_replicate] at hx
  split at hx
  · have := Option.some.inj hx; omega
  · cases hx

set_option maxRecDepth 100000 in
set_option maxHeartbeats 4000000 in
theorem fnMostPairPrices_walk {A : Option Addr} {c : Nat} {xs : List Int} {w : World} (h : Came .u8 w A c xs) :
    Calls Try.prog 13 #[.slice A xs.length c] w fun e w' => e = .returned (.bool true) ∧ Below w.heap.size w w' := by
  by_cases hlen : 1048576 < xs.length
  · go_enter Try.func13, Try.ntmps13
    go_wp2
    go_ret
    exact ⟨rfl, Below.refl _ _⟩
  have hl1 : xs.length ≤ 1048576 := by omega
  have HD := Lib.hid (DrawMostPairPrices_any A c xs w h)
  clear hlen h
  go_enter Try.func13, Try.ntmps13
  go_wp2_with fail
  refine HD.out.mono ?_
  rintro e w1 ⟨A1, c1, rows, rfl, hR, hl4, hl6, b1⟩
  have hl6' : ∀ r ∈ rows, r.length ≤ 1099511627776 := fun r hr => by have := hl6 r hr; omega
  have HI := Lib.hid (fun w' (h' : RdR w' A1 c1 rows) => MostPairPrices_any A1 c1 rows w' h' (by omega) hl6')
  have HS := Lib.hid (fun w' (h' : RdR w' A1 c1 rows) => SMostPairPrices_any A1 c1 rows w' h' (by omega) hl6')
  have HG := Lib.hid (fun B d p w' (h' : RdR w' A1 c1 rows) (hP : Rd w' B d p) (hpd : p.length ≤ d) (hpl : p.length ≤ 1099511627776) => GoWithPairs_any A1 B c1 d rows p w' h' hP hpd (by omega) hl6' hpl)
  clear HD
  by_cases hv : VR rows
  · have hlm := mp_length hv
    have hgm := gw_most hv
    have hm1 := hv.rk.2.2.1
    have hm4 := hv.rk.2.2.2
    have hn := hv.1.1
    have hnn : ∀ (k : Nat) (y : Int), (mpL rows)[k]? = some y → 0 ≤ y := fun k y hy => by
      have h1 := (mp_nn hv.rk.2.2.2 hv.rk.1).1 k
      rw [← mp_P1 hv, P1_at hy] at h1
      exact h1
    obtain ⟨zs, hzs⟩ : ∃ zs, zs = mpL rows := ⟨_, rfl⟩
    rw [← hzs] at HI HS hlm hgm hnn
    generalize (RW rows 0).length = m at *
    have HG2 : Hid (∀ B d w', RdR w' A1 c1 rows → Rd w' B d zs → m ≤ d → Calls Try.prog 48 #[.slice A1 rows.length c1, .slice B m d] w' fun e w'' => e = .returned (.bool true) ∧ Below w'.heap.size w' w'') := Lib.hid (fun B d w' h' hP hpd => by
      have := HG.out B d zs w' h' hP (by omega) (by omega)
      rwa [hgm, hlm] at this)
    have HI2 : Hid (∀ w', RdR w' A1 c1 rows → Calls Try.prog 49 #[.slice A1 rows.length c1] w' fun e w'' => ∃ A c, e = .returned (.slice A m c) ∧ Own w'' w'.heap.size A c zs ∧ Below w'.heap.size w' w'') := Lib.hid (fun w' h' => by have := HI.out w' h'; unfold NewL at this; rwa [hlm] at this)
    have HS2 : Hid (∀ w', RdR w' A1 c1 rows → Calls Try.prog 53 #[.slice A1 rows.length c1] w' fun e w'' => ∃ A c, e = .returned (.slice A m c) ∧ Own w'' w'.heap.size A c zs ∧ Below w'.heap.size w' w'') := Lib.hid (fun w' h' => by have := HS.out w' h'; unfold NewL at this; rwa [hlm] at this)
    have HQ : Hid (∀ A2 A3 c2 c3 w', Rd w' A2 c2 zs → Rd w' A3 c3 zs → Calls Try.prog 35 #[.slice A2 m c2, .slice A3 m c3] w' (BoolIs w' true)) := Lib.hid (fun A2 A3 c2 c3 w' r2 r3 => by
      have := equalU_any A2 A3 c2 c3 zs zs w' r2 r3 (by omega)
      rw [eqB_self, hlm] at this
      exact this)
    have HAM : Hid (∀ A2 A3 c2 c3 w', Rd w' A2 c2 (List.replicate m (0 : Int)) → Rd w' A3 c3 zs → Calls Try.prog 30 #[.slice A2 m c2, .slice A3 m c3] w' fun e w'' => e = .returned (.bool true) ∧ ∃ q, w'' = w'.drewN q) := Lib.hid (fun A2 A3 c2 c3 w' r2 r3 =>
      atMostT_any A2 A3 c2 c3 m _ _ w' r2 r3 (by simp) hlm (by omega) (fun k x y hx hy => pls_zero m k x y hx (hnn k y hy)))
    have hnz : (((m : Nat) : Int) == 0) = false := beq_eq_false_iff_ne.2 (by omega)
    have HZL := Lib.hid hlm
    clear HI HS HG hzs hgm hlm hnn hv hl6 hl6'
    go_wp2_with fail
    refine (HI2.out w1 hR).mono ?_
    rintro e w2 ⟨A2, c2, rfl, o2, b2⟩
    obtain ⟨g2, rfl⟩ := own_some4 o2 (by have := HZL.out; omega)
    have B2 := b1.trans (b2.mono b1.size)
    have hR2 := hR.below b2
    go_wp2_with fail
    refine (HS2.out w2 hR2).mono ?_
    rintro e w3 ⟨A3, c3, rfl, o3, b3⟩
    have B3 := B2.trans (b3.mono B2.size)
    have o23 := o2.below b3
    have hR3 := hR2.below b3
    have HQ3 := Lib.hid (HQ.out _ A3 c2 c3 w3 o23.rd o3.rd)
    clear o3 o2 b2 B2 b1 hR hR2 b3
    go_wp2_with fail
    refine HQ3.out.mono ?_
    rintro e w4 ⟨rfl, n4, rfl⟩
    have hR4 := hR3.drewN n4
    have o24 := o23.drewN n4
    have B4 := below_drewN' B3 n4
    clear hR3 o23 B3 HQ3
    go_wp2_with fail
    refine (HG2.out _ c2 _ hR4 o24.rd (by have := o24.cap.1; have := HZL.out; omega)).mono ?_
    rintro e w5 ⟨rfl, b5⟩
    have B5 := below_then B4 b5
    have o25 := o24.below b5
    clear b5 B4 o24 hR4 HG2 HI2 HS2 HQ
    go_wp2_with fail
    refine upon_make_ints w5.heap.size m (by omega) (Nat.le_refl _) ?_
    intro w6 ho6 hb6
    go_wp2_with fail
    refine (HAM.out _ _ _ _ w6 ho6.rd (o25.below hb6).rd).mono ?_
    rintro e w7 ⟨rfl, q, rfl⟩
    go_wp2
    go_ret
    exact ⟨rfl, below_drewN' (below_then B5 hb6) q⟩
  · have hz := mp_no hv
    rw [hz] at HI HS
    clear hl6 hl6' hv HG hz
    go_wp2_with fail
    refine (HI.out w1 hR).mono ?_
    rintro e w2 ⟨A2, c2, rfl, o2, b2⟩
    have B2 := b1.trans (b2.mono b1.size)
    go_wp2_with fail
    refine (HS.out w2 (hR.below b2)).mono ?_
    rintro e w3 ⟨A3, c3, rfl, o3, b3⟩
    have B3 := B2.trans (b3.mono B2.size)
    have o23 := o2.below b3
    have HQ := Lib.hid (equalU_any A2 A3 c2 c3 [] [] w3 o23.rd o3.rd (by simp))
    rw [eqB_self] at HQ
    have hR3 := (hR.below b2).below b3
    go_wp2_with fail
    refine HQ.out.mono ?_
    rintro e w4 ⟨rfl, n4, hw4⟩
    have b4 : Below w3.heap.size w3 w4 := by rw [hw4]; exact below_drewN' (Below.refl _ _) n4
    clear hw4 HQ
    go_wp2_with fail
    refine (HS.out w4 (hR3.below b4)).mono ?_
    rintro e w5 ⟨A5, c5, rfl, o5, b5⟩
    have b35 := b4.trans (b5.mono b4.size)
    have HQ2 := Lib.hid (equalU_any A2 A5 c2 c5 [] [] w5 (o23.below b35).rd o5.rd (by simp))
    rw [eqB_self] at HQ2
    have B5 := B3.trans (b35.mono B3.size)
    go_wp2_with fail
    refine HQ2.out.mono ?_
    rintro e w6 ⟨rfl, n6, rfl⟩
    go_wp2
    go_ret
    exact ⟨rfl, below_drewN' B5 n6⟩
end Go.Proofs.Ytpildecpabeanaa
