/-
  Chapter 9: lists that are slices of payments: marked, held, kept; LeastCore of both sides.
-/
import Derived.Test.YtpildecpabeanabG25
import Derived.Test.YtpildecpabeanabG36
import Derived.Test.YtpildecpabeanabG03
namespace Go.Proofs.Ytpildecpabeanab
open Go.RowKit

/-- A slice that was there when the heap had the size N. -/
def OldRd (N : Nat) (w : World) (A : Option Addr) (c : Nat) (zs : List Int) : Prop := Rd w A c zs ∧ ∀ g, ofA A = some g → g < N
theorem OldRd.of {w : World} {A : Option Addr} {c : Nat} {zs : List Int} (h : Rd w A c zs) (hz : A = none ∨ 1 ≤ zs.length) : OldRd w.heap.size w A c zs := by
  refine ⟨h, fun g hg => ?_⟩
  rcases hz with rfl | hz
  · cases hg
  · obtain ⟨b, off, x, rfl, hb, _⟩ := h.at_ (k := 0) (by omega)
    have : b = g := by simpa [ofA] using hg
    omega
theorem OldRd.keepb {N : Nat} {w w' : World} {A : Option Addr} {c : Nat} {zs : List Int} (h : OldRd N w A c zs) (hb : ∀ g, g < N → w'.heap[g]? = w.heap[g]?) : OldRd N w' A c zs := by
  refine ⟨?_, h.2⟩
  rcases h.1 with h1 | ⟨b, off, rfl, hc⟩
  · exact .inl h1
  · refine .inr ⟨b, off, rfl, fun k hk => ?_⟩
    rw [← hc k hk]
    unfold World.cell?
    rw [hb b (h.2 b rfl)]
theorem OldRd.below {N : Nat} {w w' : World} {A : Option Addr} {c : Nat} {zs : List Int} (h : OldRd N w A c zs) (hN : N ≤ w.heap.size) (hb : Below w.heap.size w w') : OldRd N w' A c zs :=
  h.keepb (fun g hg => hb.block g (by omega))
theorem OldRd.drewN {N : Nat} {w : World} {A : Option Addr} {c : Nat} {zs : List Int} (h : OldRd N w A c zs) (n : Nat) : OldRd N (w.drewN n) A c zs := h

set_option maxHeartbeats 400000 in
theorem markPm_any (M : Nat) (xs ys : List Int) (k : Int) (w : World) (h : Pm w M (xs ++ ys)) (hl : xs.length ≤ 4) (hk0 : 0 ≤ k) (hk1 : k ≤ 1099511627776) :
    Calls Try.prog 25 #[.slice (some ⟨M, 0, none⟩) xs.length 4, .int .i64 k] w fun e w' => e = .returned (.int .i64 (k + xs.length)) ∧ Pm w' M (upF k xs.length ++ ys) ∧ w.grownBy w' (some M) := by
  go_enter Try.func25, Try.ntmps25
  go_wp2
  go_loopw [1, 5] (fun q i wr => ∃ j : Nat, j ≤ xs.length ∧ i = .int .i64 j ∧ q = .int .i64 (k + j) ∧ Hid (Pm wr M (markd k xs j ++ ys) ∧ w.grownBy wr (some M)))
    (fun _ i _ => xs.length - (intOf i).toNat)
  case atStart => exact ⟨0, Nat.zero_le _, rfl, by simp, Lib.hid ⟨by rw [markd_zero]; exact h, World.grownBy.refl _ _⟩⟩
  case round =>
    obtain ⟨j, hj, rfl, rfl, HO⟩ := hrel
    by_cases hlt : j < xs.length
    · have hz := HO.out.1
      have hc := hz.cell (k := j) (by omega)
      have hf := hz.free j
      obtain ⟨x, hx⟩ : ∃ x, x = T (markd k xs j ++ ys) j := ⟨_, rfl⟩
      rw [← hx] at hc
      have HS : Hid (Pm (wr.setCell ⟨M, j, none⟩ (.int .i64 (k + j))) M (markd k xs (j + 1) ++ ys) ∧ w.grownBy (wr.setCell ⟨M, j, none⟩ (.int .i64 (k + j))) (some M)) := Lib.hid (by
        have h1 := hz.set_ (k := j) (k + j)
        rw [List.set_append_left _ _ (by rw [markd_len k xs j (by omega)]; exact hlt), markd_set k xs j hlt] at h1
        exact ⟨h1, HO.out.2.trans (grown_set wr M j _)⟩)
      have hl8 : xs.length ≤ 8 := by omega
      clear hz hx h hl
      go_wp2
      go_roundw
      case rel => exact ⟨j + 1, by omega, by go_num, by go_num, HS⟩
      case measure => simp [intOf]; omega
    · obtain rfl : j = xs.length := by omega
      go_wp2
      go_ret
      exact ⟨rfl, by rw [← markd_all]; exact HO.out.1, HO.out.2⟩

/-- A slice of the call's own, or payments of its own that are sliced. -/
def Own5 (w : World) (B : Nat) (A : Option Addr) (c : Nat) (zs : List Int) : Prop := Own w B A c zs ∨ ∃ M ys, A = some ⟨M, 0, none⟩ ∧ c = 4 ∧ zs.length ≤ 4 ∧ B ≤ M ∧ Pm w M (zs ++ ys)
theorem pm_rd {w : World} {M : Nat} {zs ys : List Int} (h : Pm w M (zs ++ ys)) (hl : zs.length ≤ 4) (c : Nat) : Rd w (some ⟨M, 0, none⟩) c zs := .inr ⟨M, 0, rfl, fun k hk => by
  rw [Nat.zero_add, h.cell (by omega)]
  simp [T, List.getD_eq_getElem?_getD, List.getElem?_append_left hk]⟩
theorem Own5.rd {w : World} {B : Nat} {A : Option Addr} {c : Nat} {zs : List Int} (h : Own5 w B A c zs) : Rd w A c zs := by
  rcases h with h | ⟨M, ys, rfl, rfl, hl, _, h⟩
  · exact h.rd
  · exact pm_rd h hl 4
theorem Own5.below {w w' : World} {B : Nat} {A : Option Addr} {c : Nat} {zs : List Int} (h : Own5 w B A c zs) (hb : Below w.heap.size w w') : Own5 w' B A c zs := by
  rcases h with h | ⟨M, ys, rfl, rfl, hl, hB, h⟩
  · exact .inl (h.below hb)
  · exact .inr ⟨M, ys, rfl, rfl, hl, hB, h.keep (hb.block _ h.lt)⟩
theorem Own5.drewN {w : World} {B : Nat} {A : Option Addr} {c : Nat} {zs : List Int} (h : Own5 w B A c zs) (n : Nat) : Own5 (w.drewN n) B A c zs := h
theorem Own5.blk {w : World} {B k : Nat} {A : Option Addr} {c : Nat} {xs : List Int} (h : Own5 w B A c xs) (hk : ofA A = some k) : B ≤ k ∧ k < w.heap.size := by
  rcases h with h | ⟨M, ys, rfl, rfl, _, hM, h⟩
  · exact own_blk h hk
  · obtain rfl : M = k := by simpa [ofA] using hk
    exact ⟨hM, h.lt⟩
theorem Own5.keepb {w w' : World} {B : Nat} {A : Option Addr} {c : Nat} {zs : List Int} (h : Own5 w B A c zs) (hb : ∀ g, ofA A = some g → w'.heap[g]? = w.heap[g]?) : Own5 w' B A c zs := by
  rcases h with h | ⟨M, ys, rfl, rfl, hl, hB, h⟩
  · exact .inl (own_keepb h hb)
  · exact .inr ⟨M, ys, rfl, rfl, hl, hB, h.keep (hb M rfl)⟩
theorem Own5.grownBelow {w w' wa : World} {B B0 : Nat} {A0 : Option Addr} {c0 : Nat} {xs : List Int} (hb : Below B0 wa w) (ho : Own5 w B A0 c0 xs) (hs : B0 ≤ B) (hw : B0 ≤ w.heap.size) (hg : w.grownBy w' (ofA A0)) : Below B0 wa w' :=
  hb.grown hg hw (fun _ hk => Nat.le_trans hs (ho.blk hk).1)
theorem markIntS5_any (A : Option Addr) (c : Nat) (xs : List Int) (k : Int) (B : Nat) (w : World) (h : Own5 w B A c xs) (hl : xs.length ≤ 1099511627776) (hk0 : 0 ≤ k) (hk1 : k ≤ 1099511627776) :
    Calls Try.prog 25 #[.slice A xs.length c, .int .i64 k] w fun e w' => e = .returned (.int .i64 (k + xs.length)) ∧ Own5 w' B A c (upF k xs.length) ∧ w.grownBy w' (ofA A) := by
  rcases h with h | ⟨M, ys, rfl, rfl, hl4, hM, h⟩
  · exact (markIntS_any A c xs k B w h hl hk0 hk1).mono fun e w' ⟨h1, h2, h3⟩ => ⟨h1, .inl h2, h3⟩
  · exact (markPm_any M xs ys k w h hl4 hk0 hk1).mono fun e w' ⟨h1, h2, h3⟩ => ⟨h1, .inr ⟨M, ys, rfl, rfl, by rw [upF_len]; exact hl4, hM, h2⟩, h3⟩
theorem OldRd.grown {N B : Nat} {w w' : World} {A A5 : Option Addr} {c c5 : Nat} {zs xs : List Int} (h : OldRd N w A c zs) (ho : Own5 w B A5 c5 xs) (hNB : N ≤ B) (hN : N ≤ w.heap.size) (hg : w.grownBy w' (ofA A5)) : OldRd N w' A c zs :=
  h.keepb (fun g hgN => hg.block g (by omega) (fun e => by have := (ho.blk (k := g) (by first | exact e | exact e.symm)).1; omega))

theorem at0_list {l : List Int} {b : Nat → Int} {n : Nat} (hn : n ≤ 4) (h : l = (pmL b).take n) : ∀ i, i < n → at0 l i = b i := by
  intro i hi
  subst h
  unfold at0
  rw [List.getD_eq_getElem?_getD, List.getElem?_take_of_lt hi]
  have : i = 0 ∨ i = 1 ∨ i = 2 ∨ i = 3 := by omega
  rcases this with rfl | rfl | rfl | rfl <;> rfl

theorem LeastCore_both (rows : List (List Int)) : ∃ (zs : List Int) (m : Int), zs.length ≤ 1000 ∧ (rows.length ≤ 1099511627776 → (∀ r ∈ rows, r.length ≤ 1099511627776) →
    (∀ A c w, RdR w A c rows → Calls Try.prog 20 #[.slice A rows.length c] w fun e w' => ∃ A c, e = .returned (.tuple #[.slice A zs.length c, .int .i64 m]) ∧ OldRd w'.heap.size w' A c zs ∧ Below w.heap.size w w') ∧
    (∀ A c w, RdR w A c rows → Calls Try.prog 22 #[.slice A rows.length c] w fun e w' => ∃ A c, e = .returned (.tuple #[.slice A zs.length c, .int .i64 m]) ∧ Own5 w' w.heap.size A c zs ∧ Below w.heap.size w w')) := by
  by_cases hv : VTs rows ∧ rows.length ≤ 3
  · have h4 : rows.length ≤ 4 := by omega
    have h1 := hv.1.1.1
    refine ⟨lcF rows, sm4 (at0 (lcF rows)), by rw [lcF_len hv.1.2 h4]; omega, fun hl hl2 => ⟨fun A c w h => (SLeastCore_any A c rows w h hl hl2).mono ?_, fun A c w h => (LeastCore_any A c rows w h hl2).mono ?_⟩⟩
    · rintro e w' ⟨hb, ⟨_, A', c', l, rfl, hr, hll, hlc⟩ | ⟨hn, _⟩⟩
      · have e := lc_eq hv.1.2 h4 hll hlc
        subst e
        exact ⟨A', c', rfl, OldRd.of hr (.inr (by omega)), hb⟩
      · exact absurd hv hn
    · rintro e w' ⟨hb, ⟨_, M, b, rfl, hpm, hM, hlc⟩ | ⟨hn, _⟩⟩
      · have hs := hlc.same hv.1.2 (lcF_is hv.1.2 h4)
        have hsum : sm4 b = sm4 (at0 (lcF rows)) := by
          unfold sm4
          rw [hs 0 (by omega), hs 1 (by omega), hs 2 (by omega), hs 3 (by omega)]; rfl
        have hlist : lcF rows = (pmL b).take rows.length := by
          apply List.ext_getElem?
          intro i
          rcases Nat.lt_or_ge i rows.length with h' | h'
          · have e1 : i < (lcF rows).length := by rw [lcF_len hv.1.2 h4]; exact h'
            have e2 := hs i (by omega)
            rw [List.getD_eq_getElem?_getD, List.getElem?_eq_getElem e1, Option.getD_some] at e2
            rw [List.getElem?_eq_getElem e1, List.getElem?_take_of_lt h', ← e2]
            have : i = 0 ∨ i = 1 ∨ i = 2 ∨ i = 3 := by omega
            rcases this with rfl | rfl | rfl | rfl <;> rfl
          · rw [List.getElem?_eq_none (by rw [lcF_len hv.1.2 h4]; exact h'), List.getElem?_eq_none (by rw [List.length_take]; omega)]
        refine ⟨_, 4, by rw [lcF_len hv.1.2 h4, hsum], .inr ⟨M, (pmL b).drop rows.length, rfl, rfl, by rw [lcF_len hv.1.2 h4]; omega, hM, ?_⟩, hb⟩
        rw [hlist, List.take_append_drop]; exact hpm
      · exact absurd hv hn
  · refine ⟨[], -1, by simp, fun hl hl2 => ⟨fun A c w h => (SLeastCore_any A c rows w h hl hl2).mono ?_, fun A c w h => (LeastCore_any A c rows w h hl2).mono ?_⟩⟩
    · rintro e w' ⟨hb, ⟨hy, _⟩ | ⟨_, rfl⟩⟩
      · exact absurd hy hv
      · exact ⟨none, 0, rfl, OldRd.of (Rd.nil _) (.inl rfl), hb⟩
    · rintro e w' ⟨hb, ⟨hy, _⟩ | ⟨_, rfl⟩⟩
      · exact absurd hy hv
      · exact ⟨none, 0, rfl, .inl (own_none _ _), hb⟩

end Go.Proofs.Ytpildecpabeanab

/-
  The walk of the exact law of LeastCore.
-/
namespace Go.Proofs.Ytpildecpabeanab
open Go.RowKit

set_option maxRecDepth 100000 in
set_option maxHeartbeats 4000000 in
theorem fnExactLeastCore_walk {A : Option Addr} {c : Nat} {rows : List (List Int)} {w : World} (h0 : CameR w A c rows) :
    Calls Try.prog 7 #[.slice A rows.length c] w fun e w' => e = .returned (.bool true) ∧ Below w.heap.size w w' := by
  have h := h0.1
  have HSZ := Lib.hid (szIntSS_any A c rows w h h0.2.1 h0.2.2)
  obtain ⟨zs, m, hzl, hbo⟩ := LeastCore_both rows
  have hvv : (m != m) = false := by simp
  have HBO := Lib.hid hbo
  have hzl2 : zs.length ≤ 1099511627776 := by omega
  clear h0 hbo
  go_enter Try.func7, Try.ntmps7
  go_wp2_with fail
  refine HSZ.out.mono ?_
  rintro e w1 ⟨⟨z, rfl, hz⟩, n1, rfl⟩
  rcases hz with ⟨rfl, _⟩ | ⟨hz0, hs⟩
  · go_wp2
    go_ret
    exact ⟨rfl, below_drewN' (Below.refl _ _) n1⟩
  have hzn : decide (z < 0) = false := by simp; omega
  obtain ⟨hSb, hIb⟩ := HBO.out (by have := szR_len hs; omega) (szR_each hs)
  have HS := Lib.hid hSb
  have HI := Lib.hid hIb
  have HZ := Lib.hid hs
  clear hSb hIb hs HBO HSZ hz0
  go_wp2_with fail
  refine (toIntSS_any A c rows (w.drewN n1) (h.drewN n1) HZ.out).mono ?_
  rintro e w2 ⟨v2, ps2, rfl, R2, hm2, b2⟩
  have B2 : Below w.heap.size w w2 := (below_drewN' (Below.refl _ w) n1).trans b2
  obtain ⟨A2, c2, rfl, hR2⟩ := R2.rdr hm2
  go_wp2_with fail
  refine (HS.out A2 c2 w2 hR2).mono ?_
  rintro e w3 ⟨A3, c3, rfl, o3, b3⟩
  have B3 := B2.trans (b3.mono B2.size)
  clear R2 hm2 hR2 b2 b3 B2
  go_wp2_with fail
  refine (toIntSS_any A c rows w3 (h.below B3) HZ.out).mono ?_
  rintro e w4 ⟨v4, ps4, rfl, R4, hm4, b4⟩
  have B4 := B3.trans (b4.mono B3.size)
  obtain ⟨hpl, hps, hpe⟩ := nums_sz hm4 HZ.out
  have HPE := Lib.hid hpe
  have HM4 := Lib.hid hm4
  have hlen4 : ps4.length = rows.length := by have := congrArg List.length hm4; simpa using this
  have o34 := o3.below (Nat.le_refl _) b4
  have HPB : Hid (∀ p ∈ ps4, w3.heap.size ≤ p.1) := Lib.hid (fun p hp => (R4.each p hp).ge)
  have hs4 : w3.heap.size ≤ w4.heap.size := b4.size
  obtain ⟨A4, c4, rfl, hR4⟩ := R4.rdr hm4
  clear hpe hm4 o3
  go_wp2_with fail
  refine (HI.out A4 c4 w4 hR4).mono ?_
  rintro e w5 ⟨A5, c5, rfl, o5, b5⟩
  have B5 := B4.trans (b5.mono B4.size)
  have R5 := R4.below b5
  have o35 := o34.below hs4 b5
  have HA5 : Hid (∀ p ∈ ps4, ofA A5 ≠ some p.1) := Lib.hid (fun p hp e => by have h1 := (o5.blk e).1; have h2 := (R4.each p hp).lt; omega)
  have hs5 : w3.heap.size ≤ w5.heap.size := Nat.le_trans b4.size b5.size
  have hs5' : w.heap.size ≤ w4.heap.size := B4.size
  have hs5'' : w.heap.size ≤ w3.heap.size := B3.size
  clear R4 o34 b5 hR4 b4 B4
  go_wp2_with fail
  refine (eqIntS_any A5 A3 c5 c3 zs zs w5 o5.rd o35.1 hzl2).mono ?_
  rw [eqB_self]
  rintro e w6 ⟨rfl, n6, rfl⟩
  have B6 := below_drewN' B5 n6
  go_wp2_with fail
  refine (toIntSS_any A c rows (w5.drewN n6) (h.below B6) HZ.out).mono ?_
  rintro e w7 ⟨v7, ps7, rfl, R7, hm7, b7⟩
  have B7 := B6.trans (b7.mono B6.size)
  have R57 : RowsU w7 w3.heap.size (.slice A4 rows.length c4) ps4 := RowsU.below (w := w5.drewN n6) (R5.below (below_drewN' (Below.refl _ _) n6)) b7
  have o57 := (o5.drewN n6).below b7
  have o37 := OldRd.below (w := w5.drewN n6) (o35.drewN n6) hs5 b7
  have hs7 : w3.heap.size ≤ w7.heap.size := Nat.le_trans hs5 b7.size
  have HEQ : Hid (ps4.map (·.2.2) = ps7.map (·.2.2)) := Lib.hid (by rw [HM4.out, hm7])
  clear R5 o5 o35 B5 B6 b7 hm7
  go_wp2_with fail
  refine (eqIntSSU w7 R57 R7 HEQ.out hpl HPE.out).mono ?_
  rintro e w8 ⟨rfl, b8⟩
  have B8 := B7.trans (b8.mono B7.size)
  have R58 := R57.below b8
  have o58 := o57.below b8
  have o38 := o37.below hs7 b8
  have hs8 : w3.heap.size ≤ w8.heap.size := Nat.le_trans hs7 b8.size
  clear R57 R7 o57 o37 B7 b8
  have hneg : decide (1 + (numsU ps4 : Int) < 0) = false := by simp; omega
  go_wp2_with fail
  refine (markIntSSV 1 w8 R58 hs8 hpl hps (by decide) (by decide)).mono ?_
  rintro e w9 ⟨rfl, R9, b9, keep9⟩
  have B9 : Below w.heap.size w w9 := B8.trans (b9.mono hs5'')
  have o59 := o58.keepb (fun g hg => keep9 g (o58.blk hg).2 (fun p hp e => HA5.out p hp (by rw [hg, e])))
  have o39 := o38.keepb (fun g hg => keep9 g (Nat.lt_of_lt_of_le hg hs8) (fun p hp e => by have := HPB.out p hp; omega))
  have hs9 : w3.heap.size ≤ w9.heap.size := Nat.le_trans hs8 b9.size
  clear R58 o58 o38 B8 b9 keep9 R9
  go_wp2_with fail
  refine (eqIntS_any A5 A3 c5 c3 zs zs w9 o59.rd o39.1 hzl2).mono ?_
  rw [eqB_self]
  rintro e w10 ⟨rfl, n10, rfl⟩
  have B10 := below_drewN' B9 n10
  go_wp2_with fail
  refine (markIntS5_any A5 c5 zs 1 w4.heap.size (w9.drewN n10) (o59.drewN n10) hzl2 (by decide) (by decide)).mono ?_
  rintro e w11 ⟨rfl, o11, g11⟩
  have B11 : Below w.heap.size w w11 := Own5.grownBelow B10 (o59.drewN n10) hs5' B10.size g11
  have o311 := OldRd.grown (w := w9.drewN n10) (o39.drewN n10) (o59.drewN n10) hs4 hs9 g11
  have hs11 : w3.heap.size ≤ w11.heap.size := Nat.le_trans hs9 g11.size
  clear o59 o39 B9 B10 g11
  have hneg2 : decide (1 + (zs.length : Int) < 0) = false := by simp; omega
  have hmm : ((1 + (zs.length : Int)) != (1 + (zs.length : Int))) = false := by simp
  go_wp2_with fail
  refine (heldIntS_any A5 c5 zs.length 1 w11 o11.rd hzl2 (by decide) (by decide)).mono ?_
  rintro e w12 ⟨rfl, rfl⟩
  go_wp2_with fail
  refine (toIntSS_any A c rows w11 (h.below B11) HZ.out).mono ?_
  rintro e w13 ⟨v13, ps13, rfl, R13, hm13, b13⟩
  have B13 := B11.trans (b13.mono B11.size)
  have o1113 := o11.below b13
  have o313 := o311.below hs11 b13
  have hs13 : w3.heap.size ≤ w13.heap.size := Nat.le_trans hs11 b13.size
  obtain ⟨A13, c13, rfl, hR13⟩ := R13.rdr hm13
  clear o11 o311 B11 b13 R13 hm13
  go_wp2_with fail
  refine (HI.out A13 c13 w13 hR13).mono ?_
  rintro e w14 ⟨A14, c14, rfl, o14, b14⟩
  have B14 := B13.trans (b14.mono B13.size)
  have o1114 := o1113.below b14
  have o314 := o313.below hs13 b14
  clear o1113 o313 B13 b14 hR13
  go_wp2_with fail
  refine (eqIntS_any A14 A3 c14 c3 zs zs w14 o14.rd o314.1 hzl2).mono ?_
  rw [eqB_self]
  rintro e w15 ⟨rfl, n15, rfl⟩
  go_wp2_with fail
  refine (heldIntS_any A5 c5 zs.length 1 (w14.drewN n15) (o1114.drewN n15).rd hzl2 (by decide) (by decide)).mono ?_
  rintro e w16 ⟨rfl, rfl⟩
  go_wp2
  go_ret
  exact ⟨rfl, below_drewN' B14 n15⟩

end Go.Proofs.Ytpildecpabeanab
