/-
  Chapter 10: TradesOf, TradeRange, TradeLess, TradeGain of both sides.
-/
import Derived.Test.YtpildecpabeanaaEn
import Derived.Test.YtpildecpabeanaaEh
namespace Go.Proofs.Ytpildecpabeanaa
open Go.RowKit

theorem STradeLess_yes (A A2 : Option Addr) (c c2 : Nat) (b s : List Int) (w : World) (h : Rd w A c b) (h2 : Rd w A2 c2 s) (hb : vB b = true) (hs : vB s = true) :
    Calls Try.prog 22 #[.slice A b.length c, .slice A2 s.length c2] w (TripIs w ((tlF b s).1 : Int) (tlF b s).2.1 (tlF b s).2.2) := by
  have HB := Lib.hid (vB_Bd hb)
  have HS := Lib.hid (vB_Bd hs)
  have HV := Lib.hid (validTrade_any A A2 c c2 b s w h h2 (by have := HB.out.1; omega) (by have := HS.out.1; omega))
  rw [hb, hs] at HV
  have HT := Lib.hid (SlessTrade_any A A2 c c2 b s w h h2 HB.out HS.out)
  clear h h2 hb hs
  go_enter Try.func22, Try.ntmps22
  go_wp2_with fail
  refine HV.out.mono ?_
  rintro e w1 ⟨rfl, rfl⟩
  go_wp2_with fail
  refine HT.out.mono ?_
  rintro e w1 ⟨rfl, b1⟩
  go_wp2
  go_ret3
  exact ⟨rfl, b1⟩

theorem STradeLess_no (A A2 : Option Addr) (c c2 : Nat) (b s : List Int) (w : World) (h : Rd w A c b) (h2 : Rd w A2 c2 s) (hl : b.length ≤ 1099511627776) (hl2 : s.length ≤ 1099511627776) (hv : (vB b && vB s) = false) :
    Calls Try.prog 22 #[.slice A b.length c, .slice A2 s.length c2] w (TripIs w (-1) (-1) (-1)) := by
  have HV := Lib.hid (validTrade_any A A2 c c2 b s w h h2 hl hl2)
  rw [hv] at HV
  clear h h2 hv
  go_enter Try.func22, Try.ntmps22
  go_wp2_with fail
  refine HV.out.mono ?_
  rintro e w1 ⟨rfl, rfl⟩
  go_wp2
  go_ret3
  exact ⟨rfl, Below.refl _ _⟩

set_option maxHeartbeats 2000000 in
theorem STradeGain_yes (A A2 : Option Addr) (c c2 : Nat) (b s : List Int) (i : Nat) (t v : Int) (w : World) (h : Rd w A c b) (h2 : Rd w A2 c2 s) (hb : vB b = true) (hs : vB s = true) (hv : b[i]? = some v) (ht : inR t 0 30 = true) :
    Calls Try.prog 25 #[.slice A b.length c, .slice A2 s.length c2, .int .i64 i, .int .i64 t] w (TwoIs w (tgF (b.set i t) s i v) true) := by
  have HB := Lib.hid (vB_Bd hb)
  have HS := Lib.hid (vB_Bd hs)
  have hi := (List.getElem?_eq_some_iff.1 hv).1
  have ht' := inR_true.1 ht
  obtain ⟨d, hd⟩ : ∃ d, d = b.set i t := ⟨_, rfl⟩
  have hdv : vB d = true := by rw [hd]; exact said_vB hb ht'.1 ht'.2
  have HDB := Lib.hid (vB_Bd hdv)
  have hdl : d.length = b.length := by rw [hd, List.length_set]
  have HDL := Lib.hid hdl
  have hvb := HB.out.2 v (List.mem_of_getElem? hv)
  have h6 := HB.out.1.2
  obtain ⟨bb, ob, rfl, hcell⟩ := h.open_ HB.out.1.1
  have hcv := hcell i v hv
  have HVT := Lib.hid ((validTrade_any _ A2 c c2 b s w h h2 (by omega) (by have := HS.out.1; omega)).mono (R' := fun e w' => e = .returned (.bool true) ∧ w = w') (by rw [hb, hs]; exact fun _ _ h => h))
  have HI1 := Lib.hid ((inRange_any (i : Int) 0 ((b.length : Int) - 1) w).mono (R' := fun e w' => e = .returned (.bool true) ∧ w = w') (by rw [inR_true.2 ⟨by omega, by omega⟩]; exact fun _ _ h => h))
  have HI2 := Lib.hid ((inRange_any t 0 30 w).mono (R' := fun e w' => e = .returned (.bool true) ∧ w = w') (by rw [ht]; exact fun _ _ h => h))
  have HWB := Lib.hid (withBid_is _ c b i t w hd h hi (by omega))
  obtain ⟨n, hn⟩ : ∃ n, n = (tlF d s).1 := ⟨_, rfl⟩
  obtain ⟨y, hy⟩ : ∃ y, y = (tlF d s).2.1 := ⟨_, rfl⟩
  obtain ⟨z, hz⟩ : ∃ z, z = (tlF d s).2.2 := ⟨_, rfl⟩
  have HLT := Lib.hid (fun (g c : Nat) (w1 : World) (hb1 : Below w.heap.size w w1) (h1 : Rd w1 (some ⟨g, 0, none⟩) c d) => (by
    have := SlessTrade_any (some ⟨g, 0, none⟩) A2 c c2 d s w1 h1 (h2.below hb1) HDB.out HS.out
    rwa [← hn, ← hy, ← hz, hdl] at this : Calls Try.prog 61 #[.slice (some ⟨g, 0, none⟩) b.length c, .slice A2 s.length c2] w1 (TripIs w1 (n : Int) y z)))
  have HIO := Lib.hid (fun (g c : Nat) (w1 : World) (h1 : Rd w1 (some ⟨g, 0, none⟩) c d) => inOrder_dnI (n := b.length) (some ⟨g, 0, none⟩) c d w1 hdl h1 h6)
  have HG1 : Hid (∀ k, k < n → (ordF (fun j => d.getD j 0) d.length)[k]? = some i → tgF d s i v = v - y) := Lib.hid (fun k hk ho => by
    have hp := ord_place ho
    have hn' := hn
    unfold tlF at hn'
    unfold tgF
    by_cases h0 : trOf d s = 0
    · rw [if_pos h0] at hn'; simp at hn'; omega
    · rw [if_neg h0] at hn'
      simp at hn'
      rw [if_pos (by omega), hy]
      unfold tlF
      rw [if_neg h0])
  have HG0 : Hid ((∀ k, k < n → (ordF (fun j => d.getD j 0) d.length)[k]? ≠ some i) → tgF d s i v = 0) := Lib.hid (fun hno => by
    have ho := ord_has (xs := d) (i := i) (by omega)
    have hp : ¬ posF d i < n := fun hlt => hno _ hlt ho
    unfold tgF
    rw [if_neg]
    intro hlt
    apply hp
    rw [hn]
    unfold tlF
    rw [if_neg (by omega)]
    exact hlt)
  have hnb : n ≤ b.length := by
    rw [hn]; unfold tlF
    split
    · simp
    · have := (trOf_le d s).1; simp; omega
  have HYB : Hid (0 ≤ y ∧ y ≤ 30) := Lib.hid (by
    rw [hy]; unfold tlF
    split
    · simp
    · rename_i h0
      obtain ⟨x1, y1, _, hx1, _, hle, h01, h30⟩ := deals_at HDB.out HS.out (show trOf d s - 1 < trOf d s by omega)
      show 0 ≤ (dnL d).getD _ 0 ∧ (dnL d).getD _ 0 ≤ 30
      rw [List.getD_eq_getElem?_getD, hx1, Option.getD_some]; omega)
  have HOL : Hid (∀ k, k < n → ∃ j : Nat, (ordF (fun j => d.getD j 0) d.length)[k]? = some j) := Lib.hid (fun k hk => by
    obtain ⟨j, hj, _⟩ := ord_at (f := fun j => d.getD j 0) (n := d.length) (k := k) (by omega)
    exact ⟨j, hj⟩)
  rw [← hd]
  obtain ⟨G, hG⟩ : ∃ G, G = tgF d s i v := ⟨_, rfl⟩
  obtain ⟨L, hL⟩ : ∃ L, L = ordF (fun j => d.getD j 0) d.length := ⟨_, rfl⟩
  rw [← hG] at HG1 HG0 ⊢
  rw [← hL] at HG1 HG0 HIO HOL
  have hw0 : IntKind.i64.wrap ((b.length : Int) - 1) = (b.length : Int) - 1 := IntWalk.i64_in _ (by omega)
  have hw : IntKind.i64.wrap (v - y) = v - y := IntWalk.i64_in _ (by have := HYB.out; omega)
  clear h h2 hb hs hv ht ht' hd hdv hdl hcell hn hy hz HB HS HDB HYB hG hL
  go_enter Try.func25, Try.ntmps25
  go_wp2_with fail
  refine HVT.out.mono ?_
  rintro e w1 ⟨rfl, rfl⟩
  go_wp2_with fail
  refine HI1.out.mono ?_
  rintro e w1 ⟨rfl, rfl⟩
  go_wp2_with fail
  refine HI2.out.mono ?_
  rintro e w1 ⟨rfl, rfl⟩
  go_wp2_with fail
  refine HWB.out.mono ?_
  rintro e w1 ⟨g, c1, hee, o1, b1⟩
  rw [HDL.out] at hee
  subst hee
  have HR1 := Lib.hid o1.rd
  clear o1
  go_wp2_with fail
  refine (HLT.out _ _ _ b1 HR1.out).mono ?_
  rintro e w2 ⟨rfl, b2⟩
  have HB2 := Lib.hid (b1.trans (b2.mono b1.size))
  have HR2 := Lib.hid (HR1.out.below b2)
  clear b1 b2
  go_wp2_with fail
  refine (HIO.out _ _ _ HR2.out).mono ?_
  rintro e w3 ⟨g3, c3, rfl, o3, b3⟩
  have HB3 := Lib.hid (HB2.out.trans (b3.mono HB2.out.size))
  have HO3 := Lib.hid o3
  have hcv3 := (HB3.out.cell (p := ⟨bb, ob + i, none⟩) (World.block_lt_of_cell? w _ hcv)).trans hcv
  clear o3 b3
  go_wp2
  go_loopw [15] (fun kv wr => ∃ k q : Nat, k ≤ n ∧ kv = .int .i64 (k : Int) ∧ wr = w3.drewN q ∧ Hid (∀ j, j < k → L[j]? ≠ some i)) (fun kv _ => n - (intOf kv).toNat)
  case atStart => exact ⟨0, 0, Nat.zero_le _, rfl, rfl, Lib.hid (fun j hj => absurd hj (by omega))⟩
  case round =>
    obtain ⟨k, q, hk, rfl, rfl, HN⟩ := hrel
    by_cases hlt : k < n
    · obtain ⟨j, hj⟩ := HOL.out k hlt
      have hcj := HO3.out.cell (lstN_at hj)
      have hkb : k < b.length := by omega
      by_cases hji : j = i
      · subst hji
        have HE := Lib.hid (HG1.out k hlt hj)
        clear hj
        go_wp2
        go_ret2
        exact ⟨by rw [HE.out]; rfl, below_drewN' HB3.out _⟩
      · have hne : ((j : Int) == (i : Int)) = false := by simp; omega
        have HN' : Hid (∀ j, j < k + 1 → L[j]? ≠ some i) := Lib.hid (fun q hq => by
          rcases Nat.lt_or_ge q k with h1 | h1
          · exact HN.out q h1
          · obtain rfl : q = k := by omega
            rw [hj]; intro e; exact hji (Option.some.inj e))
        clear hj hji
        go_wp2
        go_roundw
        case rel => exact ⟨k + 1, _, by omega, by go_num, rfl, HN'⟩
        case measure => simp [intOf]; omega
    · obtain rfl : k = n := by omega
      have HE := Lib.hid (HG0.out HN.out)
      go_wp2
      go_ret2
      exact ⟨by rw [HE.out]; rfl, below_drewN' HB3.out _⟩

set_option maxRecDepth 100000 in
set_option maxHeartbeats 2000000 in
theorem STradeGain_no {vb ib tb : Bool} (A A2 : Option Addr) (c c2 : Nat) (b s : List Int) (i t : Int) (w : World) (h : Rd w A c b) (h2 : Rd w A2 c2 s) (hl : b.length ≤ 1048576) (hl2 : s.length ≤ 1048576)
    (hv : (vB b && vB s) = vb) (hi : inR i 0 ((b.length : Int) - 1) = ib) (ht : inR t 0 30 = tb) (hno : (vb && (ib && tb)) = false) :
    Calls Try.prog 25 #[.slice A b.length c, .slice A2 s.length c2, .int .i64 i, .int .i64 t] w (TwoIs w 0 false) := by
  have HV := Lib.hid ((validTrade_any A A2 c c2 b s w h h2 (by omega) (by omega)).mono (R' := fun e w' => e = .returned (.bool vb) ∧ w = w') (by rw [hv]; exact fun _ _ h => h))
  have H1 := Lib.hid ((inRange_any i 0 ((b.length : Int) - 1) w).mono (R' := fun e w' => e = .returned (.bool ib) ∧ w = w') (by rw [hi]; exact fun _ _ h => h))
  have H2 := Lib.hid ((inRange_any t 0 30 w).mono (R' := fun e w' => e = .returned (.bool tb) ∧ w = w') (by rw [ht]; exact fun _ _ h => h))
  have hw0 : IntKind.i64.wrap ((b.length : Int) - 1) = (b.length : Int) - 1 := IntWalk.i64_in _ (by omega)
  clear hv hi ht h h2
  rcases vb with _ | _
  · clear hno
    go_enter Try.func25, Try.ntmps25
    go_wp2_with fail
    refine HV.out.mono ?_
    rintro e w1 ⟨rfl, rfl⟩
    go_wp2
    go_ret2
    exact ⟨rfl, Below.refl _ _⟩
  · rcases ib with _ | _
    · clear hno
      go_enter Try.func25, Try.ntmps25
      go_wp2_with fail
      refine HV.out.mono ?_
      rintro e w1 ⟨rfl, rfl⟩
      go_wp2_with fail
      refine H1.out.mono ?_
      rintro e w1 ⟨rfl, rfl⟩
      go_wp2
      go_ret2
      exact ⟨rfl, Below.refl _ _⟩
    · rcases tb with _ | _
      · clear hno
        go_enter Try.func25, Try.ntmps25
        go_wp2_with fail
        refine HV.out.mono ?_
        rintro e w1 ⟨rfl, rfl⟩
        go_wp2_with fail
        refine H1.out.mono ?_
        rintro e w1 ⟨rfl, rfl⟩
        go_wp2_with fail
        refine H2.out.mono ?_
        rintro e w1 ⟨rfl, rfl⟩
        go_wp2
        go_ret2
        exact ⟨rfl, Below.refl _ _⟩
      · exact absurd hno (by decide)

/-- Two numbers, of both sides. -/
theorem TradesOf_both (b s : List Int) (hl : b.length ≤ 1048576) (hl2 : s.length ≤ 1048576) : ∃ (x y : Int),
    (∀ A c A2 c2 w, Rd w A c b → Rd w A2 c2 s → Calls Try.prog 16 #[.slice A b.length c, .slice A2 s.length c2] w (PairIs w x y)) ∧
    (∀ A c A2 c2 w, Rd w A c b → Rd w A2 c2 s → Calls Try.prog 15 #[.slice A b.length c, .slice A2 s.length c2] w (PairIs w x y)) := by
  cases hv : vB b && vB s with
  | true =>
    simp only [Bool.and_eq_true] at hv
    exact ⟨_, _, fun A c A2 c2 w h h2 => STradesOf_yes A A2 c c2 b s w h h2 hv.1 hv.2, fun A c A2 c2 w h h2 => TradesOf_yes A A2 c c2 b s w h h2 hv.1 hv.2⟩
  | false => exact ⟨_, _, fun A c A2 c2 w h h2 => STradesOf_no A A2 c c2 b s w h h2 (by omega) (by omega) hv, fun A c A2 c2 w h h2 => TradesOf_no A A2 c c2 b s w h h2 (by omega) (by omega) hv⟩
theorem TradeRange_both (b s : List Int) (hl : b.length ≤ 1048576) (hl2 : s.length ≤ 1048576) : ∃ (x y : Int),
    (∀ A c A2 c2 w, Rd w A c b → Rd w A2 c2 s → Calls Try.prog 19 #[.slice A b.length c, .slice A2 s.length c2] w (PairIs w x y)) ∧
    (∀ A c A2 c2 w, Rd w A c b → Rd w A2 c2 s → Calls Try.prog 18 #[.slice A b.length c, .slice A2 s.length c2] w (PairIs w x y)) := by
  cases hv : vB b && vB s with
  | true =>
    simp only [Bool.and_eq_true] at hv
    exact ⟨_, _, fun A c A2 c2 w h h2 => STradeRange_yes A A2 c c2 b s w h h2 hv.1 hv.2, fun A c A2 c2 w h h2 => TradeRange_yes A A2 c c2 b s w h h2 hv.1 hv.2⟩
  | false => exact ⟨_, _, fun A c A2 c2 w h h2 => STradeRange_no A A2 c c2 b s w h h2 (by omega) (by omega) hv, fun A c A2 c2 w h h2 => TradeRange_no A A2 c c2 b s w h h2 (by omega) (by omega) hv⟩
theorem TradeLess_both (b s : List Int) (hl : b.length ≤ 1048576) (hl2 : s.length ≤ 1048576) : ∃ (x y z : Int),
    (∀ A c A2 c2 w, Rd w A c b → Rd w A2 c2 s → Calls Try.prog 22 #[.slice A b.length c, .slice A2 s.length c2] w (TripIs w x y z)) ∧
    (∀ A c A2 c2 w, Rd w A c b → Rd w A2 c2 s → Calls Try.prog 21 #[.slice A b.length c, .slice A2 s.length c2] w (TripIs w x y z)) := by
  cases hv : vB b && vB s with
  | true =>
    simp only [Bool.and_eq_true] at hv
    exact ⟨_, _, _, fun A c A2 c2 w h h2 => STradeLess_yes A A2 c c2 b s w h h2 hv.1 hv.2, fun A c A2 c2 w h h2 => TradeLess_yes A A2 c c2 b s w h h2 hv.1 hv.2⟩
  | false => exact ⟨_, _, _, fun A c A2 c2 w h h2 => STradeLess_no A A2 c c2 b s w h h2 (by omega) (by omega) hv, fun A c A2 c2 w h h2 => TradeLess_no A A2 c c2 b s w h h2 (by omega) (by omega) hv⟩

/-- TradeGain of both sides: what it tells, or that there is nothing to tell. -/
theorem TradeGain_cases (b s : List Int) (i t : Int) (hl : b.length ≤ 1048576) (hl2 : s.length ≤ 1048576) :
    (∃ (j : Nat) (v : Int), i = (j : Int) ∧ b[j]? = some v ∧ vB b = true ∧ vB s = true ∧ inR t 0 30 = true ∧
      (∀ A c A2 c2 w, Rd w A c b → Rd w A2 c2 s → Calls Try.prog 25 #[.slice A b.length c, .slice A2 s.length c2, .int .i64 i, .int .i64 t] w (TwoIs w (tgF (b.set j t) s j v) true)) ∧
      (∀ A c A2 c2 w, Rd w A c b → Rd w A2 c2 s → Calls Try.prog 24 #[.slice A b.length c, .slice A2 s.length c2, .int .i64 i, .int .i64 t] w (TwoIs w (tgF (b.set j t) s j v) true))) ∨
    ((∀ A c A2 c2 w, Rd w A c b → Rd w A2 c2 s → Calls Try.prog 25 #[.slice A b.length c, .slice A2 s.length c2, .int .i64 i, .int .i64 t] w (TwoIs w 0 false)) ∧
      (∀ A c A2 c2 w, Rd w A c b → Rd w A2 c2 s → Calls Try.prog 24 #[.slice A b.length c, .slice A2 s.length c2, .int .i64 i, .int .i64 t] w (TwoIs w 0 false))) := by
  by_cases hg : (wB b i && (vB s && inR t 0 30)) = true
  · simp only [Bool.and_eq_true] at hg
    obtain ⟨hw, hs, ht⟩ := hg
    have hwl := wB_le hw
    obtain ⟨j, rfl⟩ := Int.eq_ofNat_of_zero_le hwl.2.1
    obtain ⟨v, hv⟩ := at_some (xs := b) (k := j) (by have := hwl.2.2.1; omega)
    exact .inl ⟨j, v, rfl, hv, hwl.1, hs, ht, fun A c A2 c2 w h h2 => STradeGain_yes A A2 c c2 b s j t v w h h2 hwl.1 hs hv ht, fun A c A2 c2 w h h2 => TradeGain_yes A A2 c c2 b s j t v w h h2 hwl.1 hs hv ht⟩
  · have hg' : (wB b i && (vB s && inR t 0 30)) = false := by simpa using hg
    have hg2 : ((vB b && vB s) && (inR i 0 ((b.length : Int) - 1) && inR t 0 30)) = false := by
      rw [← hg']
      unfold wB
      cases vB b <;> cases vB s <;> cases inR i 0 ((b.length : Int) - 1) <;> cases inR t 0 30 <;> rfl
    exact .inr ⟨fun A c A2 c2 w h h2 => STradeGain_no A A2 c c2 b s i t w h h2 hl hl2 rfl rfl rfl hg2, fun A c A2 c2 w h h2 => TradeGain_no A A2 c c2 b s i t w h h2 hl hl2 rfl rfl rfl hg'⟩

end Go.Proofs.Ytpildecpabeanaa
