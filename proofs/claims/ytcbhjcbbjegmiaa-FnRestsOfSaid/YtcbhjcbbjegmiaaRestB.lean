/-
  Chapter 1, the model: the contracts of honest and calm.
-/
import Derived.Test.YtcbhjcbbjegmiaaRestA
namespace Go.Proofs.Ytcbhjcbbjegmiaa
open Go.RowKit

theorem Rd.cell {w : World} {b off c : Nat} {zs : List Int} (h : Rd w (some ⟨b, off, none⟩) c zs) {k : Nat} {x : Int} (hx : zs[k]? = some x) : w.cell? ⟨b, off + k, none⟩ = some (.int .i64 x) := by
  obtain ⟨b', off', e, hc⟩ := h.open_ (by have := (List.getElem?_eq_some_iff.1 hx).1; omega)
  injection e with e
  injection e with e1 e2
  subst e1 e2
  exact hc k x hx

/-- Of the bids up to m none is better. -/
def AllLow (kd : Nat) (xs : List Int) (i : Nat) (v now : Int) (m : Nat) : Prop := (List.range m).all (fun b => decide (gB kd xs i v 0 b ≤ now)) = true
theorem AllLow.zero (kd : Nat) (xs : List Int) (i : Nat) (v now : Int) : AllLow kd xs i v now 0 := rfl
theorem AllLow.up {kd : Nat} {xs : List Int} {i : Nat} {v now q : Int} {m : Nat} (h : AllLow kd xs i v now m) (hq : q = gB kd xs i v 0 m) (hle : ¬ now < q) : AllLow kd xs i v now (m + 1) :=
  range_step h (by rw [decide_eq_true_eq, ← hq]; omega)
theorem AllLow.done {kd : Nat} {vs xs : List Int} {i T : Nat} {v now : Int} (h : AllLow kd xs i v now (T + 1)) (hv : vs[i]? = some v) (hn : now = gainF kd xs i v 0) : restAt kd vs xs T i = true := by
  unfold restAt
  rw [getD_of hv, ← hn]
  exact h
theorem restF_bad {kd : Nat} {vs xs : List Int} {i T m : Nat} {v now q : Int} (hi : i < xs.length) (hm : m < T + 1) (hv : vs[i]? = some v) (hn : now = gainF kd xs i v 0) (hq : q = gB kd xs i v 0 m) (hlt : now < q) : restF kd vs xs T = false := by
  refine range_bad hi (range_bad hm ?_)
  rw [getD_of hv, ← hn, decide_eq_false_iff_not, ← hq]
  omega
/-- Of the first k all rest. -/
def RestTo (kd : Nat) (vs xs : List Int) (T k : Nat) : Prop := (List.range k).all (restAt kd vs xs T) = true
theorem RestTo.up {kd : Nat} {vs xs : List Int} {T k : Nat} (h : RestTo kd vs xs T k) (hr : restAt kd vs xs T k = true) : RestTo kd vs xs T (k + 1) := range_step h hr

set_option maxHeartbeats 2000000 in
theorem honest_any (s : ByteArray) (kd : Nat) (A : Option Addr) (c : Nat) (xs : List Int) (top : Nat) (w : World) (hk : KindIs s kd) (h : Rd w A c xs) (h1 : 1 ≤ xs.length) (hl : xs.length ≤ 1048576) (ht : top ≤ 1048576) (hsm : Small xs) :
    Calls Try.prog 66 #[.string s, .slice A xs.length c, .int .i64 top] w fun e w' => e = .returned (.bool (restF kd xs xs (top + 1))) ∧ Below w.heap.size w w' := by
  have HSM := Lib.hid hsm
  have HSV := HSM
  obtain ⟨bv, offv, rfl, _⟩ := h.open_ h1
  have HBV : Hid (bv < w.heap.size) := Lib.hid (by
    obtain ⟨x, hx⟩ := at_some (xs := xs) (k := 0) (by omega)
    exact World.block_lt_of_cell? w _ (h.cell hx))
  clear hsm 
  go_enter Try.func66, Try.ntmps66
  go_wp2
  go_loopw [7, 8, 9] (fun i _ _ wr => ∃ k : Nat, k ≤ xs.length ∧ i = .int .i64 k ∧ Below w.heap.size w wr ∧ Hid (RestTo kd xs xs (top + 1) k))
    (fun i _ _ _ => xs.length - (intOf i).toNat)
  case atStart => exact ⟨0, Nat.zero_le _, rfl, Below.refl _ _, Lib.hid rfl⟩
  case round =>
    obtain ⟨k, hkl, rfl, hb, HE⟩ := hrel
    by_cases hlt : k < xs.length
    · obtain ⟨v, hvv⟩ := at_some (xs := xs) (k := k) (by exact hlt)
      have hvs := HSV.out.at_ hvv
      have hv0 := hvs.1
      have hv1 := hvs.2
      have hx := h.below hb
      have hcv := (h.below hb).cell hvv
      have hbw : bv < wr.heap.size := Nat.lt_of_lt_of_le HBV.out hb.size
      obtain ⟨now, hn⟩ : ∃ now, now = gainF kd xs k v 0 := ⟨_, rfl⟩
      have HV := Lib.hid hvv
      have HN := Lib.hid hn
      clear hvv hvs hn
      go_wp2_with fail
      refine (Sgain_is s kd _ _ xs k v 0 _ HN.out hk hx h1 hl hlt HSM.out hv0 hv1 (by decide) (by decide)).mono ?_
      rintro e w1 ⟨rfl, b1⟩
      have B1 := hb.trans (b1.mono hb.size)
      clear hx hcv hbw
      go_wp2_with fail
      go_loopw [9] (fun t wr => ∃ m : Nat, m ≤ (top + 1) + 1 ∧ t = .int .i64 m ∧ Below w.heap.size w wr ∧ Hid (AllLow kd xs k v now m))
        (fun t _ => (top + 1) + 1 - (intOf t).toNat)
      case atStart => exact ⟨0, Nat.zero_le _, rfl, B1, Lib.hid (AllLow.zero ..)⟩
      case round =>
        obtain ⟨m, hml, rfl, hbq, HA⟩ := hrel
        by_cases hmt : m < (top + 1) + 1
        · obtain ⟨ys, hY⟩ : ∃ ys, ys = xs.set k m := ⟨_, rfl⟩
          obtain ⟨q, hq⟩ : ∃ q, q = gainF kd ys k v 0 := ⟨_, rfl⟩
          have hqk : q = gB kd xs k v 0 m := by rw [hq, hY]; rfl
          have hyl : ys.length = xs.length := by rw [hY, List.length_set]
          have hy1 : 1 ≤ ys.length := by omega
          have hy2 : ys.length ≤ 1048576 := by omega
          have hyk : k < ys.length := by omega
          have hl2 : xs.length ≤ 1099511627776 := by omega
          have HYS : Hid (Small ys) := Lib.hid (by rw [hY]; exact HSM.out.set_ (by omega) (by omega))
          have HY := Lib.hid hY
          have HQ := Lib.hid hq
          have HQK := Lib.hid hqk
          have hxq := h.below hbq
          have hcv := (h.below hbq).cell HV.out
          have hbw : bv < wr.heap.size := Nat.lt_of_lt_of_le HBV.out hbq.size
          have HF : Hid (now < q → restF kd xs xs (top + 1) = false) := Lib.hid (fun hh => restF_bad hlt (by omega) HV.out HN.out HQK.out hh)
          clear hY hq hqk hyl
          have hmt2 : (m : Int) ≤ (top : Int) + 1 := by omega
          by_cases hqq : now < q
          · have HF2 := Lib.hid (HF.out hqq)
            go_wp2_with fail
            go_region_with (first
              | (go_at_call 58; refine (withBid_is _ _ _ k m _ HY.out ?_ hlt hl2).mono ?_; exact hxq; rintro e w3 ⟨g3, c3, rfl, o3, b3⟩; have hcv3 := (b3.cell (p := ⟨bv, offv + k, none⟩) hbw).trans hcv; have B3 := hbq.drew.trans (b3.mono hbq.size))
              | (go_at_call 60; refine (Sgain_is s kd _ _ ys k v 0 _ HQ.out hk o3.rd hy1 hy2 hyk HYS.out hv0 hv1 (by decide) (by decide)).mono ?_; rintro e w4 ⟨rfl, b4⟩; have hcv4 := (b4.cell (p := ⟨bv, offv + k, none⟩) (Nat.lt_of_lt_of_le hbw b3.size)).trans hcv3; have B4 := B3.trans (b4.mono B3.size)))
            all_goals
              clear hcv hcv3 hcv4 hbw
              go_wp2
              go_ret
              exact ⟨by rw [HF2.out]; rfl, B4⟩
          · have HA2 := Lib.hid (HA.out.up HQK.out hqq)
            go_wp2_with fail
            go_region_with (first
              | (go_at_call 58; refine (withBid_is _ _ _ k m _ HY.out ?_ hlt hl2).mono ?_; exact hxq; rintro e w3 ⟨g3, c3, rfl, o3, b3⟩; have hcv3 := (b3.cell (p := ⟨bv, offv + k, none⟩) hbw).trans hcv; have B3 := hbq.drew.trans (b3.mono hbq.size))
              | (go_at_call 60; refine (Sgain_is s kd _ _ ys k v 0 _ HQ.out hk o3.rd hy1 hy2 hyk HYS.out hv0 hv1 (by decide) (by decide)).mono ?_; rintro e w4 ⟨rfl, b4⟩; have hcv4 := (b4.cell (p := ⟨bv, offv + k, none⟩) (Nat.lt_of_lt_of_le hbw b3.size)).trans hcv3; have B4 := B3.trans (b4.mono B3.size)))
            all_goals
              clear hcv hcv3 hcv4 hbw
              go_wp2
              go_roundw
              case rel => exact ⟨m + 1, by omega, by go_num, B4, HA2⟩
              case measure => simp [intOf]; omega
        · obtain rfl : m = (top + 1) + 1 := by omega
          have HR := Lib.hid (HE.out.up (HA.out.done HV.out HN.out))
          go_wp2
          go_roundw
          case rel => exact ⟨k + 1, by omega, by go_num, hbq, HR⟩
          case measure => simp [intOf]; omega
    · obtain rfl : k = xs.length := by omega
      go_wp2
      go_ret
      exact ⟨by rw [show restF kd xs xs (top + 1) = true from HE.out]; rfl, hb⟩

set_option maxHeartbeats 2000000 in
theorem calm_any (s : ByteArray) (kd : Nat) (Av A : Option Addr) (cv c : Nat) (vs xs : List Int) (top : Nat) (w : World) (hk : KindIs s kd) (hv : Rd w Av cv vs) (hvl : vs.length = xs.length) (h : Rd w A c xs) (h1 : 1 ≤ xs.length) (hl : xs.length ≤ 1048576) (ht : top ≤ 1048576) (hsm : Small xs) (hsv : Small vs) :
    Calls Try.prog 68 #[.string s, .slice Av vs.length cv, .slice A xs.length c, .int .i64 top] w fun e w' => e = .returned (.bool (restF kd vs xs top)) ∧ Below w.heap.size w w' := by
  have HSM := Lib.hid hsm
  have HSV := Lib.hid hsv
  have HVL := Lib.hid hvl
  obtain ⟨bv, offv, rfl, _⟩ := hv.open_ (by omega)
  have HBV : Hid (bv < w.heap.size) := Lib.hid (by
    obtain ⟨x, hx⟩ := at_some (xs := vs) (k := 0) (by omega)
    exact World.block_lt_of_cell? w _ (hv.cell hx))
  clear hsm hsv hvl
  go_enter Try.func68, Try.ntmps68
  go_wp2
  go_loopw [9, 10, 11] (fun i _ _ wr => ∃ k : Nat, k ≤ xs.length ∧ i = .int .i64 k ∧ Below w.heap.size w wr ∧ Hid (RestTo kd vs xs top k))
    (fun i _ _ _ => xs.length - (intOf i).toNat)
  case atStart => exact ⟨0, Nat.zero_le _, rfl, Below.refl _ _, Lib.hid rfl⟩
  case round =>
    obtain ⟨k, hkl, rfl, hb, HE⟩ := hrel
    by_cases hlt : k < xs.length
    · have hkv : k < vs.length := by have := HVL.out; omega
      obtain ⟨v, hvv⟩ := at_some (xs := vs) (k := k) (by have := HVL.out; omega)
      have hvs := HSV.out.at_ hvv
      have hv0 := hvs.1
      have hv1 := hvs.2
      have hx := h.below hb
      have hcv := (hv.below hb).cell hvv
      have hbw : bv < wr.heap.size := Nat.lt_of_lt_of_le HBV.out hb.size
      obtain ⟨now, hn⟩ : ∃ now, now = gainF kd xs k v 0 := ⟨_, rfl⟩
      have HV := Lib.hid hvv
      have HN := Lib.hid hn
      clear hvv hvs hn
      go_wp2_with fail
      refine (Sgain_is s kd _ _ xs k v 0 _ HN.out hk hx h1 hl hlt HSM.out hv0 hv1 (by decide) (by decide)).mono ?_
      rintro e w1 ⟨rfl, b1⟩
      have B1 := hb.trans (b1.mono hb.size)
      clear hx hcv hbw
      go_wp2_with fail
      go_loopw [11] (fun t wr => ∃ m : Nat, m ≤ top + 1 ∧ t = .int .i64 m ∧ Below w.heap.size w wr ∧ Hid (AllLow kd xs k v now m))
        (fun t _ => top + 1 - (intOf t).toNat)
      case atStart => exact ⟨0, Nat.zero_le _, rfl, B1, Lib.hid (AllLow.zero ..)⟩
      case round =>
        obtain ⟨m, hml, rfl, hbq, HA⟩ := hrel
        by_cases hmt : m < top + 1
        · obtain ⟨ys, hY⟩ : ∃ ys, ys = xs.set k m := ⟨_, rfl⟩
          obtain ⟨q, hq⟩ : ∃ q, q = gainF kd ys k v 0 := ⟨_, rfl⟩
          have hqk : q = gB kd xs k v 0 m := by rw [hq, hY]; rfl
          have hyl : ys.length = xs.length := by rw [hY, List.length_set]
          have hy1 : 1 ≤ ys.length := by omega
          have hy2 : ys.length ≤ 1048576 := by omega
          have hyk : k < ys.length := by omega
          have hl2 : xs.length ≤ 1099511627776 := by omega
          have HYS : Hid (Small ys) := Lib.hid (by rw [hY]; exact HSM.out.set_ (by omega) (by omega))
          have HY := Lib.hid hY
          have HQ := Lib.hid hq
          have HQK := Lib.hid hqk
          have hxq := h.below hbq
          have hcv := (hv.below hbq).cell HV.out
          have hbw : bv < wr.heap.size := Nat.lt_of_lt_of_le HBV.out hbq.size
          have HF : Hid (now < q → restF kd vs xs top = false) := Lib.hid (fun hh => restF_bad hlt (by omega) HV.out HN.out HQK.out hh)
          clear hY hq hqk hyl
          have hmt2 : (m : Int) ≤ (top : Int) := by omega
          by_cases hqq : now < q
          · have HF2 := Lib.hid (HF.out hqq)
            go_wp2_with fail
            go_region_with (first
              | (go_at_call 58; refine (withBid_is _ _ _ k m _ HY.out ?_ hlt hl2).mono ?_; exact hxq; rintro e w3 ⟨g3, c3, rfl, o3, b3⟩; have hcv3 := (b3.cell (p := ⟨bv, offv + k, none⟩) hbw).trans hcv; have B3 := hbq.drew.trans (b3.mono hbq.size))
              | (go_at_call 60; refine (Sgain_is s kd _ _ ys k v 0 _ HQ.out hk o3.rd hy1 hy2 hyk HYS.out hv0 hv1 (by decide) (by decide)).mono ?_; rintro e w4 ⟨rfl, b4⟩; have hcv4 := (b4.cell (p := ⟨bv, offv + k, none⟩) (Nat.lt_of_lt_of_le hbw b3.size)).trans hcv3; have B4 := B3.trans (b4.mono B3.size)))
            all_goals
              clear hcv hcv3 hcv4 hbw
              go_wp2
              go_ret
              exact ⟨by rw [HF2.out]; rfl, B4⟩
          · have HA2 := Lib.hid (HA.out.up HQK.out hqq)
            go_wp2_with fail
            go_region_with (first
              | (go_at_call 58; refine (withBid_is _ _ _ k m _ HY.out ?_ hlt hl2).mono ?_; exact hxq; rintro e w3 ⟨g3, c3, rfl, o3, b3⟩; have hcv3 := (b3.cell (p := ⟨bv, offv + k, none⟩) hbw).trans hcv; have B3 := hbq.drew.trans (b3.mono hbq.size))
              | (go_at_call 60; refine (Sgain_is s kd _ _ ys k v 0 _ HQ.out hk o3.rd hy1 hy2 hyk HYS.out hv0 hv1 (by decide) (by decide)).mono ?_; rintro e w4 ⟨rfl, b4⟩; have hcv4 := (b4.cell (p := ⟨bv, offv + k, none⟩) (Nat.lt_of_lt_of_le hbw b3.size)).trans hcv3; have B4 := B3.trans (b4.mono B3.size)))
            all_goals
              clear hcv hcv3 hcv4 hbw
              go_wp2
              go_roundw
              case rel => exact ⟨m + 1, by omega, by go_num, B4, HA2⟩
              case measure => simp [intOf]; omega
        · obtain rfl : m = top + 1 := by omega
          have HR := Lib.hid (HE.out.up (HA.out.done HV.out HN.out))
          go_wp2
          go_roundw
          case rel => exact ⟨k + 1, by omega, by go_num, hbq, HR⟩
          case measure => simp [intOf]; omega
    · obtain rfl : k = xs.length := by omega
      go_wp2
      go_ret
      exact ⟨by rw [show restF kd vs xs top = true from HE.out]; rfl, hb⟩

end Go.Proofs.Ytcbhjcbbjegmiaa
