/-
  Chapter 9: the model's IsNested; both sides of WorthWith and of IsNested.
-/
import Derived.Test.YtccbjgajmjcpjabSj
namespace Go.Proofs.Ytccbjgajmjcpjab
open Go.RowKit

theorem WorthWith_both (rows : List (List Int)) (k : Int) (hl : rows.length ≤ 1099511627776) (hl2 : ∀ r ∈ rows, r.length ≤ 1099511627776) :
    (∀ A c w, RdR w A c rows → Calls Try.prog 57 #[.slice A rows.length c, .int .i64 k] w fun e w' => e = .returned (.int .i64 (wwB rows k)) ∧ Below w.heap.size w w') ∧
    (∀ A c w, RdR w A c rows → Calls Try.prog 58 #[.slice A rows.length c, .int .i64 k] w fun e w' => e = .returned (.int .i64 (wwB rows k)) ∧ Below w.heap.size w w') :=
  ⟨fun A c w h => SWorthWith_any A c rows k w h hl hl2, fun A c w h => WorthWith_any A c rows k w h hl2⟩

set_option maxHeartbeats 1600000 in
theorem SIsNested_any (A : Option Addr) (c : Nat) (ts : List (List Int)) (w : World) (h : RdR w A c ts) (hl : ts.length ≤ 1099511627776) (hl2 : ∀ r ∈ ts, r.length ≤ 1099511627776) :
    Calls Try.prog 62 #[.slice A ts.length c] w fun e w' => e = .returned (.bool (nsB ts)) ∧ Below w.heap.size w w' := by
  have HC := Lib.hid (SvalidTables_any A c ts w h hl hl2)
  rcases hb : vtsB ts with _ | _
  · have HE : Hid (nsB ts = false) := Lib.hid (by unfold nsB; rw [hb]; rfl)
    rw [hb] at HC
    clear hb
    go_enter Try.func62, Try.ntmps62
    go_wp2_with (go_at_call 70; refine HC.out.mono ?_; rintro e w1 ⟨rfl, n, rfl⟩)
    go_ret
    exact ⟨by rw [HE.out]; rfl, below_drewN' (Below.refl _ _) n⟩
  · rw [hb] at HC
    have hv := vtsB_iff.1 hb
    have h4 := hv.1.2
    have HE : Hid (nsB ts = neB (T (vls (ww ts) (2 ^ ts.length))) (2 ^ ts.length)) := Lib.hid (by
      unfold nsB
      rw [hb, Bool.true_and]
      have e : ∀ S, S < 2 ^ ts.length → T (vls (ww ts) (2 ^ ts.length)) S = ww ts S := fun S hS => T_of (vls_at hS)
      have hiff : Ne2 (ww ts) (2 ^ ts.length) ↔ Ne2 (T (vls (ww ts) (2 ^ ts.length))) (2 ^ ts.length) := by
        have key : ∀ a, a < 2 ^ ts.length → ∀ b, b < 2 ^ ts.length → a ||| b < 2 ^ ts.length ∧ a &&& b < 2 ^ ts.length := fun a ha b hb => ⟨Nat.or_lt_two_pow ha hb, Nat.lt_of_le_of_lt Nat.and_le_left ha⟩
        constructor
        · intro hh a ha b hb
          rw [e _ (key a ha b hb).1, e _ (key a ha b hb).2, e a ha, e b hb]
          exact hh a ha b hb
        · intro hh a ha b hb
          have := hh a ha b hb
          rwa [e _ (key a ha b hb).1, e _ (key a ha b hb).2, e a ha, e b hb] at this
      by_cases hh : Ne2 (ww ts) (2 ^ ts.length)
      · rw [neB_true hh, neB_true (hiff.1 hh)]
      · rw [neB_false hh, neB_false (fun x => hh (hiff.2 x))])
    have HS := Lib.hid (fun (q : Nat) => SworthsOf_any A c ts.length ts (w.drewN q) rfl (h.drewN q) h4 hv.2)
    have HBD : Hid (∀ s, s < 2 ^ ts.length → 0 ≤ T (vls (ww ts) (2 ^ ts.length)) s ∧ T (vls (ww ts) (2 ^ ts.length)) s ≤ 120) := Lib.hid (fun s hs => by rw [T_of (vls_at hs)]; exact ww_bd hv.2 h4 s)
    have HO1 : Hid (∀ a b, a < 2 ^ ts.length → b < 2 ^ ts.length → a ||| b < 2 ^ ts.length) := Lib.hid (fun a b ha hb => Nat.or_lt_two_pow ha hb)
    have HA1 : Hid (∀ a b, a < 2 ^ ts.length → b < 2 ^ ts.length → a &&& b < 2 ^ ts.length) := Lib.hid (fun a b ha hb => Nat.lt_of_le_of_lt Nat.and_le_left ha)
    have hp16 := pow_len h4
    have HLE : Hid ((vls (ww ts) (2 ^ ts.length)).length = 2 ^ ts.length) := Lib.hid (vls_len _ _)
    have HS : Hid (∀ q : Nat, Calls Try.prog 131 #[.slice A ts.length c] (w.drewN q) fun e w' => ∃ A2 c2, e = .returned (.slice A2 (2 ^ ts.length) c2) ∧ Rd w' A2 c2 (vls (ww ts) (2 ^ ts.length)) ∧ Below w.heap.size w w') := Lib.hid (fun q => (HS.out q).mono (fun e w' ⟨g, c2, e1, o, b⟩ => ⟨some ⟨g, 0, none⟩, c2, e1, o.rd, (below_drewN' (Below.refl _ w) q).trans (b.mono (Nat.le_refl _))⟩))
    generalize vls (ww ts) (2 ^ ts.length) = l at *
    generalize 2 ^ ts.length = P at *
    have HN := Lib.hid (fun (hm : ¬ Ne2 (T l) P) => neB_false hm)
    have HY := Lib.hid (fun (hm : NeTo (T l) P P) => neB_true (f := T l) (P := P) hm)
    have h16 := hp16.2
    clear hb hv hp16
    go_enter Try.func62, Try.ntmps62
    go_wp2_with (first
      | (go_at_call 70; refine HC.out.mono ?_; rintro e w1 ⟨rfl, n, rfl⟩)
      | (go_at_call 131; refine (HS.out _).mono ?_; rintro e w2 ⟨A2, c2, rfl, h, b2⟩; have HB2 := Lib.hid b2; clear b2))
    have hl := HLE.out
    go_loopw [4] (fun i wr => ∃ k n : Nat, k ≤ P ∧ i = .int .i64 (k : Int) ∧ wr = w2.drewN n ∧ Hid (NeTo (T l) P k)) (fun i _ => P - (intOf i).toNat)
    case atStart => exact ⟨0, 0, by omega, rfl, rfl, Lib.hid (NeTo.zero _ _)⟩
    case round =>
      obtain ⟨k, n, hk, rfl, rfl, HO⟩ := hrel
      by_cases hlt : k < P
      · obtain ⟨b, off, x, hA0, _, hx, hc0⟩ := h.at_ (k := k) (by omega)
        cases hA0
        have hTx := T_of hx.out
        have hxb := HBD.out k hlt
        rw [hTx] at hxb
        have HTX := Lib.hid hTx
        obtain ⟨hx0, hx30⟩ := hxb
        clear hx hTx hc0
        have hk0 : (0 : Int) ≤ (k : Int) := by omega
        have hk8 : (k : Int) < (P : Int) := by omega
        go_wp2
        go_loopw [5] (fun i wr => ∃ j m : Nat, j ≤ P ∧ i = .int .i64 (j : Int) ∧ wr = w2.drewN m ∧ Hid (NeU (T l) k j)) (fun i _ => P - (intOf i).toNat)
        case atStart => exact ⟨0, n, by omega, rfl, rfl, Lib.hid (NeU.zero _ k)⟩
        case round =>
          obtain ⟨j, m, hj, rfl, rfl, HU⟩ := hrel
          by_cases hjl : j < P
          · obtain ⟨b1, off1, x', hA, _, hx', hc⟩ := h.at_ (k := k) (by omega)
            cases hA
            obtain rfl : x = x' := HTX.out.symm.trans (T_of hx'.out)
            obtain ⟨b2, off2, y, hA, _, hy, hc2⟩ := h.at_ (k := j) (by omega)
            cases hA
            obtain ⟨b3, off3, u, hA, _, hu, hc3⟩ := h.at_ (k := k ||| j) (by rw [hl]; exact HO1.out _ _ hlt hjl)
            cases hA
            obtain ⟨b4, off4, v, hA, _, hv, hc4⟩ := h.at_ (k := k &&& j) (by rw [hl]; exact HA1.out _ _ hlt hjl)
            cases hA
            have hTy := T_of hy.out
            have hTu := T_of hu.out
            have hTv := T_of hv.out
            have hyb := HBD.out j hjl
            have hub := HBD.out (k ||| j) (HO1.out _ _ hlt hjl)
            have hvb := HBD.out (k &&& j) (HA1.out _ _ hlt hjl)
            rw [hTy] at hyb
            rw [hTu] at hub
            rw [hTv] at hvb
            have HNO : x + y < u + v → Hid (neB (T l) P = false) := fun hh => Lib.hid (HN.out (fun hm => by have := hm k hlt j hjl; rw [hTu, hTv, HTX.out, hTy] at this; omega))
            have HYE : ¬ x + y < u + v → Hid (NeU (T l) k (j + 1)) := fun hh => Lib.hid (HU.out.next (by rw [hTu, hTv, HTX.out, hTy]; omega))
            obtain ⟨hy0, hy30⟩ := hyb
            obtain ⟨hu0, hu30⟩ := hub
            obtain ⟨hv0, hv30⟩ := hvb
            have ho := or16 (a := k) (b := j) (by omega) (by omega)
            have ha := and16 (a := k) (b := j) (by omega) (by omega)
            have ho8 := HO1.out k j hlt hjl
            have ha8 := HA1.out k j hlt hjl
            obtain ⟨p, hp⟩ : ∃ p, p = k ||| j := ⟨_, rfl⟩
            obtain ⟨q, hq⟩ : ∃ q, q = k &&& j := ⟨_, rfl⟩
            rw [← hp] at ho hc3 ho8
            rw [← hq] at ha hc4 ha8
            have hp0 : (0 : Int) ≤ (p : Int) := by omega
            have hp8 : (p : Int) < (P : Int) := by omega
            have hq0 : (0 : Int) ≤ (q : Int) := by omega
            have hq8 : (q : Int) < (P : Int) := by omega
            have hj0 : (0 : Int) ≤ (j : Int) := by omega
            have hj8 : (j : Int) < (P : Int) := by omega
            clear hp hq hy hu hv hTy hTu hTv hx'
            have e1 : IntKind.i64.wrap (x + y) = x + y := IntWalk.i64_in _ (by omega)
            have e2 : IntKind.i64.wrap (u + v) = u + v := IntWalk.i64_in _ (by omega)
            by_cases hh : x + y < u + v
            · have HEE := HNO hh
              clear HNO HYE
              go_wp2_with fail
              go_quiet (fail)
              go_wp2
              go_ret
              exact ⟨by rw [HE.out, HEE.out]; rfl, below_drewN' (below_drewN' HB2.out m) nq⟩
            · have HU' := HYE hh
              clear HNO HYE
              go_wp2_with fail
              go_quiet (fail)
              go_wp2
              go_roundw
              case rel => exact ⟨j + 1, _, by omega, by go_num, rfl, HU'⟩
              case measure => simp [intOf]; omega
          · obtain rfl : j = P := by omega
            have HO' := Lib.hid (HO.out.next HU.out)
            go_wp2
            go_roundw
            case rel => exact ⟨k + 1, _, by omega, by go_num, rfl, HO'⟩
            case measure => simp [intOf]; omega
      · obtain rfl : k = P := by omega
        have HEE := Lib.hid (HY.out HO.out)
        go_wp2
        go_ret
        exact ⟨by rw [HE.out, HEE.out]; rfl, below_drewN' HB2.out _⟩


theorem IsNested_both (rows : List (List Int)) (hl : rows.length ≤ 1099511627776) (hl2 : ∀ r ∈ rows, r.length ≤ 1099511627776) :
    (∀ A c w, RdR w A c rows → Calls Try.prog 62 #[.slice A rows.length c] w fun e w' => e = .returned (.bool (nsB rows)) ∧ Below w.heap.size w w') ∧
    (∀ A c w, RdR w A c rows → Calls Try.prog 63 #[.slice A rows.length c] w fun e w' => e = .returned (.bool (nsB rows)) ∧ Below w.heap.size w w') :=
  ⟨fun A c w h => SIsNested_any A c rows w h hl hl2, fun A c w h => IsNested_any A c rows w h hl2⟩

end Go.Proofs.Ytccbjgajmjcpjab
