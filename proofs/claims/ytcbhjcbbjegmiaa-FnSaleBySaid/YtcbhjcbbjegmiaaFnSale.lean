/-
  The walk of the law of SaleBy.
-/
import Derived.Test.YtcbhjcbbjegmiaaLawsA
namespace Go.Proofs.Ytcbhjcbbjegmiaa
open Go.RowKit

/-- What the law asks of each bidder. -/
def SaleOk (al : Bool) (a r : Int) (i : Nat) (x y p : Int) : Prop :=
  (0 ≤ a → x ≤ y) ∧ (a < 0 → x < r) ∧ (al = true → p = x) ∧ (al = false → (i : Int) ≠ a → p = 0) ∧ p ≤ x

set_option maxRecDepth 100000 in
set_option maxHeartbeats 4000000 in
theorem fnSaleBy_walk {A : Option Addr} {c : Nat} {xs : List Int} {w : World} (h : Came .u8 w A c xs) :
    Calls Try.prog 3 #[.slice A xs.length c] w fun e w' => e = .returned (.bool true) ∧ Below w.heap.size w w' := by
  by_cases hlen : 1048576 < xs.length
  · go_enter Try.func3, Try.ntmps3
    go_wp2
    go_ret
    exact ⟨rfl, Below.refl _ _⟩
  have hl0 : xs.length ≤ 1048576 := by omega
  clear hlen
  go_enter Try.func3, Try.ntmps3
  go_wp2_with fail
  refine (DrawSaleBy_any A c xs w h).mono ?_
  rintro e w1 ⟨s, A1, c1, ys, r, rfl, hs, hrd, hy, hr0, hr1, B1⟩
  have hy1 : ys.length ≤ 1048576 := by omega
  have hy2 : ys.length ≤ 1099511627776 := by omega
  clear h hl0
  rcases SaleBy_cases s ys r hy1 with ⟨kd, hk, hv, hr⟩ | ⟨hS, hI⟩
  · -- the kind, the bids and the reserve are valid
    have hlen1 := (vB_le hv).1
    obtain ⟨a, hA⟩ : ∃ a, a = atOf ys r := ⟨_, rfl⟩
    obtain ⟨P, hP⟩ : ∃ P, P = payOf kd ys r := ⟨_, rfl⟩
    obtain ⟨al, hal⟩ : ∃ al, al = (s.toList == [97, 108, 108]) := ⟨_, rfl⟩
    have hPl : P.length = ys.length := by rw [hP, payOf_len]
    have HK : Hid (al = decide (kd = 4)) := Lib.hid (by rw [hal]; exact kind_all hk)
    have HS := Lib.hid (fun w0 (h0 : Rd w0 A1 c1 ys) => SSaleBy_yes s kd A1 c1 ys r w0 hk h0 hv hr)
    have HI := Lib.hid (fun w0 (h0 : Rd w0 A1 c1 ys) => SaleBy_yes s kd A1 c1 ys r w0 hk h0 hv hr)
    unfold SaleIs at HS HI
    rw [← hA, ← hP] at HS HI
    have HV := Lib.hid hv
    have HA := Lib.hid hA
    have HP := Lib.hid hP
    have HPl := Lib.hid hPl
    have haa : (a != a) = false := by simp
    have hne0 : ((ys.length : Int) == 0) = false := beq_eq_false_iff_ne.2 (by omega)
    clear hv hr hk hA hP hPl
    go_wp2_with fail
    refine (HI.out _ hrd).mono ?_
    rintro e w2 ⟨g2, c2, rfl, o2, b2⟩
    go_wp2_with fail
    refine (HS.out _ (hrd.below b2)).mono ?_
    rintro e w3 ⟨g3, c3, rfl, o3, b3⟩
    have B3 := (B1.trans (b2.mono B1.size)).trans (b3.mono (Nat.le_trans B1.size b2.size))
    have o2' := o2.below b3
    go_wp2_with fail
    refine (equalInts_n _ _ _ _ _ P _ HPl.out o2'.rd o3.rd hy2).mono ?_
    rintro e w4 ⟨rfl, n4, rfl⟩
    have HO := Lib.hid (o2'.drewN n4)
    have hrd3 := ((hrd.below b2).below b3).drewN n4
    obtain ⟨b, off, rfl, hcell⟩ := hrd3.open_ hlen1
    have HC := Lib.hid hcell
    have B4 := below_drewN' B3 n4
    obtain ⟨y, hym⟩ := at_some (gr_lt ys ys.length hlen1)
    -- what is to be shown of each bidder
    have HF : Hid (∀ i x p, ys[i]? = some x → P[i]? = some p → SaleOk al a r i x y p) := Lib.hid (by
      intro i x p hx hp
      have hg := gr_ge hx hym
      rw [HP.out] at hp
      refine ⟨fun _ => hg, fun ha => ?_, fun h => ?_, fun h hi => ?_, pay_le HV.out hx hp⟩
      · by_cases hlt : ys.getD (gr ys ys.length) 0 < r
        · rw [getD_of hym] at hlt; omega
        · rw [HA.out, atOf_some hlt] at ha; omega
      · rw [HK.out] at h
        have hk4 : kd = 4 := by simpa using h
        rw [hk4, payOf_all, hx] at hp
        exact (Option.some.inj hp).symm
      · rw [HK.out] at h
        have hk4 : kd ≠ 4 := by simpa using h
        exact pay_zero hk4 hx hp (by rw [← HA.out]; exact hi))
    have hA2 : Hid (a = -1 ∨ (a = (gr ys ys.length : Nat) ∧ r ≤ y)) := Lib.hid (by
      by_cases hlt : ys.getD (gr ys ys.length) 0 < r
      · exact .inl (by rw [HA.out, atOf_none hlt])
      · exact .inr ⟨by rw [HA.out, atOf_some hlt], by rw [getD_of hym] at hlt; omega⟩)
    obtain ⟨m, hm⟩ : ∃ m, m = gr ys ys.length := ⟨_, rfl⟩
    rw [← hm] at hA2 hym
    have hmlt := (List.getElem?_eq_some_iff.1 hym).1
    have HYM := Lib.hid hym
    clear hm hym hcell o2 o3 o2' hrd hrd3 HS HI b2 b3 B1 B4 haa
    rcases hA2.out with ha | ⟨ha, hry⟩
    · subst ha
      go_wp2_with fail
      go_loopw [10] (fun t wr => ∃ k n : Nat, k ≤ ys.length ∧ t = .int .i64 k ∧ wr = w3.drewN n)
        (fun t _ => ys.length - (intOf t).toNat)
      case atStart => exact ⟨0, n4, Nat.zero_le _, rfl, rfl⟩
      case round =>
        obtain ⟨k, n, hk, rfl, rfl⟩ := hrel
        by_cases hlt : k < ys.length
        · obtain ⟨x, hx⟩ := at_some hlt
          obtain ⟨p, hp⟩ := at_some (xs := P) (k := k) (by rw [HPl.out]; exact hlt)
          have hok := HF.out k x p hx hp
          have hc1 : w3.cell? ⟨b, off + k, none⟩ = some (.int .i64 x) := HC.out k x hx
          have hc2 : w3.cell? ⟨g2, k, none⟩ = some (.int .i64 p) := HO.out.cell hp
          obtain ⟨q1, q2, q3, q4, q5⟩ := hok
          have HQ1 := Lib.hid q1
          have HQ2 := Lib.hid q2
          have HQ3 := Lib.hid q3
          have HQ4 := Lib.hid q4
          clear hx hp q1 q2 q3 q4
          have d1 : decide (x < p) = false := by simpa using q5
          have hki : (k : Int) < (ys.length : Int) := by omega
          have hkz : (0 : Int) ≤ (k : Int) := by omega
          clear q5
          have d2 : decide (r ≤ x) = false := by have := HQ2.out (by decide); simpa using this
          have d3 : ((k : Int) != -1) = true := by rw [bne_iff_ne]; omega
          cases al with
          | true =>
            obtain rfl := HQ3.out rfl
            have d6 : (p != p) = false := by simp
            have d7 : (s.toList == [97, 108, 108]) = true := hal.symm
            clear hal
            have d8 : (s.toList != [97, 108, 108]) = false := by simp [bne, d7]
            go_wp2_with fail
            go_quiet (fail)
            go_wp2_with fail
            go_quiet (fail)
            go_wp2
            go_roundw
            case rel => exact ⟨k + 1, _, by omega, by go_num, rfl⟩
            case measure => simp [intOf]; omega
          | false =>
            obtain rfl := HQ4.out rfl (by omega)
            have d7 : (s.toList == [97, 108, 108]) = false := hal.symm
            clear hal
            have d8 : (s.toList != [97, 108, 108]) = true := by simp [bne, d7]
            go_wp2_with fail
            go_quiet (fail)
            go_wp2_with fail
            go_quiet (fail)
            go_wp2
            go_roundw
            case rel => exact ⟨k + 1, _, by omega, by go_num, rfl⟩
            case measure => simp [intOf]; omega
        · obtain rfl : k = ys.length := by omega
          go_wp2
          go_ret
          exact ⟨rfl, below_drewN' B3 _⟩
    · subst ha
      go_wp2_with fail
      go_loopw [10] (fun t wr => ∃ k n : Nat, k ≤ ys.length ∧ t = .int .i64 k ∧ wr = w3.drewN n)
        (fun t _ => ys.length - (intOf t).toNat)
      case atStart => exact ⟨0, n4, Nat.zero_le _, rfl, rfl⟩
      case round =>
        obtain ⟨k, n, hk, rfl, rfl⟩ := hrel
        by_cases hlt : k < ys.length
        · obtain ⟨x, hx⟩ := at_some hlt
          obtain ⟨p, hp⟩ := at_some (xs := P) (k := k) (by rw [HPl.out]; exact hlt)
          have hok := HF.out k x p hx hp
          have hc1 : w3.cell? ⟨b, off + k, none⟩ = some (.int .i64 x) := HC.out k x hx
          have hc2 : w3.cell? ⟨g2, k, none⟩ = some (.int .i64 p) := HO.out.cell hp
          obtain ⟨q1, q2, q3, q4, q5⟩ := hok
          have HQ1 := Lib.hid q1
          have HQ2 := Lib.hid q2
          have HQ3 := Lib.hid q3
          have HQ4 := Lib.hid q4
          clear hx hp q1 q2 q3 q4
          have d1 : decide (x < p) = false := by simpa using q5
          have hki : (k : Int) < (ys.length : Int) := by omega
          have hkz : (0 : Int) ≤ (k : Int) := by omega
          clear q5
          have d2 : decide (y < x) = false := by have := HQ1.out (by omega); simpa using this
          have hc3 : w3.cell? ⟨b, off + m, none⟩ = some (.int .i64 y) := HC.out m y HYM.out
          have hmi : (m : Int) < (ys.length : Int) := by omega
          have hmz : (0 : Int) ≤ (m : Int) := by omega
          have d4 : decide ((0 : Int) ≤ (m : Int)) = true := by simp
          have d5 : decide ((m : Int) < 0) = false := by simp
          cases al with
          | true =>
            obtain rfl := HQ3.out rfl
            have d6 : (p != p) = false := by simp
            have d7 : (s.toList == [97, 108, 108]) = true := hal.symm
            clear hal
            have d8 : (s.toList != [97, 108, 108]) = false := by simp [bne, d7]
            go_wp2_with fail
            go_quiet (fail)
            go_wp2_with fail
            go_quiet (fail)
            go_wp2
            go_roundw
            case rel => exact ⟨k + 1, _, by omega, by go_num, rfl⟩
            case measure => simp [intOf]; omega
          | false =>
            have d7 : (s.toList == [97, 108, 108]) = false := hal.symm
            clear hal
            have d8 : (s.toList != [97, 108, 108]) = true := by simp [bne, d7]
            by_cases hkm : k = m
            · subst hkm
              have d3 : ((k : Int) != (k : Int)) = false := by simp
              go_wp2_with fail
              go_quiet (fail)
              go_wp2_with fail
              go_quiet (fail)
              go_wp2
              go_roundw
              case rel => exact ⟨k + 1, _, by omega, by go_num, rfl⟩
              case measure => simp [intOf]; omega
            · obtain rfl := HQ4.out rfl (by omega)
              have d3 : ((k : Int) != (m : Int)) = true := by rw [bne_iff_ne]; omega
              go_wp2_with fail
              go_quiet (fail)
              go_wp2_with fail
              go_quiet (fail)
              go_wp2
              go_roundw
              case rel => exact ⟨k + 1, _, by omega, by go_num, rfl⟩
              case measure => simp [intOf]; omega
        · obtain rfl : k = ys.length := by omega
          have hc3 : w3.cell? ⟨b, off + m, none⟩ = some (.int .i64 y) := HC.out m y HYM.out
          go_wp2
          go_ret
          exact ⟨rfl, below_drewN' B3 _⟩
  · have HS := Lib.hid hS
    have HI := Lib.hid hI
    clear hS hI
    go_wp2_with fail
    refine (HI.out _ _ _ hrd).mono ?_
    rintro e w2 ⟨A2, c2, rfl, o2, b2⟩
    go_wp2_with fail
    refine (HS.out _ _ _ (hrd.below b2)).mono ?_
    rintro e w3 ⟨A3, c3, rfl, o3, b3⟩
    have B3 := (B1.trans (b2.mono B1.size)).trans (b3.mono (Nat.le_trans B1.size b2.size))
    have r2 := (o2.below b3).rd
    have r3 := o3.rd
    go_wp2_with (go_at_call 18; refine (equalInts_n _ _ _ _ 0 [] _ rfl ?_ ?_ (by decide)).mono ?_; exact r2; exact r3; rintro e w4 ⟨rfl, n4, rfl⟩)
    go_ret
    exact ⟨rfl, below_drewN' B3 _⟩

end Go.Proofs.Ytcbhjcbbjegmiaa
