/-
  Chapter 10, the program: the contracts of TradeRange and TradeLess.
-/
import Derived.Test.YtpildecpabeanaaEk
namespace Go.Proofs.Ytpildecpabeanaa
open Go.RowKit

theorem TradesOf_no (A A2 : Option Addr) (c c2 : Nat) (b s : List Int) (w : World) (h : Rd w A c b) (h2 : Rd w A2 c2 s) (hl : b.length ≤ 1099511627776) (hl2 : s.length ≤ 1099511627776) (hv : (vB b && vB s) = false) :
    Calls Try.prog 15 #[.slice A b.length c, .slice A2 s.length c2] w (PairIs w (-1) (-1)) := by
  have HV := Lib.hid (areTraders_any A A2 c c2 b s w h h2 hl hl2)
  rw [hv] at HV
  clear h h2 hv
  go_enter Try.func15, Try.ntmps15
  go_wp2_with fail
  refine HV.out.mono ?_
  rintro e w1 ⟨rfl, rfl⟩
  go_wp2
  go_ret2
  exact ⟨rfl, Below.refl _ _⟩

theorem TradeRange_no (A A2 : Option Addr) (c c2 : Nat) (b s : List Int) (w : World) (h : Rd w A c b) (h2 : Rd w A2 c2 s) (hl : b.length ≤ 1099511627776) (hl2 : s.length ≤ 1099511627776) (hv : (vB b && vB s) = false) :
    Calls Try.prog 18 #[.slice A b.length c, .slice A2 s.length c2] w (PairIs w (-1) (-1)) := by
  have HV := Lib.hid (areTraders_any A A2 c c2 b s w h h2 hl hl2)
  rw [hv] at HV
  clear h h2 hv
  go_enter Try.func18, Try.ntmps18
  go_wp2_with fail
  refine HV.out.mono ?_
  rintro e w1 ⟨rfl, rfl⟩
  go_wp2
  go_ret2
  exact ⟨rfl, Below.refl _ _⟩

theorem TradeLess_no (A A2 : Option Addr) (c c2 : Nat) (b s : List Int) (w : World) (h : Rd w A c b) (h2 : Rd w A2 c2 s) (hl : b.length ≤ 1099511627776) (hl2 : s.length ≤ 1099511627776) (hv : (vB b && vB s) = false) :
    Calls Try.prog 21 #[.slice A b.length c, .slice A2 s.length c2] w (TripIs w (-1) (-1) (-1)) := by
  have HV := Lib.hid (areTraders_any A A2 c c2 b s w h h2 hl hl2)
  rw [hv] at HV
  clear h h2 hv
  go_enter Try.func21, Try.ntmps21
  go_wp2_with fail
  refine HV.out.mono ?_
  rintro e w1 ⟨rfl, rfl⟩
  go_wp2
  go_ret3
  exact ⟨rfl, Below.refl _ _⟩

set_option maxHeartbeats 2000000 in
theorem TradeRange_yes (A A2 : Option Addr) (c c2 : Nat) (b s : List Int) (w : World) (h : Rd w A c b) (h2 : Rd w A2 c2 s) (hb : vB b = true) (hs : vB s = true) :
    Calls Try.prog 18 #[.slice A b.length c, .slice A2 s.length c2] w (PairIs w (rgOf b s).1 (rgOf b s).2) := by
  have HB := Lib.hid (vB_Bd hb)
  have HS := Lib.hid (vB_Bd hs)
  have HV := Lib.hid (areTraders_any A A2 c c2 b s w h h2 (by have := HB.out.1; omega) (by have := HS.out.1; omega))
  rw [hb, hs] at HV
  obtain ⟨n, hn⟩ : ∃ n, n = trOf b s := ⟨_, rfl⟩
  obtain ⟨ds, hd⟩ : ∃ ds, ds = dlF (dnL b) (upL s) := ⟨_, rfl⟩
  have hdl : ds.length = n := by rw [hd, dlF_len, hn]; rfl
  have HD := Lib.hid (dealsOf_is A A2 c c2 b s w hdl hd h h2 HB.out HS.out)
  have HRG : Hid (rgOf b s = rgF (fun p => wtB b s n (p : Int)) 31) := Lib.hid (by rw [hn]; rfl)
  have HWT := Lib.hid (fun (w1 : World) (hb : Below w.heap.size w w1) (p : Nat) (hp : p < 31) => isWanted_any A A2 c c2 b s n (p : Int) w1 (h.below hb) (h2.below hb) (by have := HB.out.1; omega) (by have := HS.out.1; omega) (by omega) (by omega))
  clear h h2 hb hs hn hd hdl HB HS
  go_enter Try.func18, Try.ntmps18
  go_wp2_with fail
  refine HV.out.mono ?_
  rintro e w1 ⟨rfl, rfl⟩
  go_wp2_with fail
  refine HD.out.mono ?_
  rintro e w1 ⟨A3, c3, rfl, _, b1⟩
  go_wp2_with fail
  go_loopw [7, 8, 18] (fun lv hv pv wr => ∃ (k : Nat) (lo hi : Int), k ≤ 31 ∧ lv = .int .i64 lo ∧ hv = .int .i64 hi ∧ pv = .int .i64 (k : Int) ∧ wr = w1 ∧ -1 ≤ lo ∧ Hid (rgF (fun p => wtB b s n (p : Int)) k = (lo, hi)))
    (fun _ _ pv _ => 31 - (intOf pv).toNat)
  case atStart => exact ⟨0, -1, -1, by decide, rfl, rfl, rfl, rfl, by decide, Lib.hid rfl⟩
  case round =>
    obtain ⟨k, lo, hi, hk, rfl, rfl, rfl, rfl, hlo, HR⟩ := hrel
    by_cases hlt : k < 31
    · have HW1 := Lib.hid (HWT.out wr b1 k hlt)
      cases hw : wtB b s n (k : Int) with
      | false =>
        have HW' : Hid (rgF (fun p => wtB b s n (p : Int)) (k + 1) = (lo, hi)) := Lib.hid (by rw [rgF_no hw]; exact HR.out)
        rw [hw] at HW1
        clear hw
        go_wp2_with fail
        refine HW1.out.mono ?_
        rintro e w2 ⟨rfl, rfl⟩
        go_wp2
        go_roundw
        case rel => exact ⟨k + 1, lo, hi, by omega, rfl, rfl, by go_num, (by first | rfl | trivial), hlo, HW'⟩
        case measure => simp [intOf]; omega
      | true =>
        rw [hw] at HW1
        by_cases hl0 : lo < 0
        · have HW' : Hid (rgF (fun p => wtB b s n (p : Int)) (k + 1) = ((k : Int), (k : Int))) := Lib.hid (by rw [rgF_yes hw, HR.out, if_pos hl0])
          clear hw
          go_wp2_with fail
          refine HW1.out.mono ?_
          rintro e w2 ⟨rfl, rfl⟩
          go_wp2
          go_roundw
          case rel => exact ⟨k + 1, k, k, by omega, rfl, rfl, by go_num, (by first | rfl | trivial), by omega, HW'⟩
          case measure => simp [intOf]; omega
        · have HW' : Hid (rgF (fun p => wtB b s n (p : Int)) (k + 1) = (lo, (k : Int))) := Lib.hid (by rw [rgF_yes hw, HR.out, if_neg hl0])
          clear hw
          go_wp2_with fail
          refine HW1.out.mono ?_
          rintro e w2 ⟨rfl, rfl⟩
          go_wp2
          go_roundw
          case rel => exact ⟨k + 1, lo, k, by omega, rfl, rfl, by go_num, (by first | rfl | trivial), hlo, HW'⟩
          case measure => simp [intOf]; omega
    · obtain rfl : k = 31 := by omega
      have HE : Hid (rgOf b s = (lo, hi)) := Lib.hid (by rw [HRG.out]; exact HR.out)
      go_wp2
      go_ret2
      exact ⟨by rw [HE.out]; rfl, b1⟩

/-- What one trade fewer tells: how many, what is paid, what is had. -/
def tlF (b s : List Int) : Nat × Int × Int := if trOf b s = 0 then (0, 0, 0) else (trOf b s - 1, (dnL b).getD (trOf b s - 1) 0, (upL s).getD (trOf b s - 1) 0)

set_option maxHeartbeats 2000000 in
theorem TradeLess_yes (A A2 : Option Addr) (c c2 : Nat) (b s : List Int) (w : World) (h : Rd w A c b) (h2 : Rd w A2 c2 s) (hb : vB b = true) (hs : vB s = true) :
    Calls Try.prog 21 #[.slice A b.length c, .slice A2 s.length c2] w (TripIs w ((tlF b s).1 : Int) (tlF b s).2.1 (tlF b s).2.2) := by
  have HB := Lib.hid (vB_Bd hb)
  have HS := Lib.hid (vB_Bd hs)
  have HV := Lib.hid (areTraders_any A A2 c c2 b s w h h2 (by have := HB.out.1; omega) (by have := HS.out.1; omega))
  rw [hb, hs] at HV
  obtain ⟨n, hn⟩ : ∃ n, n = trOf b s := ⟨_, rfl⟩
  obtain ⟨ds, hd⟩ : ∃ ds, ds = dlF (dnL b) (upL s) := ⟨_, rfl⟩
  have hdl : ds.length = n := by rw [hd, dlF_len, hn]; rfl
  have HD := Lib.hid (dealsOf_is A A2 c c2 b s w hdl hd h h2 HB.out HS.out)
  have hn6 : n ≤ 6 := by have := (trOf_le b s).1; have := HB.out.1.2; omega
  have HDL := Lib.hid hdl
  by_cases hn0 : n = 0
  · have HE : Hid (tlF b s = (0, 0, 0)) := Lib.hid (by unfold tlF; rw [if_pos (by rw [← hn]; exact hn0)])
    subst hn0
    rw [HE.out]
    clear h h2 hb hs hn hd hdl HB HS
    go_enter Try.func21, Try.ntmps21
    go_wp2_with fail
    refine HV.out.mono ?_
    rintro e w1 ⟨rfl, rfl⟩
    go_wp2_with fail
    refine HD.out.mono ?_
    rintro e w1 ⟨A3, c3, rfl, _, b1⟩
    go_wp2
    go_ret3
    exact ⟨rfl, b1⟩
  · obtain ⟨m, hm⟩ : ∃ m, n = m + 1 := ⟨n - 1, by omega⟩
    obtain ⟨x, y, hds, hx, hy, hle, hy0, hx30⟩ := deals_at HB.out HS.out (show m < trOf b s by omega)
    rw [← hd] at hds
    have HE : Hid (tlF b s = (m, x, y)) := Lib.hid (by unfold tlF; rw [if_neg (by rw [← hn]; exact hn0), ← hn, hm, Nat.add_sub_cancel, List.getD_eq_getElem?_getD, List.getD_eq_getElem?_getD, hx, hy]; rfl)
    have HDS := Lib.hid hds
    rw [HE.out]
    have hnn : ((n : Int) == 0) = false := by simp; omega
    have hw1 : IntKind.i64.wrap ((n : Int) - 1) = (m : Int) := by rw [show (n : Int) - 1 = (m : Int) by omega]; exact IntWalk.i64_in _ (by omega)
    have hmn : m < n := by omega
    clear h h2 hb hs hn hd hdl HB HS hds hx hy hm hn0
    go_enter Try.func21, Try.ntmps21
    go_wp2_with fail
    refine HV.out.mono ?_
    rintro e w1 ⟨rfl, rfl⟩
    go_wp2_with fail
    refine HD.out.mono ?_
    rintro e w1 ⟨A3, c3, rfl, o1, b1⟩
    obtain ⟨bd, x', y', rfl, hbl, hxy, hc0, hc1⟩ := o1.rd.at_ (k := m) (by rw [HDL.out]; exact hmn)
    obtain ⟨rfl, rfl⟩ : x' = x ∧ y' = y := by have := hxy.out; rw [HDS.out] at this; injection this with this; injection this with e1 e2; exact ⟨e1.symm, e2.symm⟩
    clear o1 hxy
    go_wp2_with fail
    go_quiet (fail)
    go_wp2
    go_ret3
    exact ⟨rfl, below_drewN' b1 _⟩

end Go.Proofs.Ytpildecpabeanaa
