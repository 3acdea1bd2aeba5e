/-
  Chapter 6: the program's SwapsByMoves; both sides.
-/
import Derived.Test.YtccbjgajmjcpjaaJi
import Derived.Test.YtccbjgajmjcpjaaWj
import Derived.StillTailTactics
namespace Go.Proofs.Ytccbjgajmjcpjaa
open Go.RowKit

theorem maB_mv {t : List Int} (h : mvB t = true) {s x : Nat} (hs : s < 8) (hx : x < 8) : maB t s x = true := maB_true (fun i hi h1 h0 => (mvB_iff.1 h).2 s hs x hx i hi h1 h0)
theorem mvB_no {t : List Int} {s x : Nat} (hs : s < 8) (hx : x < 8) (h : maB t s x = false) : mvB t = false := by
  rcases hb : mvB t with _ | _
  · rfl
  · rw [maB_mv hb hs hx] at h; cases h

set_option maxRecDepth 100000 in
set_option maxHeartbeats 1600000 in
theorem SwapsByMoves_any (A : Option Addr) (c : Nat) (t : List Int) (w : World) (h : Rd w A c t) (hl : t.length ≤ 1099511627776) :
    Calls Try.prog 83 #[.slice A t.length c] w fun e w' => e = .returned (.bool (mvB t)) ∧ Below w.heap.size w w' := by
  have HV := Lib.hid (ValidTable_any A c t w h hl)
  by_cases hv : VT t
  · rw [vt_true hv] at HV
    have h8 := hv.1
    obtain ⟨b, off, rfl⟩ := h.some_ h8
    have HM := Lib.hid (fun (s x : Nat) (hs : s < 8) (hx : x < 8) (w1 : World) => movesAll_any t s x w1 hv hs hx)
    have HN := Lib.hid (fun (s x : Nat) (hs : s < 8) (hx : x < 8) (hn : maB t s x = false) => mvB_no hs hx hn)
    have HY := Lib.hid (fun (hm : MvS t 8) => mvB_true hv hm.mv)
    have hap := arr_ptr b off c
    rw [h8] at HV ⊢
    clear hv
    go_enter Try.func83, Try.ntmps83
    go_wp2_with (go_at_call 142; refine HV.out.mono ?_; rintro e w1 ⟨rfl, hb1⟩)
    go_loopw [10] (fun iv wr => ∃ k : Nat, k ≤ 8 ∧ iv = .int .i64 (k : Int) ∧ Below w.heap.size w wr ∧ Hid (MvS t k)) (fun iv _ => 8 - (intOf iv).toNat)
    case atStart => exact ⟨0, by omega, rfl, hb1, Lib.hid (MvS.zero t)⟩
    case round =>
      obtain ⟨s, hs, rfl, hb, HS⟩ := hrel
      by_cases hlt : s < 8
      · have hs8 : (s : Int) < 8 := by omega
        have hs1 : s + 1 ≤ 8 := hlt
        have HLT := Lib.hid hlt
        clear hlt
        go_wp2
        go_loopw [15] (fun iv wr => ∃ k : Nat, k ≤ 8 ∧ iv = .int .i64 (k : Int) ∧ Below w.heap.size w wr ∧ Hid (MvX t s k)) (fun iv _ => 8 - (intOf iv).toNat)
        case atStart => exact ⟨0, by omega, rfl, hb, Lib.hid (MvX.zero t s)⟩
        case round =>
          obtain ⟨x, hx, rfl, hbx, HX⟩ := hrel
          by_cases hlt : x < 8
          · have hx8 : (x : Int) < 8 := by omega
            have hx1 : x + 1 ≤ 8 := hlt
            have HC := Lib.hid (fun w1 => HM.out s x HLT.out hlt w1)
            have HNE := Lib.hid (HN.out s x HLT.out hlt)
            have HYE := Lib.hid (fun (hm : maB t s x = true) => HX.out.next (maB_iff.1 hm))
            obtain ⟨c0, c1, c2, c3, c4, c5, c6, c7⟩ := (h.below hbx).eight h8
            clear hlt
            rcases hmb : maB t s x with _ | _
            · have HE := Lib.hid (HNE.out hmb)
              rw [hmb] at HC
              clear hmb HNE HYE
              go_wp2_with fail
              refine (HC.out _).mono ?_
              rintro e w2 ⟨rfl, hb2⟩
              go_wp2
              go_ret
              exact ⟨by rw [HE.out]; rfl, below_then hbx hb2⟩
            · have HE := Lib.hid (HYE.out hmb)
              rw [hmb] at HC
              clear hmb HNE HYE
              go_wp2_with fail
              refine (HC.out _).mono ?_
              rintro e w2 ⟨rfl, hb2⟩
              go_wp2
              go_roundw
              case rel => exact ⟨x + 1, hx1, by go_num, below_then hbx hb2, HE⟩
              case measure => simp [intOf]; omega
          · obtain rfl : x = 8 := by omega
            have HU := Lib.hid (HS.out.next HX.out)
            go_wp2
            go_roundw
            case rel => exact ⟨s + 1, hs1, by go_num, hbx, HU⟩
            case measure => simp [intOf]; omega
      · obtain rfl : s = 8 := by omega
        have HE := Lib.hid (HY.out HS.out)
        go_wp2
        go_ret
        exact ⟨by rw [HE.out]; rfl, hb⟩
  · rw [vt_false hv] at HV
    have HE := Lib.hid (mvB_false (t := t) (fun h => hv h.1))
    clear hv
    go_enter Try.func83, Try.ntmps83
    go_wp2_with (go_at_call 142; refine HV.out.mono ?_; rintro e w1 ⟨rfl, hb⟩)
    go_ret
    exact ⟨by rw [HE.out]; rfl, hb⟩

end Go.Proofs.Ytccbjgajmjcpjaa
