/-
  Chapter 6: which things may be moved, by the model: byMoves, SwapsByMoves.
-/
import Derived.Test.YtmgdhljlbcfefaaJf
namespace Go.Proofs.Ytmgdhljlbcfefaa
open Go.RowKit

/-- The thing i may be moved from s to x, if it is there and not here. -/
def MvQ (t : List Int) (s x i : Nat) : Prop := s / 2 ^ i % 2 = 1 → x / 2 ^ i % 2 = 0 → MvOne t s x i
def MvI (t : List Int) (s x k : Nat) : Prop := ∀ i, i < k → MvQ t s x i
def MvX (t : List Int) (s k : Nat) : Prop := ∀ x, x < k → MvI t s x 3
def MvS (t : List Int) (k : Nat) : Prop := ∀ s, s < k → MvX t s 8
theorem MvI.zero (t : List Int) (s x : Nat) : MvI t s x 0 := fun i h => absurd h (by omega)
theorem MvX.zero (t : List Int) (s : Nat) : MvX t s 0 := fun i h => absurd h (by omega)
theorem MvS.zero (t : List Int) : MvS t 0 := fun i h => absurd h (by omega)
theorem MvI.next {t : List Int} {s x k : Nat} (h : MvI t s x k) (hk : MvQ t s x k) : MvI t s x (k + 1) := fun i hi => by
  rcases Nat.lt_or_ge i k with h1 | h1
  · exact h i h1
  · rw [show i = k by omega]; exact hk
theorem MvX.next {t : List Int} {s k : Nat} (h : MvX t s k) (hk : MvI t s k 3) : MvX t s (k + 1) := fun i hi => by
  rcases Nat.lt_or_ge i k with h1 | h1
  · exact h i h1
  · rw [show i = k by omega]; exact hk
theorem MvS.next {t : List Int} {k : Nat} (h : MvS t k) (hk : MvX t k 8) : MvS t (k + 1) := fun i hi => by
  rcases Nat.lt_or_ge i k with h1 | h1
  · exact h i h1
  · rw [show i = k by omega]; exact hk
theorem MvS.mv {t : List Int} (h : MvS t 8) : Mv t := fun s hs x hx i hi h1 h2 => h s hs x hx i hi h1 h2

set_option maxRecDepth 100000 in
set_option maxHeartbeats 4000000 in
theorem SbyMoves_any (A : Option Addr) (c : Nat) (t : List Int) (w : World) (h : Rd w A c t) (hv : VT t) :
    Calls Try.prog 79 #[.slice A t.length c] w fun e w' => e = .returned (.bool (mvB t)) ∧ ∃ n, w' = w.drewN n := by
  have h8 := hv.1
  have HM := Lib.hid (fun (s x i : Nat) (n : Nat) (hs : s < 8) (hx : x < 8) (hi : i < 3) (h1 : s / 2 ^ i % 2 = 1) (h0 : x / 2 ^ i % 2 = 0) => Smoves_any A c t s x i (w.drewN n) (h.drewN n) hv hs hx hi h1 h0)
  have HY := Lib.hid (fun (hm : MvS t 8) => mvB_true hv hm.mv)
  have HNO := Lib.hid (fun (s x i : Nat) (hs : s < 8) (hx : x < 8) (hi : i < 3) (h1 : s / 2 ^ i % 2 = 1) (h0 : x / 2 ^ i % 2 = 0) (hn : moB t s x i = false) => mvB_false (t := t) (fun hm => by
    have := moB_true (hm.2 s hs x hx i hi h1 h0)
    rw [hn] at this
    cases this))
  clear hv
  rw [h8] at HM ⊢
  go_enter Try.func79, Try.ntmps79
  go_wp2
  go_loopw [3] (fun iv wr => ∃ k n : Nat, k ≤ 8 ∧ iv = .int .i64 (k : Int) ∧ wr = w.drewN n ∧ Hid (MvS t k)) (fun iv _ => 8 - (intOf iv).toNat)
  case atStart => exact ⟨0, 0, by omega, rfl, rfl, Lib.hid (MvS.zero t)⟩
  case round =>
    obtain ⟨s, n, hs, rfl, rfl, HS⟩ := hrel
    by_cases hlt : s < 8
    · have hs8 : (s : Int) < 8 := by omega
      have hs1 : s + 1 ≤ 8 := hlt
      have HLT := Lib.hid hlt
      clear hlt
      go_wp2
      go_loopw [4] (fun iv wr => ∃ k n : Nat, k ≤ 8 ∧ iv = .int .i64 (k : Int) ∧ wr = w.drewN n ∧ Hid (MvX t s k)) (fun iv _ => 8 - (intOf iv).toNat)
      case atStart => exact ⟨0, n, by omega, rfl, rfl, Lib.hid (MvX.zero t s)⟩
      case round =>
        obtain ⟨x, n, hx, rfl, rfl, HX⟩ := hrel
        by_cases hlt : x < 8
        · have hx8 : (x : Int) < 8 := by omega
          have hx1 : x + 1 ≤ 8 := hlt
          have HLX := Lib.hid hlt
          clear hlt
          go_wp2
          go_loopw [5] (fun iv wr => ∃ k n : Nat, k ≤ 3 ∧ iv = .int .i64 (k : Int) ∧ wr = w.drewN n ∧ Hid (MvI t s x k)) (fun iv _ => 3 - (intOf iv).toNat)
          case atStart => exact ⟨0, n, by omega, rfl, rfl, Lib.hid (MvI.zero t s x)⟩
          case round =>
            obtain ⟨i, n, hi, rfl, rfl, HI⟩ := hrel
            by_cases hlt : i < 3
            · have hi3 : (i : Int) < 3 := by omega
              have hi1 : i + 1 ≤ 3 := hlt
              have HB1 := Lib.hid (fun w1 => Sbit_any s i HLT.out hlt w1)
              have HB2 := Lib.hid (fun w1 => Sbit_any x i HLX.out hlt w1)
              rcases bit_cases s i with g0 | g1
              · have HU := Lib.hid (HI.out.next (fun g1 => absurd (g0.symm.trans g1) (by omega)))
                rw [g0] at HB1
                clear g0 hlt HI
                go_wp2_with fail
                refine (HB1.out _).mono ?_
                rintro e w1 ⟨rfl, rfl⟩
                go_wp2
                go_roundw
                case rel => exact ⟨i + 1, _, hi1, by go_num, rfl, HU⟩
                case measure => simp [intOf]; omega
              · rcases bit_cases x i with g0 | g2
                · have HMM := Lib.hid (HM.out s x i n HLT.out HLX.out hlt g1 g0)
                  have HNE := Lib.hid (HNO.out s x i HLT.out HLX.out hlt g1 g0)
                  have HYE : moB t s x i = true → Hid (MvI t s x (i + 1)) := fun hh => Lib.hid (HI.out.next (fun _ _ => moB_iff.1 hh))
                  rw [g1] at HB1
                  rw [g0] at HB2
                  clear g1 g0 hlt HI
                  rcases hb : moB t s x i with _ | _
                  · have HE := Lib.hid (HNE.out hb)
                    rw [hb] at HMM
                    clear hb HNE HYE
                    go_wp2_with fail
                    refine (HB1.out _).mono ?_
                    rintro e w1 ⟨rfl, rfl⟩
                    go_wp2_with fail
                    refine (HB2.out _).mono ?_
                    rintro e w1 ⟨rfl, rfl⟩
                    go_wp2_with fail
                    refine (HMM.out).mono ?_
                    rintro e w1 ⟨rfl, m, rfl⟩
                    go_wp2
                    go_ret
                    exact ⟨by rw [HE.out]; rfl, _, rfl⟩
                  · have HU := HYE hb
                    rw [hb] at HMM
                    clear hb HNE HYE
                    go_wp2_with fail
                    refine (HB1.out _).mono ?_
                    rintro e w1 ⟨rfl, rfl⟩
                    go_wp2_with fail
                    refine (HB2.out _).mono ?_
                    rintro e w1 ⟨rfl, rfl⟩
                    go_wp2_with fail
                    refine (HMM.out).mono ?_
                    rintro e w1 ⟨rfl, m, rfl⟩
                    go_wp2
                    go_roundw
                    case rel => exact ⟨i + 1, _, hi1, by go_num, rfl, HU⟩
                    case measure => simp [intOf]; omega
                · have HU := Lib.hid (HI.out.next (fun _ g0 => absurd (g2.symm.trans g0) (by omega)))
                  rw [g1] at HB1
                  rw [g2] at HB2
                  clear g1 g2 hlt HI
                  go_wp2_with fail
                  refine (HB1.out _).mono ?_
                  rintro e w1 ⟨rfl, rfl⟩
                  go_wp2_with fail
                  refine (HB2.out _).mono ?_
                  rintro e w1 ⟨rfl, rfl⟩
                  go_wp2
                  go_roundw
                  case rel => exact ⟨i + 1, _, hi1, by go_num, rfl, HU⟩
                  case measure => simp [intOf]; omega
            · obtain rfl : i = 3 := by omega
              have HU := Lib.hid (HX.out.next HI.out)
              go_wp2
              go_roundw
              case rel => exact ⟨x + 1, _, hx1, by go_num, rfl, HU⟩
              case measure => simp [intOf]; omega
        · obtain rfl : x = 8 := by omega
          have HU := Lib.hid (HS.out.next HX.out)
          go_wp2
          go_roundw
          case rel => exact ⟨s + 1, _, hs1, by go_num, rfl, HU⟩
          case measure => simp [intOf]; omega
    · obtain rfl : s = 8 := by omega
      have HE := Lib.hid (HY.out HS.out)
      go_wp2
      go_ret
      exact ⟨by rw [HE.out]; rfl, _, rfl⟩

theorem SSwapsByMoves_any (A : Option Addr) (c : Nat) (t : List Int) (w : World) (h : Rd w A c t) (hl : t.length ≤ 1099511627776) :
    Calls Try.prog 36 #[.slice A t.length c] w fun e w' => e = .returned (.bool (mvB t)) ∧ ∃ n, w' = w.drewN n := by
  have HV := Lib.hid (SvalidTable_any A c t w h hl)
  by_cases hv : VT t
  · rw [vt_true hv] at HV
    have HM := Lib.hid (fun w' (hr : Rd w' A c t) => SbyMoves_any A c t w' hr hv)
    clear hv
    go_enter Try.func36, Try.ntmps36
    go_wp2_with (first | (go_at_call 54; refine HV.out.mono ?_; rintro e w1 ⟨rfl, n, rfl⟩) | (go_at_call 79; refine (HM.out _ (h.drewN n)).mono ?_; rintro e w1 ⟨rfl, m, rfl⟩))
    go_ret
    exact ⟨rfl, _, rfl⟩
  · rw [vt_false hv] at HV
    have HE := Lib.hid (mvB_false (t := t) (fun h => hv h.1))
    clear hv
    go_enter Try.func36, Try.ntmps36
    go_wp2_with (go_at_call 54; refine HV.out.mono ?_; rintro e w1 ⟨rfl, n, rfl⟩)
    go_ret
    exact ⟨by rw [HE.out]; rfl, _, rfl⟩

end Go.Proofs.Ytmgdhljlbcfefaa
