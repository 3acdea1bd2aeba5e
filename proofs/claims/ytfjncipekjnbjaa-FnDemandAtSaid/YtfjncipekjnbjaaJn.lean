/-
  Chapter 6: three things exchanged, by the model.
-/
import Derived.Test.YtfjncipekjnbjaaJd
import Derived.Test.YtfjncipekjnbjaaWh
namespace Go.Proofs.Ytfjncipekjnbjaa
open Go.RowKit

/-- The three things i, j and k may be exchanged. -/
def TriQ (t : List Int) (i j k : Nat) : Prop := i ≠ j → i ≠ k → j ≠ k → T t (2 ^ i + 2 ^ j) + T t (2 ^ k) ≤ max (T t (2 ^ i + 2 ^ k) + T t (2 ^ j)) (T t (2 ^ j + 2 ^ k) + T t (2 ^ i))
def TriK (t : List Int) (i j n : Nat) : Prop := ∀ k, k < n → TriQ t i j k
def TriJ (t : List Int) (i n : Nat) : Prop := ∀ j, j < n → TriK t i j 3
def TriI (t : List Int) (n : Nat) : Prop := ∀ i, i < n → TriJ t i 3
theorem TriK.zero (t : List Int) (i j : Nat) : TriK t i j 0 := fun i h => absurd h (by omega)
theorem TriJ.zero (t : List Int) (i : Nat) : TriJ t i 0 := fun i h => absurd h (by omega)
theorem TriI.zero (t : List Int) : TriI t 0 := fun i h => absurd h (by omega)
theorem TriK.next {t : List Int} {i j n : Nat} (h : TriK t i j n) (hk : TriQ t i j n) : TriK t i j (n + 1) := fun k hk1 => by
  rcases Nat.lt_or_ge k n with h1 | h1
  · exact h k h1
  · rw [show k = n by omega]; exact hk
theorem TriJ.next {t : List Int} {i n : Nat} (h : TriJ t i n) (hk : TriK t i n 3) : TriJ t i (n + 1) := fun k hk1 => by
  rcases Nat.lt_or_ge k n with h1 | h1
  · exact h k h1
  · rw [show k = n by omega]; exact hk
theorem TriI.next {t : List Int} {n : Nat} (h : TriI t n) (hk : TriJ t n 3) : TriI t (n + 1) := fun k hk1 => by
  rcases Nat.lt_or_ge k n with h1 | h1
  · exact h k h1
  · rw [show k = n by omega]; exact hk
theorem TriI.tri {t : List Int} (h : TriI t 3) : Tri t := fun i hi j hj k hk h1 h2 h3 => h i hi j hj k hk h1 h2 h3
theorem Tri.no {t : List Int} {i j k : Nat} (hi : i < 3) (hj : j < 3) (hk : k < 3) (h1 : i ≠ j) (h2 : i ≠ k) (h3 : j ≠ k) (hn : ¬ T t (2 ^ i + 2 ^ j) + T t (2 ^ k) ≤ max (T t (2 ^ i + 2 ^ k) + T t (2 ^ j)) (T t (2 ^ j + 2 ^ k) + T t (2 ^ i))) : ¬ Tri t := fun h => hn (h i hi j hj k hk h1 h2 h3)
/-- Three different things, as sets. -/
theorem three_fit {i j k : Nat} (hi : i < 3) (hj : j < 3) (hk : k < 3) (h1 : i ≠ j) (h2 : i ≠ k) (h3 : j ≠ k) :
    bits .or .i64 ((2 ^ i : Nat) : Int) ((2 ^ j : Nat) : Int) = ((2 ^ i + 2 ^ j : Nat) : Int) ∧ bits .or .i64 ((2 ^ i : Nat) : Int) ((2 ^ k : Nat) : Int) = ((2 ^ i + 2 ^ k : Nat) : Int) ∧ bits .or .i64 ((2 ^ j : Nat) : Int) ((2 ^ k : Nat) : Int) = ((2 ^ j + 2 ^ k : Nat) : Int) ∧
    bits .or .i64 ((2 ^ i + 2 ^ j : Nat) : Int) ((2 ^ k : Nat) : Int) = 7 ∧ bits .or .i64 0 ((2 ^ i : Nat) : Int) = ((2 ^ i : Nat) : Int) ∧ bits .or .i64 0 ((2 ^ j : Nat) : Int) = ((2 ^ j : Nat) : Int) ∧ bits .or .i64 0 ((2 ^ k : Nat) : Int) = ((2 ^ k : Nat) : Int) ∧
    2 ^ i + 2 ^ j < 8 ∧ 2 ^ i + 2 ^ k < 8 ∧ 2 ^ j + 2 ^ k < 8 ∧ 2 ^ i < 8 ∧ 2 ^ j < 8 ∧ 2 ^ k < 8 := by
  rcases nat3 hi with rfl | rfl | rfl <;> rcases nat3 hj with rfl | rfl | rfl <;> rcases nat3 hk with rfl | rfl | rfl <;>
    first
    | exact absurd rfl h1
    | exact absurd rfl h2
    | exact absurd rfl h3
    | decide
theorem and7 {s : Nat} (hs : s < 8) : bits .and .i64 (s : Int) 7 = (s : Int) := by
  rcases nat8 hs with rfl | rfl | rfl | rfl | rfl | rfl | rfl | rfl <;> decide

set_option maxRecDepth 100000 in
set_option maxHeartbeats 1600000 in
theorem SSwapsByThrees_any (A : Option Addr) (c : Nat) (t : List Int) (w : World) (h : Rd w A c t) (hl : t.length ≤ 1099511627776) :
    Calls Try.prog 32 #[.slice A t.length c] w fun e w' => e = .returned (.bool (thB t)) ∧ Below w.heap.size w w' := by
  have HV := Lib.hid (SvalidTable_any A c t w h hl)
  by_cases hv : VT t
  · rw [vt_true hv] at HV
    have HM := Lib.hid (fun w1 (h : Rd w1 A c t) => Smodest_any A c t w1 h hv)
    have h8 := hv.1
    by_cases hm : Mod t
    · rw [mdB_true hv hm] at HM
      have HY := Lib.hid (fun (h3 : TriI t 3) => thB_true hv hm h3.tri)
      have HN := Lib.hid (fun (hn : ¬ Tri t) => thB_false (t := t) (fun h => hn h.2.2))
      have HBD := Lib.hid (fun s (hs : s < 8) => hv.bd hs)
      rw [h8] at HV HM ⊢
      clear hv hm
      go_enter Try.func32, Try.ntmps32
      go_wp2_with (first | (go_at_call 71; refine HV.out.mono ?_; rintro e w1 ⟨rfl, n1, rfl⟩) | (go_at_call 87; refine (HM.out _ (h.drewN n1)).mono ?_; rintro e w2 ⟨rfl, b2⟩))
      have BM := below_then (below_drewN' (Below.refl _ w) n1) b2
      have h2 := h.below BM
      have HC := Lib.hid (fun (k : Nat) (hk : k < 8) => h2.at_ (k := k) (by omega))
      clear HV HM b2
      go_loopw [3] (fun iv wr => ∃ k n : Nat, k ≤ 3 ∧ iv = .int .i64 (k : Int) ∧ wr = w2.drewN n ∧ Hid (TriI t k)) (fun iv _ => 3 - (intOf iv).toNat)
      case atStart => exact ⟨0, 0, by omega, rfl, rfl, Lib.hid (TriI.zero t)⟩
      case round =>
        obtain ⟨i, n, hi, rfl, rfl, HI⟩ := hrel
        by_cases hlt : i < 3
        · have hi3 : (i : Int) < 3 := by omega
          have hi1 : i + 1 ≤ 3 := hlt
          have HLI := Lib.hid hlt
          clear hlt
          go_wp2
          go_loopw [4] (fun iv wr => ∃ k n : Nat, k ≤ 3 ∧ iv = .int .i64 (k : Int) ∧ wr = w2.drewN n ∧ Hid (TriJ t i k)) (fun iv _ => 3 - (intOf iv).toNat)
          case atStart => exact ⟨0, n, by omega, rfl, rfl, Lib.hid (TriJ.zero t i)⟩
          case round =>
            obtain ⟨j, n, hj, rfl, rfl, HJ⟩ := hrel
            by_cases hlt : j < 3
            · have hj3 : (j : Int) < 3 := by omega
              have hj1 : j + 1 ≤ 3 := hlt
              have HLJ := Lib.hid hlt
              clear hlt
              go_wp2
              go_loopw [5] (fun iv wr => ∃ k n : Nat, k ≤ 3 ∧ iv = .int .i64 (k : Int) ∧ wr = w2.drewN n ∧ Hid (TriK t i j k)) (fun iv _ => 3 - (intOf iv).toNat)
              case atStart => exact ⟨0, n, by omega, rfl, rfl, Lib.hid (TriK.zero t i j)⟩
              case round =>
                obtain ⟨k, n, hk, rfl, rfl, HK⟩ := hrel
                by_cases hlt : k < 3
                · have hk3 : (k : Int) < 3 := by omega
                  have hk1 : k + 1 ≤ 3 := hlt
                  by_cases hd : i ≠ j ∧ i ≠ k ∧ j ≠ k
                  · have q1 : ((i : Int) == (j : Int)) = false := by simp; omega
                    have q2 : ((i : Int) == (k : Int)) = false := by simp; omega
                    have q3 : ((j : Int) == (k : Int)) = false := by simp; omega
                    have HPI := Lib.hid (fun w1 => Spower_any i (by have := HLI.out; omega) w1)
                    have HPJ := Lib.hid (fun w1 => Spower_any j (by have := HLJ.out; omega) w1)
                    have HPK := Lib.hid (fun w1 => Spower_any k (by omega) w1)
                    obtain ⟨d1, d2, d3⟩ := hd
                    obtain ⟨o1, o2, o3, o4, o5, o6, o7, l1, l2, l3, l4, l5, l6⟩ := three_fit HLI.out HLJ.out hlt d1 d2 d3
                    obtain ⟨b, off, m1, rfl, _, hm1, hc1⟩ := HC.out (2 ^ i + 2 ^ j) l1
                    obtain ⟨_, _, m2, hA, _, hm2, hc2⟩ := HC.out (2 ^ i + 2 ^ k) l2
                    cases hA
                    obtain ⟨_, _, m3, hA, _, hm3, hc3⟩ := HC.out (2 ^ j + 2 ^ k) l3
                    cases hA
                    obtain ⟨_, _, r1, hA, _, hr1, hc4⟩ := HC.out (2 ^ i) l4
                    cases hA
                    obtain ⟨_, _, r2, hA, _, hr2, hc5⟩ := HC.out (2 ^ j) l5
                    cases hA
                    obtain ⟨_, _, r3, hA, _, hr3, hc6⟩ := HC.out (2 ^ k) l6
                    cases hA
                    have g1 := HBD.out _ l1; have g2 := HBD.out _ l2; have g3 := HBD.out _ l3; have g4 := HBD.out _ l4; have g5 := HBD.out _ l5; have g6 := HBD.out _ l6
                    rw [T_of hm1.out] at g1; rw [T_of hm2.out] at g2; rw [T_of hm3.out] at g3; rw [T_of hr1.out] at g4; rw [T_of hr2.out] at g5; rw [T_of hr3.out] at g6
                    have HNE : max (m2 + r2) (m3 + r1) < m1 + r3 → Hid (thB t = false) := fun hh => Lib.hid (HN.out (Tri.no HLI.out HLJ.out hlt d1 d2 d3 (by rw [T_of hm1.out, T_of hm2.out, T_of hm3.out, T_of hr1.out, T_of hr2.out, T_of hr3.out]; omega)))
                    have HYE : ¬ max (m2 + r2) (m3 + r1) < m1 + r3 → Hid (TriK t i j (k + 1)) := fun hh => Lib.hid (HK.out.next (fun _ _ _ => by rw [T_of hm1.out, T_of hm2.out, T_of hm3.out, T_of hr1.out, T_of hr2.out, T_of hr3.out]; omega))
                    have e1 : IntKind.i64.wrap (m1 + r3) = m1 + r3 := IntWalk.i64_in _ (by omega)
                    have e2 : IntKind.i64.wrap (m2 + r2) = m2 + r2 := IntWalk.i64_in _ (by omega)
                    have e3 : IntKind.i64.wrap (m3 + r1) = m3 + r1 := IntWalk.i64_in _ (by omega)
                    obtain ⟨pi, hpi⟩ : ∃ p, p = 2 ^ i := ⟨_, rfl⟩
                    obtain ⟨pj, hpj⟩ : ∃ p, p = 2 ^ j := ⟨_, rfl⟩
                    obtain ⟨pk, hpk⟩ : ∃ p, p = 2 ^ k := ⟨_, rfl⟩
                    rw [← hpi] at HPI o1 o2 o4 o5 hc1 hc2 hc4 l1 l2 l4
                    rw [← hpj] at HPJ o1 o3 o4 o6 hc1 hc3 hc5 l1 l3 l5
                    rw [← hpk] at HPK o2 o3 o4 o7 hc2 hc3 hc6 l2 l3 l6
                    obtain ⟨pij, hpij⟩ : ∃ p, p = pi + pj := ⟨_, rfl⟩
                    obtain ⟨pik, hpik⟩ : ∃ p, p = pi + pk := ⟨_, rfl⟩
                    obtain ⟨pjk, hpjk⟩ : ∃ p, p = pj + pk := ⟨_, rfl⟩
                    rw [← hpij] at o1 o4 hc1 l1
                    rw [← hpik] at o2 hc2 l2
                    rw [← hpjk] at o3 hc3 l3
                    have z1 : (0 : Int) ≤ (pij : Int) := by omega
                    have z2 : (pij : Int) < 8 := by omega
                    have z3 : (0 : Int) ≤ (pik : Int) := by omega
                    have z4 : (pik : Int) < 8 := by omega
                    have z5 : (0 : Int) ≤ (pjk : Int) := by omega
                    have z6 : (pjk : Int) < 8 := by omega
                    have z7 : (0 : Int) ≤ (pi : Int) := by omega
                    have z8 : (pi : Int) < 8 := by omega
                    have z9 : (0 : Int) ≤ (pj : Int) := by omega
                    have z10 : (pj : Int) < 8 := by omega
                    have z11 : (0 : Int) ≤ (pk : Int) := by omega
                    have z12 : (pk : Int) < 8 := by omega
                    clear hpi hpj hpk hpij hpik hpjk hm1 hm2 hm3 hr1 hr2 hr3 g1 g2 g3 g4 g5 g6 d1 d2 d3 hlt l1 l2 l3 l4 l5 l6 HK HC HBD HN
                    go_wp2_with fail
                    refine (HPI.out _).mono ?_
                    rintro e w5 ⟨rfl, rfl⟩
                    go_wp2_with fail
                    refine (HPJ.out _).mono ?_
                    rintro e w5 ⟨rfl, rfl⟩
                    go_wp2_with fail
                    refine (HPK.out _).mono ?_
                    rintro e w5 ⟨rfl, rfl⟩
                    clear HPI HPJ HPK
                    go_wp2_with fail
                    go_loopw [9] (fun iv wr => ∃ s m : Nat, s ≤ 8 ∧ iv = .int .i64 (s : Int) ∧ wr = w2.drewN m ∧ (s = 0 ∨ ¬ max (m2 + r2) (m3 + r1) < m1 + r3)) (fun iv _ => 8 - (intOf iv).toNat)
                    case atStart => exact ⟨0, n, by omega, rfl, rfl, .inl rfl⟩
                    case round =>
                      obtain ⟨s, m, hs, rfl, rfl, hok⟩ := hrel
                      by_cases hlt : s < 8
                      · have hs1 : s + 1 ≤ 8 := hlt
                        have hs8 : (s : Int) < 8 := by omega
                        have ha := and7 hlt
                        clear hlt
                        rcases Nat.eq_zero_or_pos s with rfl | hp
                        · have ha0 : bits .and .i64 0 7 = 0 := ha
                          clear ha hok
                          by_cases hm : m2 + r2 < m3 + r1
                          · by_cases hh : m3 + r1 < m1 + r3
                            · have HE := HNE (by omega)
                              clear HNE HYE
                              go_wp2_with fail
                              go_quiet (fail)
                              go_wp2
                              go_ret
                              exact ⟨by rw [HE.out]; rfl, below_drewN' (below_drewN' BM m) nq⟩
                            · have HE : ¬ max (m2 + r2) (m3 + r1) < m1 + r3 := by omega
                              have HE := Lib.hid HE
                              clear HNE HYE
                              go_wp2_with fail
                              go_quiet (fail)
                              go_wp2
                              go_roundw
                              case rel => exact ⟨1, _, by omega, by go_num, rfl, .inr (by have := HE.out; omega)⟩
                              case measure => simp [intOf]
                          · by_cases hh : m2 + r2 < m1 + r3
                            · have HE := HNE (by omega)
                              clear HNE HYE
                              go_wp2_with fail
                              go_quiet (fail)
                              go_wp2
                              go_ret
                              exact ⟨by rw [HE.out]; rfl, below_drewN' (below_drewN' BM m) nq⟩
                            · have HE : ¬ max (m2 + r2) (m3 + r1) < m1 + r3 := by omega
                              have HE := Lib.hid HE
                              clear HNE HYE
                              go_wp2_with fail
                              go_quiet (fail)
                              go_wp2
                              go_roundw
                              case rel => exact ⟨1, _, by omega, by go_num, rfl, .inr (by have := HE.out; omega)⟩
                              case measure => simp [intOf]
                        · have hnz : ¬ (s : Int) = 0 := by omega
                          have HOK : Hid (¬ max (m2 + r2) (m3 + r1) < m1 + r3) := Lib.hid (by omega)
                          clear hok
                          go_wp2
                          go_roundw
                          case rel => exact ⟨s + 1, _, hs1, by go_num, rfl, .inr (by have := HOK.out; omega)⟩
                          case measure => simp [intOf]; omega
                      · obtain rfl : s = 8 := by omega
                        have HU := HYE (by omega)
                        clear hok HNE HYE
                        go_wp2
                        go_roundw
                        case rel => exact ⟨k + 1, _, hk1, by go_num, rfl, HU⟩
                        case measure => simp [intOf]; omega
                  · have HU := Lib.hid (HK.out.next (fun h1 h2 h3 => absurd ⟨h1, h2, h3⟩ hd))
                    have q : ((i : Int) == (j : Int)) = true ∨ (((i : Int) == (j : Int)) = false ∧ ((i : Int) == (k : Int)) = true) ∨ (((i : Int) == (j : Int)) = false ∧ ((i : Int) == (k : Int)) = false ∧ ((j : Int) == (k : Int)) = true) := by
                      simp; omega
                    clear hd hlt HK
                    rcases q with q1 | ⟨q1, q2⟩ | ⟨q1, q2, q3⟩
                    · go_wp2
                      go_roundw
                      case rel => exact ⟨k + 1, _, hk1, by go_num, rfl, HU⟩
                      case measure => simp [intOf]; omega
                    · go_wp2
                      go_roundw
                      case rel => exact ⟨k + 1, _, hk1, by go_num, rfl, HU⟩
                      case measure => simp [intOf]; omega
                    · go_wp2
                      go_roundw
                      case rel => exact ⟨k + 1, _, hk1, by go_num, rfl, HU⟩
                      case measure => simp [intOf]; omega
                · obtain rfl : k = 3 := by omega
                  have HU := Lib.hid (HJ.out.next HK.out)
                  go_wp2
                  go_roundw
                  case rel => exact ⟨j + 1, _, hj1, by go_num, rfl, HU⟩
                  case measure => simp [intOf]; omega
            · obtain rfl : j = 3 := by omega
              have HU := Lib.hid (HI.out.next HJ.out)
              go_wp2
              go_roundw
              case rel => exact ⟨i + 1, _, hi1, by go_num, rfl, HU⟩
              case measure => simp [intOf]; omega
        · obtain rfl : i = 3 := by omega
          have HE := Lib.hid (HY.out HI.out)
          go_wp2
          go_ret
          exact ⟨by rw [HE.out]; rfl, below_drewN' BM n⟩
    · rw [mdB_false (fun h => hm h.2)] at HM
      have HE := Lib.hid (thB_false (t := t) (fun h => hm h.2.1))
      rw [h8] at HV HM ⊢
      clear hv hm
      go_enter Try.func32, Try.ntmps32
      go_wp2_with (first | (go_at_call 71; refine HV.out.mono ?_; rintro e w1 ⟨rfl, n1, rfl⟩) | (go_at_call 87; refine (HM.out _ (h.drewN n1)).mono ?_; rintro e w2 ⟨rfl, b2⟩))
      go_ret
      exact ⟨by rw [HE.out]; rfl, below_then (below_drewN' (Below.refl _ w) n1) b2⟩
  · rw [vt_false hv] at HV
    have HE := Lib.hid (thB_false (t := t) (fun h => hv h.1))
    clear hv
    go_enter Try.func32, Try.ntmps32
    go_wp2_with (go_at_call 71; refine HV.out.mono ?_; rintro e w1 ⟨rfl, n, rfl⟩)
    go_ret
    exact ⟨by rw [HE.out]; rfl, below_drewN' (Below.refl _ _) n⟩

end Go.Proofs.Ytfjncipekjnbjaa
