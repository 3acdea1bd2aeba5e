/-
  Chapter 6: three things exchanged, by the model.
-/
import Derived.Test.YtfjncipekjnbjaaJd
import Derived.Test.YtfjncipekjnbjaaWh
import Derived.Test.YtfjncipekjnbjaaJj
namespace Go.Proofs.Ytfjncipekjnbjaa
open Go.RowKit

/-- The three things i, j and k may be exchanged. -/
def TriQ (t : List Int) (i j k : Nat) : Prop := i ≠ j → i ≠ k → j ≠ k → T t (2 ^ i + 2 ^ j) + T t (2 ^ k) ≤ max (T t (2 ^ i + 2 ^ k) + T t (2 ^ j)) (T t (2 ^ j + 2 ^ k) + T t (2 ^ i))
def TriK (t : List Int) (i j n : Nat) : Prop := ∀ k, k < n → TriQ t i j k
def TriJ (t : List Int) (i n : Nat) : Prop := ∀ j, j < n → TriK t i j 3
def TriI (t : List Int) (n : Nat) : Prop := ∀ i, i < n → TriJ t i 3
theorem TriK.zero (t : List Int) (i j : Nat) : TriK t i j 0 := fun i h => absurd h (by omega)
theorem TriJ.zero (t : List Int) (i : Nat) : TriJ t i 0 := fun i h => absurd h (by omega)
theorem TriI.zero (t : List Int) : TriI t 0 := fun i h => absurd h (by omega)
theorem TriK.next {t : List Int} {i j n : Nat} (h : TriK t i j n) (hk : TriQ t i j n) : TriK t i j (n + 1) := fun k hk1 => by
  rcases Nat.lt_or_ge k n with h1 | h1
  · exact h k h1
  · rw [show k = n by omega]; exact hk
theorem TriJ.next {t : List Int} {i n : Nat} (h : TriJ t i n) (hk : TriK t i n 3) : TriJ t i (n + 1) := fun k hk1 => by
  rcases Nat.lt_or_ge k n with h1 | h1
  · exact h k h1
  · rw [show k = n by omega]; exact hk
theorem TriI.next {t : List Int} {n : Nat} (h : TriI t n) (hk : TriJ t n 3) : TriI t (n + 1) := fun k hk1 => by
  rcases Nat.lt_or_ge k n with h1 | h1
  · exact h k h1
  · rw [show k = n by omega]; exact hk
theorem TriI.tri {t : List Int} (h : TriI t 3) : Tri t := fun i hi j hj k hk h1 h2 h3 => h i hi j hj k hk h1 h2 h3
theorem Tri.no {t : List Int} {i j k : Nat} (hi : i < 3) (hj : j < 3) (hk : k < 3) (h1 : i ≠ j) (h2 : i ≠ k) (h3 : j ≠ k) (hn : ¬ T t (2 ^ i + 2 ^ j) + T t (2 ^ k) ≤ max (T t (2 ^ i + 2 ^ k) + T t (2 ^ j)) (T t (2 ^ j + 2 ^ k) + T t (2 ^ i))) : ¬ Tri t := fun h => hn (h i hi j hj k hk h1 h2 h3)
/-- Three different things, as sets. -/
theorem three_fit {i j k : Nat} (hi : i < 3) (hj : j < 3) (hk : k < 3) (h1 : i ≠ j) (h2 : i ≠ k) (h3 : j ≠ k) :
    bits .or .i64 ((2 ^ i : Nat) : Int) ((2 ^ j : Nat) : Int) = ((2 ^ i + 2 ^ j : Nat) : Int) ∧ bits .or .i64 ((2 ^ i : Nat) : Int) ((2 ^ k : Nat) : Int) = ((2 ^ i + 2 ^ k : Nat) : Int) ∧ bits .or .i64 ((2 ^ j : Nat) : Int) ((2 ^ k : Nat) : Int) = ((2 ^ j + 2 ^ k : Nat) : Int) ∧
    bits .or .i64 ((2 ^ i + 2 ^ j : Nat) : Int) ((2 ^ k : Nat) : Int) = 7 ∧ bits .or .i64 0 ((2 ^ i : Nat) : Int) = ((2 ^ i : Nat) : Int) ∧ bits .or .i64 0 ((2 ^ j : Nat) : Int) = ((2 ^ j : Nat) : Int) ∧ bits .or .i64 0 ((2 ^ k : Nat) : Int) = ((2 ^ k : Nat) : Int) ∧
    2 ^ i + 2 ^ j < 8 ∧ 2 ^ i + 2 ^ k < 8 ∧ 2 ^ j + 2 ^ k < 8 ∧ 2 ^ i < 8 ∧ 2 ^ j < 8 ∧ 2 ^ k < 8 := by
  rcases nat3 hi with rfl | rfl | rfl <;> rcases nat3 hj with rfl | rfl | rfl <;> rcases nat3 hk with rfl | rfl | rfl <;>
    first
    | exact absurd rfl h1
    | exact absurd rfl h2
    | exact absurd rfl h3
    | decide
theorem and7 {s : Nat} (hs : s < 8) : bits .and .i64 (s : Int) 7 = (s : Int) := by
  rcases nat8 hs with rfl | rfl | rfl | rfl | rfl | rfl | rfl | rfl <;> decide

set_option maxRecDepth 100000 in
set_option maxHeartbeats 1600000 in
theorem SSwapsByThrees_any (A : Option Addr) (c : Nat) (t : List Int) (w : World) (h : Rd w A c t) (hl : t.length ≤ 1099511627776) :
    Calls Try.prog 32 #[.slice A t.length c] w fun e w' => e = .returned (.bool (thB t)) ∧ Below w.heap.size w w' := by
  have HV := Lib.hid (SvalidTable_any A c t w h hl)
  by_cases hv : VT t
  · rw [vt_true hv] at HV
    have HM := Lib.hid (fun w1 (h : Rd w1 A c t) => Smodest_any A c t w1 h hv)
    have h8 := hv.1
    by_cases hm : Mod t
    · rw [mdB_true hv hm] at HM
      have HY := Lib.hid (fun (h3 : TriI t 3) => thB_true hv hm h3.tri)
      have HN := Lib.hid (fun (hn : ¬ Tri t) => thB_false (t := t) (fun h => hn h.2.2))
      have HBD := Lib.hid (fun s (hs : s < 8) => hv.bd hs)
      rw [h8] at HV HM ⊢
      clear hv hm
      go_enter Try.func32, Try.ntmps32
      go_wp2_with (first | (go_at_call 71; refine HV.out.mono ?_; rintro e w1 ⟨rfl, n1, rfl⟩) | (go_at_call 87; refine (HM.out _ (h.drewN n1)).mono ?_; rintro e w2 ⟨rfl, b2⟩))
      have BM := below_then (below_drewN' (Below.refl _ w) n1) b2
      have h2 := h.below BM
      have HC := Lib.hid (fun (k : Nat) (hk : k < 8) => h2.at_ (k := k) (by omega))
      clear HV HM b2
      go_loopw [3] (fun iv wr => ∃ k n : Nat, k ≤ 3 ∧ iv = .int .i64 (k : Int) ∧ wr = w2.drewN n ∧ Hid (TriI t k)) (fun iv _ => 3 - (intOf iv).toNat)
      case atStart => exact ⟨0, 0, by omega, rfl, rfl, Lib.hid (TriI.zero t)⟩
      case round =>
        obtain ⟨i, n, hi, rfl, rfl, HI⟩ := hrel
        by_cases hlt : i < 3
        · have hi3 : (i : Int) < 3 := by omega
          have hi1 : i + 1 ≤ 3 := hlt
          have HLI := Lib.hid hlt
          clear hlt
          go_wp2
          go_loopw [4] (fun iv wr => ∃ k n : Nat, k ≤ 3 ∧ iv = .int .i64 (k : Int) ∧ wr = w2.drewN n ∧ Hid (TriJ t i k)) (fun iv _ => 3 - (intOf iv).toNat)
          case atStart => exact ⟨0, n, by omega, rfl, rfl, Lib.hid (TriJ.zero t i)⟩
          case round =>
            obtain ⟨j, n, hj, rfl, rfl, HJ⟩ := hrel
            by_cases hlt : j < 3
            · have hj3 : (j : Int) < 3 := by omega
              have hj1 : j + 1 ≤ 3 := hlt
              have HLJ := Lib.hid hlt
              clear hlt
              go_wp2
              go_loopw [5] (fun iv wr => ∃ k n : Nat, k ≤ 3 ∧ iv = .int .i64 (k : Int) ∧ wr = w2.drewN n ∧ Hid (TriK t i j k)) (fun iv _ => 3 - (intOf iv).toNat)
              case atStart => exact ⟨0, n, by omega, rfl, rfl, Lib.hid (TriK.zero t i j)⟩
              case round =>
                obtain ⟨k, n, hk, rfl, rfl, HK⟩ := hrel
                by_cases hlt : k < 3
                · have hk3 : (k : Int) < 3 := by omega
                  have hk1 : k + 1 ≤ 3 := hlt
                  by_cases hd : i ≠ j ∧ i ≠ k ∧ j ≠ k
                  · have q1 : ((i : Int) == (j : Int)) = false := by simp; omega
                    have q2 : ((i : Int) == (k : Int)) = false := by simp; omega
                    have q3 : ((j : Int) == (k : Int)) = false := by simp; omega
                    have HPI := Lib.hid (fun w1 => Spower_any i (by have := HLI.out; omega) w1)
                    have HPJ := Lib.hid (fun w1 => Spower_any j (by have := HLJ.out; omega) w1)
                    have HPK := Lib.hid (fun w1 => Spower_any k (by omega) w1)
                    obtain ⟨d1, d2, d3⟩ := hd
                    obtain ⟨o1, o2, o3, o4, o5, o6, o7, l1, l2, l3, l4, l5, l6⟩ := three_fit HLI.out HLJ.out hlt d1 d2 d3
                    obtain ⟨b, off, m1, rfl, _, hm1, hc1⟩ := HC.out (2 ^ i + 2 ^ j) l1
                    obtain ⟨_, _, m2, hA, _, hm2, hc2⟩ := HC.out (2 ^ i + 2 ^ k) l2
                    cases hA
                    obtain ⟨_, _, m3, hA, _, hm3, hc3⟩ := HC.out (2 ^ j + 2 ^ k) l3
                    cases hA
                    obtain ⟨_, _, r1, hA, _, hr1, hc4⟩ := HC.out (2 ^ i) l4
                    cases hA
                    obtain ⟨_, _, r2, hA, _, hr2, hc5⟩ := HC.out (2 ^ j) l5
                    cases hA
                    obtain ⟨_, _, r3, hA, _, hr3, hc6⟩ := HC.out (2 ^ k) l6
                    cases hA
                    have g1 := HBD.out _ l1; have g2 := HBD.out _ l2; have g3 := HBD.out _ l3; have g4 := HBD.out _ l4; have g5 := HBD.out _ l5; have g6 := HBD.out _ l6
                    rw [T_of hm1.out] at g1; rw [T_of hm2.out] at g2; rw [T_of hm3.out] at g3; rw [T_of hr1.out] at g4; rw [T_of hr2.out] at g5; rw [T_of hr3.out] at g6
                    have HNE : max (m2 + r2) (m3 + r1) < m1 + r3 → Hid (thB t = false) := fun hh => Lib.hid (HN.out (Tri.no HLI.out HLJ.out hlt d1 d2 d3 (by rw [T_of hm1.out, T_of hm2.out, T_of hm3.out, T_of hr1.out, T_of hr2.out, T_of hr3.out]; omega)))
                    have HYE : ¬ max (m2 + r2) (m3 + r1) < m1 + r3 → Hid (TriK t i j (k + 1)) := fun hh => Lib.hid (HK.out.next (fun _ _ _ => by rw [T_of hm1.out, T_of hm2.out, T_of hm3.out, T_of hr1.out, T_of hr2.out, T_of hr3.out]; omega))
                    have e1 : IntKind.i64.wrap (m1 + r3) = m1 + r3 := IntWalk.i64_in _ (by omega)
                    have e2 : IntKind.i64.wrap (m2 + r2) = m2 + r2 := IntWalk.i64_in _ (by omega)
                    have e3 : IntKind.i64.wrap (m3 + r1) = m3 + r1 := IntWalk.i64_in _ (by omega)
                    obtain ⟨pi, hpi⟩ : ∃ p, p = 2 ^ i := ⟨_, rfl⟩
                    obtain ⟨pj, hpj⟩ : ∃ p, p = 2 ^ j := ⟨_, rfl⟩
                    obtain ⟨pk, hpk⟩ : ∃ p, p = 2 ^ k := ⟨_, rfl⟩
                    rw [← hpi] at HPI o1 o2 o4 o5 hc1 hc2 hc4 l1 l2 l4
                    rw [← hpj] at HPJ o1 o3 o4 o6 hc1 hc3 hc5 l1 l3 l5
                    rw [← hpk] at HPK o2 o3 o4 o7 hc2 hc3 hc6 l2 l3 l6
                    obtain ⟨pij, hpij⟩ : ∃ p, p = pi + pj := ⟨_, rfl⟩
                    obtain ⟨pik, hpik⟩ : ∃ p, p = pi + pk := ⟨_, rfl⟩
                    obtain ⟨pjk, hpjk⟩ : ∃ p, p = pj + pk := ⟨_, rfl⟩
                    rw [← hpij] at o1 o4 hc1 l1
                    rw [← hpik] at o2 hc2 l2
                    rw [← hpjk] at o3 hc3 l3
                    have z1 : (0 : Int) ≤ (pij : Int) := by omega
                    have z2 : (pij : Int) < 8 := by omega
                    have z3 : (0 : Int) ≤ (pik : Int) := by omega
                    have z4 : (pik : Int) < 8 := by omega
                    have z5 : (0 : Int) ≤ (pjk : Int) := by omega
                    have z6 : (pjk : Int) < 8 := by omega
                    have z7 : (0 : Int) ≤ (pi : Int) := by omega
                    have z8 : (pi : Int) < 8 := by omega
                    have z9 : (0 : Int) ≤ (pj : Int) := by omega
                    have z10 : (pj : Int) < 8 := by omega
                    have z11 : (0 : Int) ≤ (pk : Int) := by omega
                    have z12 : (pk : Int) < 8 := by omega
                    clear hpi hpj hpk hpij hpik hpjk hm1 hm2 hm3 hr1 hr2 hr3 g1 g2 g3 g4 g5 g6 d1 d2 d3 hlt l1 l2 l3 l4 l5 l6 HK HC HBD HN
                    go_wp2_with fail
                    refine (HPI.out _).mono ?_
                    rintro e w5 ⟨rfl, rfl⟩
                    go_wp2_with fail
                    refine (HPJ.out _).mono ?_
                    rintro e w5 ⟨rfl, rfl⟩
                    go_wp2_with fail
                    refine (HPK.out _).mono ?_
                    rintro e w5 ⟨rfl, rfl⟩
                    clear HPI HPJ HPK
                    go_wp2_with fail
                    go_loopw [9] (fun iv wr => ∃ s m : Nat, s ≤ 8 ∧ iv = .int .i64 (s : Int) ∧ wr = w2.drewN m ∧ (s = 0 ∨ ¬ max (m2 + r2) (m3 + r1) < m1 + r3)) (fun iv _ => 8 - (intOf iv).toNat)
                    case atStart => exact ⟨0, n, by omega, rfl, rfl, .inl rfl⟩
                    case round =>
                      obtain ⟨s, m, hs, rfl, rfl, hok⟩ := hrel
                      by_cases hlt : s < 8
                      · have hs1 : s + 1 ≤ 8 := hlt
                        have hs8 : (s : Int) < 8 := by omega
                        have ha := and7 hlt
                        clear hlt
                        rcases Nat.eq_zero_or_pos s with rfl | hp
                        · have ha0 : bits .and .i64 0 7 = 0 := ha
                          clear ha hok
                          by_cases hm : m2 + r2 < m3 + r1
                          · by_cases hh : m3 + r1 < m1 + r3
                            · have HE := HNE (by omega)
                              clear HNE HYE
                              go_wp2_with fail
                              go_quiet (fail)
                              go_wp2
                              go_ret
                              exact ⟨by rw [HE.out]; rfl, below_drewN' (below_drewN' BM m) nq⟩
                            · have HE : ¬ max (m2 + r2) (m3 + r1) < m1 + r3 := by omega
                              have HE := Lib.hid HE
                              clear HNE HYE
                              go_wp2_with fail
                              go_quiet (fail)
                              go_wp2
                              go_roundw
                              case rel => exact ⟨1, _, by omega, by go_num, rfl, .inr (by have := HE.out; omega)⟩
                              case measure => simp [intOf]
                          · by_cases hh : m2 + r2 < m1 + r3
                            · have HE := HNE (by omega)
                              clear HNE HYE
                              go_wp2_with fail
                              go_quiet (fail)
                              go_wp2
                              go_ret
                              exact ⟨by rw [HE.out]; rfl, below_drewN' (below_drewN' BM m) nq⟩
                            · have HE : ¬ max (m2 + r2) (m3 + r1) < m1 + r3 := by omega
                              have HE := Lib.hid HE
                              clear HNE HYE
                              go_wp2_with fail
                              go_quiet (fail)
                              go_wp2
                              go_roundw
                              case rel => exact ⟨1, _, by omega, by go_num, rfl, .inr (by have := HE.out; omega)⟩
                              case measure => simp [intOf]
                        · have hnz : ¬ (s : Int) = 0 := by omega
                          have HOK : Hid (¬ max (m2 + r2) (m3 + r1) < m1 + r3) := Lib.hid (by omega)
                          clear hok
                          go_wp2
                          go_roundw
                          case rel => exact ⟨s + 1, _, hs1, by go_num, rfl, .inr (by have := HOK.out; omega)⟩
                          case measure => simp [intOf]; omega
                      · obtain rfl : s = 8 := by omega
                        have HU := HYE (by omega)
                        clear hok HNE HYE
                        go_wp2
                        go_roundw
                        case rel => exact ⟨k + 1, _, hk1, by go_num, rfl, HU⟩
                        case measure => simp [intOf]; omega
                  · have HU := Lib.hid (HK.out.next (fun h1 h2 h3 => absurd ⟨h1, h2, h3⟩ hd))
                    have q : ((i : Int) == (j : Int)) = true ∨ (((i : Int) == (j : Int)) = false ∧ ((i : Int) == (k : Int)) = true) ∨ (((i : Int) == (j : Int)) = false ∧ ((i : Int) == (k : Int)) = false ∧ ((j : Int) == (k : Int)) = true) := by
                      simp; omega
                    clear hd hlt HK
                    rcases q with q1 | ⟨q1, q2⟩ | ⟨q1, q2, q3⟩
                    · go_wp2
                      go_roundw
                      case rel => exact ⟨k + 1, _, hk1, by go_num, rfl, HU⟩
                      case measure => simp [intOf]; omega
                    · go_wp2
                      go_roundw
                      case rel => exact ⟨k + 1, _, hk1, by go_num, rfl, HU⟩
                      case measure => simp [intOf]; omega
                    · go_wp2
                      go_roundw
                      case rel => exact ⟨k + 1, _, hk1, by go_num, rfl, HU⟩
                      case measure => simp [intOf]; omega
                · obtain rfl : k = 3 := by omega
                  have HU := Lib.hid (HJ.out.next HK.out)
                  go_wp2
                  go_roundw
                  case rel => exact ⟨j + 1, _, hj1, by go_num, rfl, HU⟩
                  case measure => simp [intOf]; omega
            · obtain rfl : j = 3 := by omega
              have HU := Lib.hid (HI.out.next HJ.out)
              go_wp2
              go_roundw
              case rel => exact ⟨i + 1, _, hi1, by go_num, rfl, HU⟩
              case measure => simp [intOf]; omega
        · obtain rfl : i = 3 := by omega
          have HE := Lib.hid (HY.out HI.out)
          go_wp2
          go_ret
          exact ⟨by rw [HE.out]; rfl, below_drewN' BM n⟩
    · rw [mdB_false (fun h => hm h.2)] at HM
      have HE := Lib.hid (thB_false (t := t) (fun h => hm h.2.1))
      rw [h8] at HV HM ⊢
      clear hv hm
      go_enter Try.func32, Try.ntmps32
      go_wp2_with (first | (go_at_call 71; refine HV.out.mono ?_; rintro e w1 ⟨rfl, n1, rfl⟩) | (go_at_call 87; refine (HM.out _ (h.drewN n1)).mono ?_; rintro e w2 ⟨rfl, b2⟩))
      go_ret
      exact ⟨by rw [HE.out]; rfl, below_then (below_drewN' (Below.refl _ w) n1) b2⟩
  · rw [vt_false hv] at HV
    have HE := Lib.hid (thB_false (t := t) (fun h => hv h.1))
    clear hv
    go_enter Try.func32, Try.ntmps32
    go_wp2_with (go_at_call 71; refine HV.out.mono ?_; rintro e w1 ⟨rfl, n, rfl⟩)
    go_ret
    exact ⟨by rw [HE.out]; rfl, below_drewN' (Below.refl _ _) n⟩

end Go.Proofs.Ytfjncipekjnbjaa

/-
  Chapter 6: three things exchanged, by the program: swapsThird.
-/
namespace Go.Proofs.Ytfjncipekjnbjaa
open Go.RowKit

noncomputable def tqB (t : List Int) (i j k : Nat) : Bool := @decide (T t (2 ^ i + 2 ^ j) + T t (2 ^ k) ≤ max (T t (2 ^ i + 2 ^ k) + T t (2 ^ j)) (T t (2 ^ j + 2 ^ k) + T t (2 ^ i))) (Classical.propDecidable _)
theorem tqB_true {t : List Int} {i j k : Nat} (h : T t (2 ^ i + 2 ^ j) + T t (2 ^ k) ≤ max (T t (2 ^ i + 2 ^ k) + T t (2 ^ j)) (T t (2 ^ j + 2 ^ k) + T t (2 ^ i))) : tqB t i j k = true := by unfold tqB; simp only [decide_eq_true_eq]; exact h
theorem tqB_false {t : List Int} {i j k : Nat} (h : ¬ T t (2 ^ i + 2 ^ j) + T t (2 ^ k) ≤ max (T t (2 ^ i + 2 ^ k) + T t (2 ^ j)) (T t (2 ^ j + 2 ^ k) + T t (2 ^ i))) : tqB t i j k = false := by unfold tqB; simp only [decide_eq_false_iff_not]; exact h
theorem tqB_iff {t : List Int} {i j k : Nat} : tqB t i j k = true ↔ T t (2 ^ i + 2 ^ j) + T t (2 ^ k) ≤ max (T t (2 ^ i + 2 ^ k) + T t (2 ^ j)) (T t (2 ^ j + 2 ^ k) + T t (2 ^ i)) := by unfold tqB; simp only [decide_eq_true_eq]
theorem or_back {i j : Nat} (hi : i < 3) (hj : j < 3) : bits .or .i64 ((2 ^ i : Nat) : Int) ((2 ^ j : Nat) : Int) = bits .or .i64 ((2 ^ j : Nat) : Int) ((2 ^ i : Nat) : Int) := by
  rcases nat3 hi with rfl | rfl | rfl <;> rcases nat3 hj with rfl | rfl | rfl <;> decide

set_option maxRecDepth 100000 in
set_option maxHeartbeats 1600000 in
theorem swapsThird_any (t : List Int) (i j k : Nat) (w : World) (hv : VT t) (hi : i < 3) (hj : j < 3) (hk : k < 3) (d1 : i ≠ j) (d2 : i ≠ k) (d3 : j ≠ k) :
    Calls Try.prog 86 #[ag8 (T t), .int .i64 ((2 ^ i : Nat) : Int), .int .i64 ((2 ^ j : Nat) : Int), .int .i64 ((2 ^ k : Nat) : Int)] w fun e w' => e = .returned (.bool (tqB t i j k)) ∧ Below w.heap.size w w' := by
  obtain ⟨o1, o2, o3, o4, o5, o6, o7, l1, l2, l3, l4, l5, l6⟩ := three_fit hi hj hk d1 d2 d3
  have o8 := or_back hk hj
  have hA : Arr (w.alloc (.cells #[.int .i64 (T t 0), .int .i64 (T t 1), .int .i64 (T t 2), .int .i64 (T t 3), .int .i64 (T t 4), .int .i64 (T t 5), .int .i64 (T t 6), .int .i64 (T t 7)] 65)) w.heap.size (lit8 (T t)) := Arr.new w (lit8 (T t)) rfl
  have BM : Below w.heap.size w (w.alloc (.cells #[.int .i64 (T t 0), .int .i64 (T t 1), .int .i64 (T t 2), .int .i64 (T t 3), .int .i64 (T t 4), .int .i64 (T t 5), .int .i64 (T t 6), .int .i64 (T t 7)] 65)) := (Below.refl _ w).alloc (Nat.le_refl _) _
  have hc1 := hA.cell l1; have hc2 := hA.cell l2; have hc3 := hA.cell l3; have hc4 := hA.cell l4; have hc5 := hA.cell l5; have hc6 := hA.cell l6
  rw [lit8_at _ l1] at hc1; rw [lit8_at _ l2] at hc2; rw [lit8_at _ l3] at hc3; rw [lit8_at _ l4] at hc4; rw [lit8_at _ l5] at hc5; rw [lit8_at _ l6] at hc6
  have g1 := hv.bd l1; have g2 := hv.bd l2; have g3 := hv.bd l3; have g4 := hv.bd l4; have g5 := hv.bd l5; have g6 := hv.bd l6
  have HYE := fun h => tqB_true (t := t) (i := i) (j := j) (k := k) h
  have HNE := fun h => tqB_false (t := t) (i := i) (j := j) (k := k) h
  obtain ⟨M, hM⟩ : ∃ M, M = tqB t i j k := ⟨_, rfl⟩
  rw [← hM] at HYE HNE ⊢
  obtain ⟨m1, hm1⟩ : ∃ m, m = T t (2 ^ i + 2 ^ j) := ⟨_, rfl⟩
  obtain ⟨m2, hm2⟩ : ∃ m, m = T t (2 ^ i + 2 ^ k) := ⟨_, rfl⟩
  obtain ⟨m3, hm3⟩ : ∃ m, m = T t (2 ^ j + 2 ^ k) := ⟨_, rfl⟩
  obtain ⟨r1, hr1⟩ : ∃ m, m = T t (2 ^ i) := ⟨_, rfl⟩
  obtain ⟨r2, hr2⟩ : ∃ m, m = T t (2 ^ j) := ⟨_, rfl⟩
  obtain ⟨r3, hr3⟩ : ∃ m, m = T t (2 ^ k) := ⟨_, rfl⟩
  rw [← hm1] at hc1 g1 HYE HNE; rw [← hm2] at hc2 g2 HYE HNE; rw [← hm3] at hc3 g3 HYE HNE; rw [← hr1] at hc4 g4 HYE HNE; rw [← hr2] at hc5 g5 HYE HNE; rw [← hr3] at hc6 g6 HYE HNE
  have HY := Lib.hid HYE
  have HN := Lib.hid HNE
  have e1 : IntKind.i64.wrap (m1 + r3) = m1 + r3 := IntWalk.i64_in _ (by omega)
  have e2 : IntKind.i64.wrap (m2 + r2) = m2 + r2 := IntWalk.i64_in _ (by omega)
  have e3 : IntKind.i64.wrap (m3 + r1) = m3 + r1 := IntWalk.i64_in _ (by omega)
  obtain ⟨pi, hpi⟩ : ∃ p, p = 2 ^ i := ⟨_, rfl⟩
  obtain ⟨pj, hpj⟩ : ∃ p, p = 2 ^ j := ⟨_, rfl⟩
  obtain ⟨pk, hpk⟩ : ∃ p, p = 2 ^ k := ⟨_, rfl⟩
  rw [← hpi] at o1 o2 o4 o5 hc1 hc2 hc4 l1 l2 l4 ⊢
  rw [← hpj] at o1 o3 o4 o6 o8 hc1 hc3 hc5 l1 l3 l5 ⊢
  rw [← hpk] at o2 o3 o4 o7 o8 hc2 hc3 hc6 l2 l3 l6 ⊢
  obtain ⟨pij, hpij⟩ : ∃ p, p = pi + pj := ⟨_, rfl⟩
  obtain ⟨pik, hpik⟩ : ∃ p, p = pi + pk := ⟨_, rfl⟩
  obtain ⟨pjk, hpjk⟩ : ∃ p, p = pj + pk := ⟨_, rfl⟩
  rw [← hpij] at o1 o4 hc1 l1
  rw [← hpik] at o2 hc2 l2
  rw [← hpjk] at o3 hc3 l3
  rw [o3] at o8
  have z1 : (0 : Int) ≤ (pij : Int) := by omega
  have z2 : (pij : Int) < 8 := by omega
  have z3 : (0 : Int) ≤ (pik : Int) := by omega
  have z4 : (pik : Int) < 8 := by omega
  have z5 : (0 : Int) ≤ (pjk : Int) := by omega
  have z6 : (pjk : Int) < 8 := by omega
  have z7 : (0 : Int) ≤ (pi : Int) := by omega
  have z8 : (pi : Int) < 8 := by omega
  have z9 : (0 : Int) ≤ (pj : Int) := by omega
  have z10 : (pj : Int) < 8 := by omega
  have z11 : (0 : Int) ≤ (pk : Int) := by omega
  have z12 : (pk : Int) < 8 := by omega
  clear hM hm1 hm2 hm3 hr1 hr2 hr3 hpi hpj hpk hpij hpik hpjk g1 g2 g3 g4 g5 g6 d1 d2 d3 l1 l2 l3 l4 l5 l6 HYE HNE hA hv hi hj hk
  obtain ⟨wT, hwT⟩ : ∃ wT, wT = w.alloc (.cells #[.int .i64 (T t 0), .int .i64 (T t 1), .int .i64 (T t 2), .int .i64 (T t 3), .int .i64 (T t 4), .int .i64 (T t 5), .int .i64 (T t 6), .int .i64 (T t 7)] 65) := ⟨_, rfl⟩
  have HWT := Lib.hid hwT
  rw [← hwT] at hc1 hc2 hc3 hc4 hc5 hc6 BM
  clear hwT
  unfold ag8
  go_enter Try.func86, Try.ntmps86
  go_wp2
  rw [← HWT.out]
  go_loopw [13] (fun iv wr => ∃ s m : Nat, s ≤ 8 ∧ iv = .int .i64 (s : Int) ∧ wr = wT.drewN m ∧ (s = 0 ∨ ¬ max (m2 + r2) (m3 + r1) < m1 + r3)) (fun iv _ => 8 - (intOf iv).toNat)
  case atStart => exact ⟨0, 0, by omega, rfl, rfl, .inl rfl⟩
  case round =>
    obtain ⟨s, m, hs, rfl, rfl, hok⟩ := hrel
    by_cases hlt : s < 8
    · have hs1 : s + 1 ≤ 8 := hlt
      have hs8 : (s : Int) < 8 := by omega
      have ha := and7 hlt
      clear hlt
      rcases Nat.eq_zero_or_pos s with rfl | hp
      · have ha0 : bits .and .i64 0 7 = 0 := ha
        clear ha hok
        by_cases hm : m3 + r1 < m2 + r2
        · by_cases hh : m2 + r2 < m1 + r3
          · have HE := Lib.hid (HN.out (by omega))
            clear HY HN
            go_wp2_with fail
            go_quiet (fail)
            go_wp2_with fail
            go_quiet (fail)
            go_wp2_with fail
            go_quiet (fail)
            go_wp2
            go_ret
            exact ⟨by rw [HE.out]; rfl, by repeat (first | exact BM | refine below_drewN' ?_ _)⟩
          · have HE0 : ¬ max (m2 + r2) (m3 + r1) < m1 + r3 := by omega
            have HE := Lib.hid HE0
            clear HY HN HE0
            go_wp2_with fail
            go_quiet (fail)
            go_wp2_with fail
            go_quiet (fail)
            go_wp2_with fail
            go_quiet (fail)
            go_wp2
            go_roundw
            case rel => exact ⟨1, _, by omega, by go_num, rfl, .inr (by have := HE.out; omega)⟩
            case measure => simp [intOf]
        · by_cases hh : m3 + r1 < m1 + r3
          · have HE := Lib.hid (HN.out (by omega))
            clear HY HN
            go_wp2_with fail
            go_quiet (fail)
            go_wp2_with fail
            go_quiet (fail)
            go_wp2_with fail
            go_quiet (fail)
            go_wp2
            go_ret
            exact ⟨by rw [HE.out]; rfl, by repeat (first | exact BM | refine below_drewN' ?_ _)⟩
          · have HE0 : ¬ max (m2 + r2) (m3 + r1) < m1 + r3 := by omega
            have HE := Lib.hid HE0
            clear HY HN HE0
            go_wp2_with fail
            go_quiet (fail)
            go_wp2_with fail
            go_quiet (fail)
            go_wp2_with fail
            go_quiet (fail)
            go_wp2
            go_roundw
            case rel => exact ⟨1, _, by omega, by go_num, rfl, .inr (by have := HE.out; omega)⟩
            case measure => simp [intOf]
      · have hnz : ¬ (s : Int) = 0 := by omega
        have HOK : Hid (¬ max (m2 + r2) (m3 + r1) < m1 + r3) := Lib.hid (by omega)
        clear hok
        go_wp2
        go_roundw
        case rel => exact ⟨s + 1, _, hs1, by go_num, rfl, .inr (by have := HOK.out; omega)⟩
        case measure => simp [intOf]; omega
    · obtain rfl : s = 8 := by omega
      have HE := Lib.hid (HY.out (by omega))
      clear hok
      go_wp2
      go_ret
      exact ⟨by rw [HE.out]; rfl, below_drewN' BM m⟩

end Go.Proofs.Ytfjncipekjnbjaa

/-
  Chapter 6: three things exchanged, by the program: SwapsByThrees; both sides.
-/
namespace Go.Proofs.Ytfjncipekjnbjaa
open Go.RowKit

/-- What is exchanged holds of the first things of the three lists. -/
def ThK (t : List Int) (i j n : Nat) (L : List Int) : Prop := ∀ k : Nat, k < 3 → ((2 ^ k : Nat) : Int) ∈ L.take n → TriQ t i j k
def ThJ (t : List Int) (i n : Nat) (L : List Int) : Prop := ∀ j : Nat, j < 3 → ((2 ^ j : Nat) : Int) ∈ L.take n → ∀ k, k < 3 → TriQ t i j k
def ThI (t : List Int) (n : Nat) (L : List Int) : Prop := ∀ i : Nat, i < 3 → ((2 ^ i : Nat) : Int) ∈ L.take n → ∀ j, j < 3 → ∀ k, k < 3 → TriQ t i j k
theorem ThK.zero (t : List Int) (i j : Nat) (L : List Int) : ThK t i j 0 L := fun k _ h => absurd h (by simp)
theorem ThJ.zero (t : List Int) (i : Nat) (L : List Int) : ThJ t i 0 L := fun k _ h => absurd h (by simp)
theorem ThI.zero (t : List Int) (L : List Int) : ThI t 0 L := fun k _ h => absurd h (by simp)
theorem take_mem {L : List Int} {n k k' : Nat} (hk : k < 3) (hk' : k' < 3) (hx : L[n]? = some ((2 ^ k' : Nat) : Int)) (hm : ((2 ^ k : Nat) : Int) ∈ L.take (n + 1)) : ((2 ^ k : Nat) : Int) ∈ L.take n ∨ k = k' := by
  rw [List.take_add_one, hx] at hm
  rcases List.mem_append.1 hm with hm | hm
  · exact .inl hm
  · simp at hm
    have e : 2 ^ k = 2 ^ k' := by have : ((2 ^ k : Nat) : Int) = ((2 ^ k' : Nat) : Int) := by simpa using hm
                                  omega
    exact .inr (pow_inj3 hk hk' e)
theorem ThK.next {t : List Int} {i j n k : Nat} {L : List Int} (h : ThK t i j n L) (hk : k < 3) (hx : L[n]? = some ((2 ^ k : Nat) : Int)) (hq : TriQ t i j k) : ThK t i j (n + 1) L := fun k2 hk2 hm => by
  rcases take_mem hk2 hk hx hm with h1 | rfl
  · exact h k2 hk2 h1
  · exact hq
theorem ThJ.next {t : List Int} {i j n : Nat} {L : List Int} (h : ThJ t i n L) (hj : j < 3) (hx : L[n]? = some ((2 ^ j : Nat) : Int)) (hq : ∀ k, k < 3 → TriQ t i j k) : ThJ t i (n + 1) L := fun k2 hk2 hm => by
  rcases take_mem hk2 hj hx hm with h1 | rfl
  · exact h k2 hk2 h1
  · exact hq
theorem ThI.next {t : List Int} {i n : Nat} {L : List Int} (h : ThI t n L) (hi : i < 3) (hx : L[n]? = some ((2 ^ i : Nat) : Int)) (hq : ∀ j, j < 3 → ∀ k, k < 3 → TriQ t i j k) : ThI t (n + 1) L := fun k2 hk2 hm => by
  rcases take_mem hk2 hi hx hm with h1 | rfl
  · exact h k2 hk2 h1
  · exact hq
/-- All things but one, and but two. -/
theorem but1 {i : Nat} (hi : i < 3) : bits .andNot .i64 7 ((2 ^ i : Nat) : Int) = ((7 - 2 ^ i : Nat) : Int) ∧ 7 - 2 ^ i < 8 ∧ ∀ j, j < 3 → ((7 - 2 ^ i) / 2 ^ j % 2 = 1 ↔ j ≠ i) := by
  rcases nat3 hi with rfl | rfl | rfl <;> decide
theorem but2 {i j : Nat} (hi : i < 3) (hj : j < 3) (d : j ≠ i) : bits .andNot .i64 7 (bits .or .i64 ((2 ^ i : Nat) : Int) ((2 ^ j : Nat) : Int)) = ((7 - (2 ^ i + 2 ^ j) : Nat) : Int) ∧ 7 - (2 ^ i + 2 ^ j) < 8 ∧ ∀ k, k < 3 → ((7 - (2 ^ i + 2 ^ j)) / 2 ^ k % 2 = 1 ↔ (k ≠ i ∧ k ≠ j)) := by
  rcases nat3 hi with rfl | rfl | rfl <;> rcases nat3 hj with rfl | rfl | rfl <;> first | exact absurd rfl d | decide

set_option maxRecDepth 100000 in
set_option maxHeartbeats 1600000 in
theorem SwapsByThrees_any (A : Option Addr) (c : Nat) (t : List Int) (w : World) (h : Rd w A c t) (hl : t.length ≤ 1099511627776) :
    Calls Try.prog 31 #[.slice A t.length c] w fun e w' => e = .returned (.bool (thB t)) ∧ Below w.heap.size w w' := by
  have HV := Lib.hid (IsModest_any A c t w h hl)
  by_cases hv : VT t ∧ Mod t
  · rw [mdB_true hv.1 hv.2] at HV
    have h8 := hv.1.1
    obtain ⟨b, off, rfl⟩ := h.some_ h8
    have HO := Lib.hid (fun (s : Nat) (hs : s < 8) (w1 : World) => onesIn_any s hs w1)
    have HS0 := fun (i j k : Nat) (hi : i < 3) (hj : j < 3) (hk : k < 3) (d1 : i ≠ j) (d2 : i ≠ k) (d3 : j ≠ k) (w1 : World) => swapsThird_any t i j k w1 hv.1 hi hj hk d1 d2 d3
    unfold ag8 at HS0
    have HS := Lib.hid HS0
    have HY := Lib.hid (fun (h3 : Tri t) => thB_true hv.1 hv.2 h3)
    have HN := Lib.hid (fun (hn : ¬ Tri t) => thB_false (t := t) (fun h => hn h.2.2))
    have hap := arr_ptr b off c
    have h7 : (7 : Nat) < 8 := by omega
    have HO7 := Lib.hid (fun (w1 : World) => onesIn_any 7 (by omega) w1)
    rw [h8] at HV ⊢
    clear hv HS0
    go_enter Try.func31, Try.ntmps31
    go_wp2_with fail
    refine HV.out.mono ?_
    rintro e w1 ⟨rfl, b1⟩
    go_wp2_with fail
    refine (HO7.out _).mono ?_
    rintro e w2 ⟨A2, c2, rfl, q2, b2⟩
    have B2 := below_then b1 b2
    have hl7 : (on 7).length ≤ 3 := by rw [on_len]; exact th_le 7
    have R2 := Lib.hid q2.rd
    have H7 : Hid (∀ i : Nat, i < 3 → ((2 ^ i : Nat) : Int) ∈ on 7) := Lib.hid (fun i hi => on_has hi (by rcases nat3 hi with rfl | rfl | rfl <;> decide))
    have HM7 := Lib.hid (fun (y : Int) (hy : y ∈ on 7) => on_mem hy)
    obtain ⟨L, hL⟩ : ∃ L, L = on 7 := ⟨_, rfl⟩
    rw [← hL] at R2 H7 HM7 hl7 ⊢
    clear hL q2 HO7 HV b1 b2
    go_wp2_with fail
    go_loopw [14] (fun iv wr => ∃ k : Nat, k ≤ L.length ∧ iv = .int .i64 (k : Int) ∧ Below w.heap.size w wr ∧ Hid (Rd wr A2 c2 L) ∧ Hid (ThI t k L)) (fun iv _ => L.length - (intOf iv).toNat)
    case atStart => exact ⟨0, by omega, rfl, B2, R2, Lib.hid (ThI.zero t L)⟩
    case round =>
      clear B2 R2
      obtain ⟨n, hn, rfl, hb, HR, HI⟩ := hrel
      by_cases hlt : n < L.length
      · obtain ⟨b5, off5, y, rfl, _, hy, hc⟩ := HR.out.at_ hlt
        obtain ⟨i, hi, _, rfl⟩ := HM7.out y (List.mem_of_getElem? hy.out)
        have hn1 : n + 1 ≤ L.length := hlt
        obtain ⟨e1, l1, hx1⟩ := but1 hi
        have HX1 := Lib.hid hx1
        have HC1 := Lib.hid (fun w1 => HO.out (7 - 2 ^ i) l1 w1)
        have HLI := Lib.hid hi
        have HNI := Lib.hid (fun (hq : ∀ j, j < 3 → ∀ k, k < 3 → TriQ t i j k) => HI.out.next hi hy.out hq)
        obtain ⟨pi, hpi⟩ : ∃ p, p = 2 ^ i := ⟨_, rfl⟩
        obtain ⟨si, hsi⟩ : ∃ s, s = 7 - 2 ^ i := ⟨_, rfl⟩
        have HPI := Lib.hid hpi
        have HSI := Lib.hid hsi
        rw [← hpi] at hc
        rw [← hsi] at e1 HC1 HX1
        rw [← hpi] at e1
        clear hpi hsi hy hx1 l1 hi hlt HI
        go_wp2_with fail
        refine (HC1.out _).mono ?_
        rintro e w3 ⟨A3, c3, rfl, q3, b3⟩
        have B3 := below_then hb b3
        have HR3 := Lib.hid (HR.out.below b3)
        have hl3 : (on si).length ≤ 3 := by rw [on_len]; exact th_le si
        have R3 := Lib.hid q3.rd
        have HM3 : Hid (∀ y ∈ on si, ∃ j : Nat, j < 3 ∧ j ≠ i ∧ y = ((2 ^ j : Nat) : Int)) := Lib.hid (fun y hy => by
          obtain ⟨j, hj, hb, e⟩ := on_mem hy
          exact ⟨j, hj, (HX1.out j hj).1 hb, e⟩)
        have H3 : Hid (∀ j : Nat, j < 3 → j ≠ i → ((2 ^ j : Nat) : Int) ∈ on si) := Lib.hid (fun j hj hne => on_has hj ((HX1.out j hj).2 hne))
        obtain ⟨L3, hL3⟩ : ∃ L3, L3 = on si := ⟨_, rfl⟩
        rw [← hL3] at R3 H3 HM3 hl3 ⊢
        clear hL3 q3 b3 HC1 HR HX1 hb
        go_wp2_with fail
        go_loopw [22] (fun iv wr => ∃ k : Nat, k ≤ L3.length ∧ iv = .int .i64 (k : Int) ∧ Below w.heap.size w wr ∧ Hid (Rd wr (some ⟨b5, off5, none⟩) c2 L) ∧ Hid (Rd wr A3 c3 L3) ∧ Hid (ThJ t i k L3)) (fun iv _ => L3.length - (intOf iv).toNat)
        case atStart => exact ⟨0, by omega, rfl, B3, HR3, R3, Lib.hid (ThJ.zero t i L3)⟩
        case round =>
          clear B3 R3 HR3
          obtain ⟨m, hm, rfl, hb, HR, HR3, HJ⟩ := hrel
          by_cases hlt : m < L3.length
          · obtain ⟨b6, off6, y, rfl, _, hy, hc3⟩ := HR3.out.at_ hlt
            obtain ⟨j, hj, hne, rfl⟩ := HM3.out y (List.mem_of_getElem? hy.out)
            have hm1 : m + 1 ≤ L3.length := hlt
            obtain ⟨e2, l2, hx2⟩ := but2 HLI.out hj hne
            have HX2 := Lib.hid hx2
            have HC2 := Lib.hid (fun w1 => HO.out (7 - (2 ^ i + 2 ^ j)) l2 w1)
            have HLJ := Lib.hid (And.intro hj hne)
            have HNJ := Lib.hid (fun (hq : ∀ k, k < 3 → TriQ t i j k) => HJ.out.next hj hy.out hq)
            obtain ⟨pj, hpj⟩ : ∃ p, p = 2 ^ j := ⟨_, rfl⟩
            have HPJ := Lib.hid hpj
            obtain ⟨sj, hsj⟩ : ∃ s, s = 7 - (2 ^ i + 2 ^ j) := ⟨_, rfl⟩
            rw [← hsj] at e2 HC2 HX2
            rw [← hpj] at hc3 e2
            rw [← HPI.out] at e2
            clear hpj hsj hy hx2 l2 hj hne hlt HJ
            go_wp2_with fail
            refine (HC2.out _).mono ?_
            rintro e w4 ⟨A4, c4, rfl, q4, b4⟩
            have B4 := below_then hb b4
            have HR4 := Lib.hid (HR.out.below b4)
            have HR34 := Lib.hid (HR3.out.below b4)
            have hl4 : (on sj).length ≤ 3 := by rw [on_len]; exact th_le sj
            have R4 := Lib.hid q4.rd
            have HM4 : Hid (∀ y ∈ on sj, ∃ k : Nat, k < 3 ∧ k ≠ i ∧ k ≠ j ∧ y = ((2 ^ k : Nat) : Int)) := Lib.hid (fun y hy => by
              obtain ⟨k, hk, hb, e⟩ := on_mem hy
              obtain ⟨n1, n2⟩ := (HX2.out k hk).1 hb
              exact ⟨k, hk, n1, n2, e⟩)
            have H4 : Hid (∀ k : Nat, k < 3 → k ≠ i → k ≠ j → ((2 ^ k : Nat) : Int) ∈ on sj) := Lib.hid (fun k hk n1 n2 => on_has hk ((HX2.out k hk).2 ⟨n1, n2⟩))
            obtain ⟨L4, hL4⟩ : ∃ L4, L4 = on sj := ⟨_, rfl⟩
            rw [← hL4] at R4 H4 HM4 hl4 ⊢
            clear hL4 q4 b4 HC2 HR HR3 HX2 hb
            go_wp2_with fail
            go_loopw [32] (fun iv wr => ∃ k : Nat, k ≤ L4.length ∧ iv = .int .i64 (k : Int) ∧ Below w.heap.size w wr ∧ Hid (Rd wr (some ⟨b5, off5, none⟩) c2 L) ∧ Hid (Rd wr (some ⟨b6, off6, none⟩) c3 L3) ∧ Hid (Rd wr A4 c4 L4) ∧ Hid (ThK t i j k L4)) (fun iv _ => L4.length - (intOf iv).toNat)
            case atStart => exact ⟨0, by omega, rfl, B4, HR4, HR34, R4, Lib.hid (ThK.zero t i j L4)⟩
            case round =>
              clear B4 R4 HR4 HR34
              obtain ⟨o, ho, rfl, hb, HR, HR3, HR4, HK⟩ := hrel
              by_cases hlt : o < L4.length
              · obtain ⟨b7, off7, y, rfl, _, hy, hc4⟩ := HR4.out.at_ hlt
                obtain ⟨k, hk, n1, n2, rfl⟩ := HM4.out y (List.mem_of_getElem? hy.out)
                have ho1 : o + 1 ≤ L4.length := hlt
                have HCT := Lib.hid (fun w1 => HS.out i j k HLI.out HLJ.out.1 hk (fun e => HLJ.out.2 e.symm) (fun e => n1 e.symm) (fun e => n2 e.symm) w1)
                have HNK := Lib.hid (fun (hq : tqB t i j k = true) => HK.out.next hk hy.out (fun _ _ _ => tqB_iff.1 hq))
                have HNO := Lib.hid (fun (hq : tqB t i j k = false) => HN.out (Tri.no HLI.out HLJ.out.1 hk (fun e => HLJ.out.2 e.symm) (fun e => n1 e.symm) (fun e => n2 e.symm) (fun h => by rw [tqB_true h] at hq; cases hq)))
                obtain ⟨pk, hpk⟩ : ∃ p, p = 2 ^ k := ⟨_, rfl⟩
                rw [← hpk] at hc4 HCT
                rw [← HPI.out, ← HPJ.out] at HCT
                obtain ⟨d0, d1, d2, d3, d4, d5, d6, d7⟩ := (h.below hb).eight h8
                clear hpk hy hk n1 n2 hlt HK
                rcases hq : tqB t i j k with _ | _
                · have HE := Lib.hid (HNO.out hq)
                  rw [hq] at HCT
                  clear hq HNK HNO
                  go_wp2_with fail
                  refine (HCT.out _).mono ?_
                  rintro e w5 ⟨rfl, b5'⟩
                  go_wp2
                  go_ret
                  exact ⟨by rw [HE.out]; rfl, below_then hb b5'⟩
                · have HE := Lib.hid (HNK.out hq)
                  rw [hq] at HCT
                  clear hq HNK HNO
                  go_wp2_with fail
                  refine (HCT.out _).mono ?_
                  rintro e w5 ⟨rfl, b5'⟩
                  have HRa := Lib.hid (HR.out.below b5')
                  have HRb := Lib.hid (HR3.out.below b5')
                  have HRc := Lib.hid (HR4.out.below b5')
                  go_wp2
                  go_roundw
                  case rel => exact ⟨o + 1, ho1, by go_num, below_then hb b5', HRa, HRb, HRc, HE⟩
                  case measure => simp [intOf]; omega
              · obtain rfl : o = L4.length := by omega
                have HU := Lib.hid (HNJ.out (fun k hk d1 d2 d3 => HK.out k hk (by rw [List.take_length]; exact H4.out k hk (fun e => d2 e.symm) (fun e => d3 e.symm)) d1 d2 d3))
                go_wp2
                go_roundw
                case rel => exact ⟨m + 1, hm1, by go_num, hb, HR, HR3, HU⟩
                case measure => simp [intOf]; omega
          · obtain rfl : m = L3.length := by omega
            have HU := Lib.hid (HNI.out (fun j hj k hk d1 d2 d3 => HJ.out j hj (by rw [List.take_length]; exact H3.out j hj (fun e => d1 e.symm)) k hk d1 d2 d3))
            go_wp2
            go_roundw
            case rel => exact ⟨n + 1, hn1, by go_num, hb, HR, HU⟩
            case measure => simp [intOf]; omega
      · obtain rfl : n = L.length := by omega
        have HE := Lib.hid (HY.out (fun i hi j hj k hk d1 d2 d3 => HI.out i hi (by rw [List.take_length]; exact H7.out i hi) j hj k hk d1 d2 d3))
        go_wp2
        go_ret
        exact ⟨by rw [HE.out]; rfl, hb⟩
  · rw [mdB_false hv] at HV
    have HE := Lib.hid (thB_false (t := t) (fun h => hv ⟨h.1, h.2.1⟩))
    clear hv
    go_enter Try.func31, Try.ntmps31
    go_wp2_with (go_at_call 84; refine HV.out.mono ?_; rintro e w1 ⟨rfl, hb⟩)
    go_ret
    exact ⟨by rw [HE.out]; rfl, hb⟩

theorem SwapsByThrees_both (xs : List Int) (hl : xs.length ≤ 1048576) : ∃ v,
    (∀ A c w, Rd w A c xs → Calls Try.prog 32 #[.slice A xs.length c] w fun e w' => e = .returned (.bool v) ∧ Below w.heap.size w w') ∧
    (∀ A c w, Rd w A c xs → Calls Try.prog 31 #[.slice A xs.length c] w fun e w' => e = .returned (.bool v) ∧ Below w.heap.size w w') :=
  ⟨thB xs, fun A c w h => SSwapsByThrees_any A c xs w h (by omega), fun A c w h => SwapsByThrees_any A c xs w h (by omega)⟩

end Go.Proofs.Ytfjncipekjnbjaa
