/-
  The laws of chapter 9: the walk of FnWorthWith.
-/
import Derived.Test.YtccbjgajmjcpjaaSm
namespace Go.Proofs.Ytccbjgajmjcpjaa
open Go.RowKit Go.Lib

theorem Lpow4_any (j : Nat) (hj : j ≤ 4) (w : World) :
    Calls Try.prog 54 #[.int .i64 (j : Int)] w fun e w' => e = .returned (.int .i64 ((2 ^ j : Nat) : Int)) ∧ w = w' := by
  go_enter Try.func54, Try.ntmps54
  go_wp2
  go_loop [0, 3] (fun n o => ∃ m : Nat, m ≤ j ∧ n = .int .i64 (m : Int) ∧ o = .int .i64 ((2 ^ (j - m) : Nat) : Int)) (fun n _ => (intOf n).toNat)
  case atStart => exact ⟨j, Nat.le_refl _, rfl, by simp⟩
  case round =>
    obtain ⟨m, hm, rfl, rfl⟩ := hrel
    cases m with
    | zero =>
      go_wp2
      go_ret
      exact ⟨rfl, rfl⟩
    | succ m =>
      have hp : 2 ^ (j - (m + 1)) ≤ 8 := by
        have : j - (m + 1) ≤ 3 := by omega
        calc 2 ^ (j - (m + 1)) ≤ 2 ^ 3 := Nat.pow_le_pow_right (by decide) this
          _ = 8 := rfl
      have he : 2 ^ (j - m) = 2 * 2 ^ (j - (m + 1)) := by rw [show j - m = (j - (m + 1)) + 1 by omega, Nat.pow_succ]; omega
      obtain ⟨q, hq⟩ : ∃ q, q = 2 ^ (j - (m + 1)) := ⟨_, rfl⟩
      rw [← hq] at hp he ⊢
      have HE := Lib.hid he
      have hm' : (0 : Int) < ((m + 1 : Nat) : Int) := by omega
      clear hq he
      go_wp2
      go_round
      case rel => exact ⟨m, by omega, by go_num, by rw [HE.out]; go_num⟩
      case measure => simp [intOf]

theorem Lbit4_any (x j : Nat) (hx : x < 16) (hj : j < 4) (w : World) :
    Calls Try.prog 31 #[.int .i64 (x : Int), .int .i64 (j : Int)] w fun e w' => e = .returned (.int .i64 ((x / 2 ^ j % 2 : Nat) : Int)) ∧ w = w' := by
  have HP := Lib.hid (fun w => Lpow4_any j (by omega) w)
  have hv : (wrap64 ((x : Int) / ((2 ^ j : Nat) : Int))).tmod 2 = ((x / 2 ^ j % 2 : Nat) : Int) := by
    have : ∀ x, x < 16 → ∀ j, j < 4 → (wrap64 (((x : Nat) : Int) / ((2 ^ j : Nat) : Int))).tmod 2 = ((x / 2 ^ j % 2 : Nat) : Int) := by decide +kernel
    exact this x hx j hj
  obtain ⟨p, hp⟩ : ∃ p, p = 2 ^ j := ⟨_, rfl⟩
  have hp0 : (p : Int) ≠ 0 := by
    have : 0 < 2 ^ j := Nat.pow_pos (by decide)
    omega
  rw [← hp] at HP hv ⊢
  have HV := Lib.hid hv
  clear hv hp
  go_enter Try.func31, Try.ntmps31
  go_wp2_with (go_at_call 54; refine (HP.out _).mono ?_; rintro e w1 ⟨rfl, rfl⟩)
  go_ret
  exact ⟨by rw [← HV.out]; rfl, rfl⟩

theorem wwB_yes {rows : List (List Int)} {s : Nat} (h : VTs rows) (hs : s < 2 ^ rows.length) : wwB rows (s : Int) = ww rows s := by
  unfold wwB; rw [if_pos ⟨vtsB_true h, by omega, by omega⟩]; rfl
theorem wwB_neg {rows : List (List Int)} {x : Int} : wwB rows x < 0 ↔ ¬ (VTs rows ∧ 0 ≤ x ∧ x < ((2 ^ rows.length : Nat) : Int)) := by
  unfold wwB
  constructor
  · intro h
    split at h
    · rename_i hc
      have := (ww_bd (vtsB_iff.1 hc.1).2 (vtsB_iff.1 hc.1).1.2 x.toNat).1
      omega
    · rename_i hc
      exact fun hh => hc ⟨vtsB_true hh.1, hh.2⟩
  · intro h
    rw [if_neg (fun hh => h ⟨vtsB_iff.1 hh.1, hh.2⟩)]; decide
/-- What the law says of tables and a set of bidders. -/
structure WorthSays (rows : List (List Int)) (s : Nat) : Prop where
  more : ∀ j, j < rows.length → s / 2 ^ j % 2 = 0 → wwB rows (s : Int) ≤ wwB rows ((s : Int) + ((2 ^ j : Nat) : Int))
  all : wwB rows (((2 ^ rows.length : Nat) : Int) - 1) = bwF rows
theorem more_lt : ∀ n, n < 5 → ∀ s, s < 2 ^ n → ∀ j, j < n → (s / 2 ^ j % 2 = 1 ∨ s + 2 ^ j < 2 ^ n) := by decide +kernel
theorem worth_says {rows : List (List Int)} {s : Nat} (h : VTs rows) (hs : s < 2 ^ rows.length) : WorthSays rows s := by
  have hz : ∀ t ∈ rows, T t 0 = 0 := fun t ht => (h.2 t ht).2.1
  refine ⟨fun j hj hb => ?_, ?_⟩
  · have h1 := (more_lt rows.length (by have := h.1.2; omega) s hs j hj).resolve_left (by omega)
    rw [wwB_yes h hs, show (s : Int) + ((2 ^ j : Nat) : Int) = ((s + 2 ^ j : Nat) : Int) by omega, wwB_yes h h1]
    exact ww_more hz hj hb
  · have h0 := (pow_len h.1.2).1
    rw [show ((2 ^ rows.length : Nat) : Int) - 1 = ((2 ^ rows.length - 1 : Nat) : Int) by omega, wwB_yes h (by omega), ww_all]
    unfold bwF
    rw [if_pos h, wayF_worth hz h.1.2]

set_option maxHeartbeats 4000000 in
set_option maxRecDepth 100000 in
theorem fnWorthWith_walk {A : Option Addr} {c : Nat} {xs : List Int} {w : World} (h : Came .u8 w A c xs) :
    Calls Try.prog 10 #[.slice A xs.length c] w fun e w' => e = .returned (.bool true) ∧ Below w.heap.size w w' := by
  by_cases hlen : 1048576 < xs.length
  · go_enter Try.func10, Try.ntmps10
    go_wp2
    go_ret
    exact ⟨rfl, Below.refl _ _⟩
  have hl1 : xs.length ≤ 1048576 := by omega
  have HD := Lib.hid (DrawWorthWith_any A c xs w h)
  clear hlen h
  go_enter Try.func10, Try.ntmps10
  go_wp2_with fail
  refine HD.out.mono ?_
  rintro e w1 ⟨A1, c1, rows, x, rfl, hR, hl4, hl8, hx0, hx1, b1⟩
  have hl8' : ∀ r ∈ rows, r.length ≤ 1099511627776 := fun r hr => by have := hl8 r hr; omega
  have HI := Lib.hid (fun x w' (h : RdR w' A1 c1 rows) => WorthWith_any A1 c1 rows x w' h hl8')
  have HS := Lib.hid (fun x w' (h : RdR w' A1 c1 rows) => SWorthWith_any A1 c1 rows x w' h (by omega) hl8')
  by_cases hv : VTs rows ∧ 0 ≤ x ∧ x < ((2 ^ rows.length : Nat) : Int)
  · obtain ⟨hv, hxx, hx2⟩ := hv
    obtain ⟨s, rfl⟩ := Int.eq_ofNat_of_zero_le hxx
    have hs : s < 2 ^ rows.length := by omega
    have HSAY := Lib.hid (worth_says hv hs)
    have hp0 : ¬ wwB rows (s : Int) < 0 := fun h => wwB_neg.1 h ⟨hv, hxx, hx2⟩
    have HB := Lib.hid (fun w' (h : RdR w' A1 c1 rows) => (BestSplit_any A1 c1 rows w' h hl8').mono fun _ _ h => h.pl)
    have hs16 : s < 16 := by have := (pow_len hv.1.2).2; omega
    have HPN := Lib.hid (fun w => Lpow4_any rows.length hv.1.2 w)
    have hz0 : s = 0 → wwB rows (s : Int) = 0 := fun h => by subst h; exact wwB_zero hv
    obtain ⟨n, hn⟩ : ∃ n, n = rows.length := ⟨_, rfl⟩
    have hp16 := pow_len hv.1.2
    have HAL := Lib.hid HSAY.out.all
    have HMO := Lib.hid HSAY.out.more
    obtain ⟨P, hP⟩ : ∃ P, P = 2 ^ rows.length := ⟨_, rfl⟩
    rw [← hP] at HPN hp16 HAL
    rw [← hn] at hl4 HI HS HPN HB HMO ⊢
    have e9 : IntKind.i64.wrap ((P : Int) - 1) = (P : Int) - 1 := IntWalk.i64_in _ (by omega)
    obtain ⟨v, hV⟩ : ∃ v, v = wwB rows (s : Int) := ⟨_, rfl⟩
    have HI1 := Lib.hid (HI.out (s : Int))
    have HS1 := Lib.hid (HS.out (s : Int))
    rw [← hV] at HI1 HS1 hp0 hz0 HMO
    have hp00 : decide (v < 0) = false := by simpa using hp0
    have hvv : (v != v) = false := by simp
    have hend : decide (0 < (s : Int)) = false → (v == 0) = true := fun h => by
      have : s = 0 := by simpa using h
      simpa using hz0 this
    have HEND := Lib.hid hend
    clear hV hp0 hz0 hv HD hP hs hx2 hn hend HSAY
    go_wp2_with fail
    refine (HI1.out w1 hR).mono ?_
    rintro e w2 ⟨rfl, b2⟩
    go_wp2_with fail
    refine (HS1.out w2 (hR.below b2)).mono ?_
    rintro e w3 ⟨rfl, b3⟩
    have hR3 := (hR.below b2).below b3
    have B3 := below_then b1 (b2.trans (b3.mono b2.size))
    clear b1 b2 b3 hR
    go_wp2_with fail
    clear hl1 hp00
    go_loopw [6] (fun jv wr => ∃ j, jv = .int .i64 (j : Nat) ∧ j ≤ n ∧ Below w3.heap.size w3 wr) (fun i _ => n - (intOf i).toNat)
    case atStart => exact ⟨0, rfl, by omega, Below.refl _ _⟩
    case round =>
      obtain ⟨j, rfl, hj, hb⟩ := hrel
      by_cases hlt : j < n
      · have HBT := Lib.hid (fun w => Lbit4_any s j hs16 (by omega) w)
        have HPW := Lib.hid (fun w => Lpow4_any j (by omega) w)
        have hrr := hR3.below hb
        have hj3 : (j : Int) < (n : Int) := by omega
        have hj1 : j + 1 ≤ n := hlt
        by_cases hbit : s / 2 ^ j % 2 = 0
        · have hle := HMO.out j hlt hbit
          obtain ⟨p, hp⟩ : ∃ p, p = 2 ^ j := ⟨_, rfl⟩
          rw [hbit] at HBT
          rw [← hp] at HPW hle
          have hp4 : p ≤ 16 := by rw [hp]; exact Nat.pow_le_pow_right (n := 2) (by omega) (by omega : j ≤ 4)
          have e1 : IntKind.i64.wrap ((s : Int) + (p : Int)) = (s : Int) + (p : Int) := IntWalk.i64_in _ (by omega)
          obtain ⟨u, hu⟩ : ∃ u, u = wwB rows ((s : Int) + (p : Int)) := ⟨_, rfl⟩
          have HI2 := Lib.hid (HI.out ((s : Int) + (p : Int)) wr hrr)
          rw [← hu] at hle HI2
          have hle2 : decide (u < v) = false := by simpa using hle
          clear hp hu hbit hlt hle
          go_wp2_with (first
            | (go_at_call 31; refine (HBT.out _).mono ?_; rintro e w6 ⟨rfl, rfl⟩)
            | (go_at_call 54; refine (HPW.out _).mono ?_; rintro e w6 ⟨rfl, rfl⟩)
            | (go_at_call 52; refine HI2.out.mono ?_; rintro e w7 ⟨rfl, b7⟩))
          go_roundw
          case rel => exact ⟨j + 1, by go_num, hj1, hb.trans (b7.mono hb.size)⟩
          case measure => simp only [intOf]; omega
        · have hb0 : s / 2 ^ j % 2 = 1 := by omega
          rw [hb0] at HBT
          clear hbit hb0 hlt
          go_wp2_with (first
            | (go_at_call 31; refine (HBT.out _).mono ?_; rintro e w6 ⟨rfl, rfl⟩))
          go_roundw
          case rel => exact ⟨j + 1, by go_num, hj1, hb⟩
          case measure => simp only [intOf]; omega
      · obtain rfl : j = n := by omega
        have hrr := hR3.below hb
        have HI7 := Lib.hid (fun w' (h : RdR w' A1 c1 rows) => HI.out ((P : Int) - 1) w' h)
        rw [HAL.out] at HI7
        have r1 : (bwF rows == bwF rows) = true := by simp
        clear HI HI1 HS1 HS HMO HAL
        go_wp2_with fail
        refine (HB.out _ hrr).mono ?_
        rintro e w6 ⟨AB, cB, rfl, _, b6⟩
        have hr6 := hrr.below b6
        have B6 := hb.trans (b6.mono hb.size)
        clear b6
        go_wp2_with fail
        refine (HPN.out _).mono ?_
        rintro e w7 ⟨rfl, rfl⟩
        go_wp2_with fail
        refine (HI7.out _ hr6).mono ?_
        rintro e w8 ⟨rfl, b8⟩
        have B8 := Lib.hid (B3.trans ((B6.trans (b8.mono B6.size)).mono B3.size))
        clear b8
        by_cases hs0 : 0 < (s : Int)
        · go_wp2
          go_ret
          exact ⟨rfl, B8.out⟩
        · have hs1 : decide (0 < (s : Int)) = false := by simpa using hs0
          have hv0 := HEND.out hs1
          go_wp2
          go_ret
          exact ⟨rfl, B8.out⟩
  · have HE : wwB rows x = -1 := by
      unfold wwB; rw [if_neg (fun hh => hv ⟨vtsB_iff.1 hh.1, hh.2⟩)]
    have HI1 := Lib.hid (HI.out x)
    have HS1 := Lib.hid (HS.out x)
    rw [HE] at HI1 HS1
    clear HE hv HI HS HD
    go_wp2_with fail
    refine (HI1.out w1 hR).mono ?_
    rintro e w2 ⟨rfl, b2⟩
    have hR2 := hR.below b2
    go_wp2_with fail
    refine (HS1.out w2 hR2).mono ?_
    rintro e w3 ⟨rfl, b3⟩
    have hR3 := hR2.below b3
    have B3 := below_then b1 (b2.trans (b3.mono b2.size))
    clear b1 b2 b3
    go_wp2_with fail
    refine (HS1.out w3 hR3).mono ?_
    rintro e w4 ⟨rfl, b4⟩
    have B4 := Lib.hid (B3.trans (b4.mono B3.size))
    clear b4
    go_wp2
    go_ret
    exact ⟨rfl, B4.out⟩

end Go.Proofs.Ytccbjgajmjcpjaa
