/-
  The laws of chapter 4: what they reckon with, and the law of IsModest.
-/
import Derived.Test.YtcmbpkgfcglciaaQe
import Derived.Test.YtcmbpkgfcglciaaWh
namespace Go.Proofs.Ytcmbpkgfcglciaa
open Go.RowKit Go.Lib

theorem Lpower_any (j : Nat) (hj : j ≤ 3) (w : World) :
    Calls Try.prog 14 #[.int .i64 (j : Int)] w fun e w' => e = .returned (.int .i64 ((2 ^ j : Nat) : Int)) ∧ w = w' := by
  go_enter Try.func14, Try.ntmps14
  go_wp2
  go_loop [0, 3] (fun n o => ∃ m : Nat, m ≤ j ∧ n = .int .i64 (m : Int) ∧ o = .int .i64 ((2 ^ (j - m) : Nat) : Int)) (fun n _ => (intOf n).toNat)
  case atStart => exact ⟨j, Nat.le_refl _, rfl, by simp⟩
  case round =>
    obtain ⟨m, hm, rfl, rfl⟩ := hrel
    cases m with
    | zero =>
      go_wp2
      go_ret
      exact ⟨rfl, rfl⟩
    | succ m =>
      have hp : 2 ^ (j - (m + 1)) ≤ 4 := by
        have : j - (m + 1) ≤ 2 := by omega
        calc 2 ^ (j - (m + 1)) ≤ 2 ^ 2 := Nat.pow_le_pow_right (by decide) this
          _ = 4 := rfl
      have he : 2 ^ (j - m) = 2 * 2 ^ (j - (m + 1)) := by rw [show j - m = (j - (m + 1)) + 1 by omega, Nat.pow_succ]; omega
      obtain ⟨q, hq⟩ : ∃ q, q = 2 ^ (j - (m + 1)) := ⟨_, rfl⟩
      rw [← hq] at hp he ⊢
      have HE := Lib.hid he
      have hm' : (0 : Int) < ((m + 1 : Nat) : Int) := by omega
      clear hq he
      go_wp2
      go_round
      case rel => exact ⟨m, by omega, by go_num, by rw [HE.out]; go_num⟩
      case measure => simp [intOf]

theorem Lbit_any (x j : Nat) (hx : x < 8) (hj : j < 3) (w : World) :
    Calls Try.prog 13 #[.int .i64 (x : Int), .int .i64 (j : Int)] w fun e w' => e = .returned (.int .i64 ((x / 2 ^ j % 2 : Nat) : Int)) ∧ w = w' := by
  have HP := Lib.hid (fun w => Lpower_any j (by omega) w)
  have hv : (wrap64 ((x : Int) / ((2 ^ j : Nat) : Int))).tmod 2 = ((x / 2 ^ j % 2 : Nat) : Int) := by
    have : ∀ x, x < 8 → ∀ j, j < 3 → (wrap64 (((x : Nat) : Int) / ((2 ^ j : Nat) : Int))).tmod 2 = ((x / 2 ^ j % 2 : Nat) : Int) := by decide +kernel
    exact this x hx j hj
  obtain ⟨p, hp⟩ : ∃ p, p = 2 ^ j := ⟨_, rfl⟩
  have hp0 : (p : Int) ≠ 0 := by
    have : 0 < 2 ^ j := Nat.pow_pos (by decide)
    omega
  rw [← hp] at HP hv ⊢
  have HV := Lib.hid hv
  clear hv hp
  go_enter Try.func13, Try.ntmps13
  go_wp2_with (go_at_call 14; refine (HP.out _).mono ?_; rintro e w1 ⟨rfl, rfl⟩)
  go_ret
  exact ⟨by rw [← HV.out]; rfl, rfl⟩

/-- What is drawn: a list of numbers. -/
def DrawnT (w : World) (e : Ending) (w' : World) : Prop :=
  ∃ (g c : Nat) (t : List Int), e = .returned (.slice (some ⟨g, 0, none⟩) t.length c) ∧ Rd w' (some ⟨g, 0, none⟩) c t ∧ t.length ≤ 8 ∧ t.length ≤ c ∧ Below w.heap.size w w'
theorem DrawIsModest_any (A : Option Addr) (c : Nat) (xs : List Int) (w : World) (h : Came .u8 w A c xs) :
    Calls Try.prog 18 #[.slice A xs.length c] w (DrawnT w) := by
  go_enter Try.func18, Try.ntmps18
  go_wp2_with fail
  refine (newReader_any A c xs w h).mono ?_
  rintro e w1 ⟨rb, rfl, hrb, hr1, hb1⟩
  go_wp2_with fail
  refine (someTable_any rb 0 w1 hr1 (by decide)).mono ?_
  rintro e w2 ⟨g, c2, t, rfl, ht, o2, _, hg2⟩
  have HB := Lib.hid (hb1.trans (gb_below hg2 hb1.size hrb))
  clear hg2
  go_wp2
  go_ret
  exact ⟨g, c2, t, rfl, o2.rd, ht, o2.cap.1, HB.out⟩

/-- Modest tables are no more than their parts. -/
theorem mod_parts {t : List Int} (h : VT t) (hm : Mod t) {s : Nat} (hs : s < 8) : T t s ≤ ((s / 2 ^ 0 % 2 : Nat) : Int) * T t 1 + ((s / 2 ^ 1 % 2 : Nat) : Int) * T t 2 + ((s / 2 ^ 2 % 2 : Nat) : Int) * T t 4 := by
  have h0 := h.2.1
  have m12 := hm 1 (by omega) 2 (by omega)
  have m14 := hm 1 (by omega) 4 (by omega)
  have m24 := hm 2 (by omega) 4 (by omega)
  have m34 := hm 3 (by omega) 4 (by omega)
  simp only [show (1 ||| 2 : Nat) = 3 by decide, show (1 &&& 2 : Nat) = 0 by decide, show (1 ||| 4 : Nat) = 5 by decide, show (1 &&& 4 : Nat) = 0 by decide, show (2 ||| 4 : Nat) = 6 by decide, show (2 &&& 4 : Nat) = 0 by decide, show (3 ||| 4 : Nat) = 7 by decide, show (3 &&& 4 : Nat) = 0 by decide] at m12 m14 m24 m34
  rcases nat8 hs with rfl | rfl | rfl | rfl | rfl | rfl | rfl | rfl <;> simp <;> omega

/-- What the first j things alone are worth together, of those in the set. -/
def prt (t : List Int) (s : Nat) : Nat → Int
  | 0 => 0
  | j + 1 => prt t s j + ((s / 2 ^ j % 2 : Nat) : Int) * T t (2 ^ j)

theorem prt_bd {t : List Int} (h : ∀ s, s < 8 → 0 ≤ T t s ∧ T t s ≤ 30) {s : Nat} (_hs : s < 8) : ∀ j, j ≤ 3 → 0 ≤ prt t s j ∧ prt t s j ≤ 30 * j := by
  intro j
  induction j with
  | zero => intro _; simp [prt]
  | succ j ih =>
    intro hj
    have h1 := ih (by omega)
    have h2 := h (2 ^ j) (by rcases nat3 (show j < 3 by omega) with rfl | rfl | rfl <;> decide)
    simp only [prt]
    generalize T t (2 ^ j) = v at h2 ⊢
    rcases (show s / 2 ^ j % 2 = 0 ∨ s / 2 ^ j % 2 = 1 by omega) with e | e <;> rw [e]
    · simp only [Int.natCast_zero, Int.zero_mul]; omega
    · simp only [Int.natCast_one, Int.one_mul]; omega

set_option maxHeartbeats 4000000 in
set_option maxRecDepth 100000 in
theorem fnIsModest_walk {A : Option Addr} {c : Nat} {xs : List Int} {w : World} (h : Came .u8 w A c xs) :
    Calls Try.prog 5 #[.slice A xs.length c] w fun e w' => e = .returned (.bool true) ∧ Below w.heap.size w w' := by
  by_cases hlen : 1048576 < xs.length
  · go_enter Try.func5, Try.ntmps5
    go_wp2
    go_ret
    exact ⟨rfl, Below.refl _ _⟩
  have hl1 : xs.length ≤ 1048576 := by omega
  have HD := Lib.hid (DrawIsModest_any A c xs w h)
  clear hlen h
  go_enter Try.func5, Try.ntmps5
  go_wp2_with fail
  refine HD.out.mono ?_
  rintro e w1 ⟨g, c1, t, rfl, hR, ht8, htc, b1⟩
  have hI := fun w' (h : Rd w' (some ⟨g, 0, none⟩) c1 t) => IsModest_any (some ⟨g, 0, none⟩) c1 t w' h (by omega)
  have hS := fun w' (h : Rd w' (some ⟨g, 0, none⟩) c1 t) => SIsModest_any (some ⟨g, 0, none⟩) c1 t w' h (by omega)
  by_cases hv : VT t ∧ Mod t
  · rw [mdB_true hv.1 hv.2] at hI hS
    have hl8 := hv.1.1
    rw [hl8] at hI hS ⊢
    have HI := Lib.hid hI
    have HS := Lib.hid hS
    have HP := Lib.hid (fun s (hs : s < 8) => mod_parts hv.1 hv.2 hs)
    have HBD := Lib.hid (fun s (hs : s < 8) => (hv.1.2.2 s hs).1)
    clear hI hS hv HD
    go_wp2_with fail
    refine (HI.out w1 hR).mono ?_
    rintro e w2 ⟨rfl, b2⟩
    go_wp2_with fail
    refine (HS.out _ (hR.below b2)).mono ?_
    rintro e w3 ⟨rfl, b3⟩
    have hR3 := (hR.below b2).below b3
    have HB3 := Lib.hid (below_then b1 (b2.trans (b3.mono b2.size)))
    clear b2 b3 b1 HI HS hR
    go_wp2_with fail
    clear hl1
    go_loopw [5] (fun sv wr => ∃ s n, sv = .int .i64 (s : Nat) ∧ s ≤ 8 ∧ wr = w3.drewN n) (fun i _ => 8 - (intOf i).toNat)
    case atStart => exact ⟨0, 0, rfl, by omega, rfl⟩
    case round =>
      obtain ⟨s, n, rfl, hs, rfl⟩ := hrel
      by_cases hlt : s < 8
      · have hs8 : (s : Int) < 8 := by omega
        have hs0 : (0 : Int) ≤ (s : Int) := by omega
        have hss : s < 8 := hlt
        clear hlt
        go_wp2_with fail
        go_loopw [6, 7] (fun mv jv wr => ∃ j n, mv = .int .i64 (prt t s j) ∧ jv = .int .i64 (j : Nat) ∧ j ≤ 3 ∧ wr = w3.drewN n) (fun _ i _ => 3 - (intOf i).toNat)
        case atStart => exact ⟨0, n, rfl, rfl, by omega, rfl⟩
        case round =>
          obtain ⟨j, n, rfl, rfl, hj, rfl⟩ := hrel
          by_cases hlt : j < 3
          · have HB := Lib.hid (fun w => Lbit_any s j hss hlt w)
            have HPW := Lib.hid (fun w => Lpower_any j (by omega) w)
            have hp8 : 2 ^ j < 8 := by rcases nat3 hlt with rfl | rfl | rfl <;> decide
            obtain ⟨b, off, y, hA, _, hy, hcy⟩ := (hR3.drewN n).at_ (k := 2 ^ j) (by rw [hl8]; exact hp8)
            cases hA
            rw [Nat.zero_add] at hcy
            have hTy := T_of hy.out
            have HPS : Hid (prt t s (j + 1) = prt t s j + ((s / 2 ^ j % 2 : Nat) : Int) * y) := Lib.hid (by simp only [prt]; rw [hTy])
            have hyb := HBD.out _ hp8
            rw [hTy] at hyb
            have hpb := prt_bd HBD.out hss j (by omega)
            have hj3 : (j : Int) < 3 := by omega
            have hj0 : (0 : Int) ≤ (j : Int) := by omega
            obtain ⟨u, hu⟩ : ∃ u, u = s / 2 ^ j % 2 := ⟨_, rfl⟩
            obtain ⟨p, hp⟩ : ∃ p, p = 2 ^ j := ⟨_, rfl⟩
            obtain ⟨V, hV⟩ : ∃ V, V = prt t s j := ⟨_, rfl⟩
            rw [← hu] at HB HPS
            rw [← hp] at HPW hcy hp8
            rw [← hV] at hpb HPS ⊢
            have hu1 : u ≤ 1 := by omega
            have hmul : 0 ≤ (u : Int) * y ∧ (u : Int) * y ≤ 30 := by
              rcases (show u = 0 ∨ u = 1 by omega) with rfl | rfl <;> simp <;> omega
            have e1 : IntKind.i64.wrap ((u : Int) * y) = (u : Int) * y := IntWalk.i64_in _ (by omega)
            have e2 : IntKind.i64.wrap (V + (u : Int) * y) = V + (u : Int) * y := IntWalk.i64_in _ (by omega)
            have hp0 : (0 : Int) ≤ (p : Int) := by omega
            have hp8' : (p : Int) < 8 := by omega
            have hj1 : j + 1 ≤ 3 := hlt
            clear hu hp hV hy hTy hyb hpb hmul hlt
            go_wp2_with (first
              | (go_at_call 13; refine (HB.out _).mono ?_; rintro e w6 ⟨rfl, rfl⟩)
              | (go_at_call 14; refine (HPW.out _).mono ?_; rintro e w6 ⟨rfl, rfl⟩))
            go_roundw
            case rel => exact ⟨j + 1, _, by rw [HPS.out], by go_num, hj1, rfl⟩
            case measure => simp only [intOf]; omega
          · obtain rfl : j = 3 := by omega
            obtain ⟨b, off, y, hA, _, hy, hcy⟩ := (hR3.drewN n).at_ (k := s) (by rw [hl8]; exact hss)
            cases hA
            rw [Nat.zero_add] at hcy
            have hTy := T_of hy.out
            have hle : y ≤ prt t s 3 := by
              have := HP.out s hss
              rw [hTy] at this
              simp only [prt]
              simpa using this
            clear hy hTy hlt
            go_wp2
            go_roundw
            case rel => exact ⟨s + 1, _, by go_num, by omega, rfl⟩
            case measure => simp only [intOf]; omega
      · obtain rfl : s = 8 := by omega
        go_wp2
        go_ret
        exact ⟨rfl, below_drewN' HB3.out n⟩
  · rw [mdB_false hv] at hI hS
    have HI := Lib.hid hI
    have HS := Lib.hid hS
    clear hI hS hv HD
    go_wp2_with fail
    refine (HI.out w1 hR).mono ?_
    rintro e w2 ⟨rfl, b2⟩
    go_wp2_with fail
    refine (HS.out _ (hR.below b2)).mono ?_
    rintro e w3 ⟨rfl, b3⟩
    go_wp2_with fail
    refine (HS.out _ ((hR.below b2).below b3)).mono ?_
    rintro e w4 ⟨rfl, b4⟩
    go_wp2
    go_ret
    exact ⟨rfl, below_then b1 (b2.trans ((b3.trans (b4.mono b3.size)).mono b2.size))⟩

end Go.Proofs.Ytcmbpkgfcglciaa
