/-
  Chapter 2: the contracts of RevenueAt and BestPrice, of the program and of the model.
-/
import Derived.Test.YtoipjhdnmiomeaaCa
namespace Go.Proofs.Ytoipjhdnmiomeaa
open Go.RowKit

theorem Rd.drop {w : World} {b off c : Nat} {xs : List Int} (h : Rd w (some ⟨b, off, none⟩) c xs) (m : Nat) : Rd w (some ⟨b, off + m, none⟩) (c - m) (xs.drop m) := by
  rcases h with ⟨rfl, _⟩ | ⟨b', off', hA, hc⟩
  · exact .inl ⟨by simp, fun h => by cases h⟩
  · injection hA with hA
    injection hA with h1 h2 h3
    subst h1 h2
    refine .inr ⟨b, off + m, rfl, fun k hk => ?_⟩
    rw [List.length_drop] at hk
    have := hc (m + k) (by omega)
    rw [List.getElem?_drop, Nat.add_assoc]
    exact this

theorem sumInts_n {n : Nat} {s : Int} (A : Option Addr) (c : Nat) (xs : List Int) (w : World) (hn : xs.length = n) (hs' : s = xs.sum) (h : Rd w A c xs) (hl : n ≤ 1048576) (hs : Small2 xs) :
    Calls Try.prog 65 #[.func (.func 66) #[] #[], .int .i64 0, .slice A n c] w fun e w' => e = .returned (.int .i64 s) ∧ w = w' := by
  subst hn hs'; exact sumInts_any A c xs w h hl hs

set_option maxHeartbeats 400000 in
theorem manyFrom_any (b off c : Nat) (xs : List Int) (v : Nat) (w : World) (h : Rd w (some ⟨b, off, none⟩) c xs) (hc : xs.length ≤ c) (hl : xs.length ≤ 1048576) (hv : v ≤ 1048576) (hs : Small2 xs) :
    Calls Try.prog 50 #[.slice (some ⟨b, off, none⟩) xs.length c, .int .i64 v] w fun e w' => e = .returned (.int .i64 (tailW xs v)) ∧ w = w' := by
  rcases Nat.lt_or_ge v xs.length with hlt | hge
  · have H := Lib.hid (sumInts_n (n := xs.length - v) (s := tailW xs v) _ _ (xs.drop v) w (by simp) rfl (h.drop v) (by omega) (fun x hx => hs x (List.mem_of_mem_drop hx)))
    have e : min (v : Int) (xs.length : Int) = v := by omega
    go_enter Try.func50, Try.ntmps50
    go_wp2_with fail
    refine H.out.mono ?_
    rintro e w' ⟨rfl, rfl⟩
    go_wp2
    go_ret
    exact ⟨rfl, rfl⟩
  · have H := Lib.hid (fun (o c' : Nat) => sumInts_n (n := 0) (s := tailW xs v) (some ⟨b, o, none⟩) c' [] w rfl (by rw [tailW_end _ _ hge]; simp) (.inl ⟨rfl, fun h => by cases h⟩) (by omega) (fun x hx => by cases hx))
    have e : min (v : Int) (xs.length : Int) = xs.length := by omega
    go_enter Try.func50, Try.ntmps50
    go_wp2_with fail
    all_goals
      refine (H.out _ _).mono ?_
      rintro e w' ⟨rfl, rfl⟩
      go_wp2
      go_ret
      exact ⟨rfl, rfl⟩

/-- What RevenueAt hands back. -/
def revF (xs : List Int) (p : Int) : Int := if (vW xs && inR p 0 6) = true then revW xs p.toNat else -1
theorem revF_yes {xs : List Int} {p : Nat} (h : vW xs = true) (hp : p ≤ 6) : revF xs p = revW xs p := by
  unfold revF; rw [h, inR_true.2 ⟨by omega, by omega⟩]; simp
theorem revF_bad {xs : List Int} {p : Int} (h : vW xs = false) : revF xs p = -1 := by unfold revF; rw [h]; simp
theorem revF_out {xs : List Int} {p : Int} (h : inR p 0 6 = false) : revF xs p = -1 := by unfold revF; rw [h]; simp
theorem vW_small {xs : List Int} (h : vW xs = true) : Small2 xs := fun x hx => by have := vW_mem h x hx; omega
theorem Rd.open1 {w : World} {A : Option Addr} {c : Nat} {xs : List Int} (h : Rd w A c xs) (h1 : 1 ≤ xs.length) : ∃ b off, A = some ⟨b, off, none⟩ := by
  rcases h with ⟨rfl, _⟩ | ⟨b, off, hA, _⟩
  · simp at h1
  · exact ⟨b, off, hA⟩
theorem rev_b {xs : List Int} (h : vW xs = true) (v : Nat) : 0 ≤ tailW xs v ∧ tailW xs v ≤ 36 := ⟨tailW_nn (vW_valid h) v, tailW_36 (vW_valid h) v⟩
theorem revW_nn {xs : List Int} (h : vW xs = true) (v : Nat) : 0 ≤ revW xs v := Int.mul_nonneg (by omega) (rev_b h v).1
theorem revW_le {xs : List Int} (h : vW xs = true) {v : Nat} (hv : v ≤ 6) : revW xs v ≤ 216 := by
  have h1 := rev_b h v
  have := Int.mul_le_mul (show (v : Int) ≤ 6 by omega) h1.2 h1.1 (by omega)
  unfold revW; omega

set_option maxHeartbeats 400000 in
theorem SRevenueAt_any (A : Option Addr) (c : Nat) (xs : List Int) (p : Int) (w : World) (h : Rd w A c xs) (hl : xs.length ≤ 1048576) :
    Calls Try.prog 17 #[.slice A xs.length c, .int .i64 p] w fun e w' => e = .returned (.int .i64 (revF xs p)) ∧ w = w' := by
  have hl2 : xs.length ≤ 1099511627776 := by omega
  have HV := Lib.hid (validWeights_any A c xs w h hl2)
  cases hv : vW xs with
  | false =>
    have HE := Lib.hid (revF_bad (p := p) hv)
    rw [hv] at HV
    clear hv
    go_enter Try.func17, Try.ntmps17
    go_wp2_with (refine HV.out.mono ?_; rintro e w1 ⟨rfl, rfl⟩)
    go_ret
    exact ⟨by rw [HE.out]; rfl, rfl⟩
  | true =>
    rw [hv] at HV
    cases hp : inR p 0 6 with
    | false =>
      have HE := Lib.hid (revF_out (xs := xs) hp)
      have HP := Lib.hid (inRange_any p 0 6 w)
      rw [hp] at HP
      clear hv hp
      go_enter Try.func17, Try.ntmps17
      go_wp2_with fail
      refine HV.out.mono ?_
      rintro e w1 ⟨rfl, rfl⟩
      go_wp2_with fail
      refine HP.out.mono ?_
      rintro e w1 ⟨rfl, rfl⟩
      go_wp2
      go_ret
      exact ⟨by rw [HE.out]; rfl, rfl⟩
    | true =>
      have hb := inR_true.1 hp
      obtain ⟨v, rfl⟩ : ∃ v : Nat, p = v := ⟨p.toNat, by omega⟩
      have HE := Lib.hid (revF_yes hv (show v ≤ 6 by omega))
      have HP := Lib.hid (inRange_any v 0 6 w)
      have HT := Lib.hid (tail_any A c xs v w h hl (by omega) (vW_small hv))
      have HR := Lib.hid (show revW xs v = v * tailW xs v from rfl)
      obtain ⟨b1, b2⟩ := rev_b hv v
      generalize tailW xs v = T at HT HR b1 b2
      rw [hp] at HP
      have b3 : 0 ≤ (v : Int) * T := Int.mul_nonneg (by omega) b1
      have b4 : (v : Int) * T ≤ 216 := by rw [← HR.out]; exact revW_le hv (by omega)
      clear hv hp
      go_enter Try.func17, Try.ntmps17
      go_wp2_with fail
      refine HV.out.mono ?_
      rintro e w1 ⟨rfl, rfl⟩
      go_wp2_with fail
      refine HP.out.mono ?_
      rintro e w1 ⟨rfl, rfl⟩
      go_wp2_with fail
      refine HT.out.mono ?_
      rintro e w1 ⟨rfl, rfl⟩
      go_wp2
      go_ret
      exact ⟨by rw [HE.out, HR.out]; rfl, rfl⟩

set_option maxHeartbeats 400000 in
theorem RevenueAt_any (A : Option Addr) (c : Nat) (xs : List Int) (p : Int) (w : World) (h : Rd w A c xs) (hc : xs.length ≤ c) (hl : xs.length ≤ 1048576) :
    Calls Try.prog 16 #[.slice A xs.length c, .int .i64 p] w fun e w' => e = .returned (.int .i64 (revF xs p)) ∧ w = w' := by
  have hl2 : xs.length ≤ 1099511627776 := by omega
  have HV := Lib.hid (ValidWeights_any A c xs w h hl2)
  cases hv : vW xs with
  | false =>
    have HE := Lib.hid (revF_bad (p := p) hv)
    rw [hv] at HV
    clear hv
    go_enter Try.func16, Try.ntmps16
    go_wp2_with (refine HV.out.mono ?_; rintro e w1 ⟨rfl, rfl⟩)
    go_ret
    exact ⟨by rw [HE.out]; rfl, rfl⟩
  | true =>
    rw [hv] at HV
    cases hp : inR p 0 6 with
    | false =>
      have HE := Lib.hid (revF_out (xs := xs) hp)
      have HP := Lib.hid (isEdge_any p w)
      rw [hp] at HP
      clear hv hp
      go_enter Try.func16, Try.ntmps16
      go_wp2_with fail
      refine HV.out.mono ?_
      rintro e w1 ⟨rfl, rfl⟩
      go_wp2_with fail
      refine HP.out.mono ?_
      rintro e w1 ⟨rfl, rfl⟩
      go_wp2
      go_ret
      exact ⟨by rw [HE.out]; rfl, rfl⟩
    | true =>
      have hb := inR_true.1 hp
      obtain ⟨v, rfl⟩ : ∃ v : Nat, p = v := ⟨p.toNat, by omega⟩
      obtain ⟨b, off, rfl⟩ := h.open1 (vW_le hv).1
      have HE := Lib.hid (revF_yes hv (show v ≤ 6 by omega))
      have HP := Lib.hid (isEdge_any v w)
      have HT := Lib.hid (manyFrom_any b off c xs v w h hc hl (by omega) (vW_small hv))
      have HR := Lib.hid (show revW xs v = v * tailW xs v from rfl)
      obtain ⟨b1, b2⟩ := rev_b hv v
      generalize tailW xs v = T at HT HR b1 b2
      rw [hp] at HP
      have b3 : 0 ≤ (v : Int) * T := Int.mul_nonneg (by omega) b1
      have b4 : (v : Int) * T ≤ 216 := by rw [← HR.out]; exact revW_le hv (by omega)
      clear hv hp
      go_enter Try.func16, Try.ntmps16
      go_wp2_with fail
      refine HV.out.mono ?_
      rintro e w1 ⟨rfl, rfl⟩
      go_wp2_with fail
      refine HP.out.mono ?_
      rintro e w1 ⟨rfl, rfl⟩
      go_wp2_with fail
      refine HT.out.mono ?_
      rintro e w1 ⟨rfl, rfl⟩
      go_wp2
      go_ret
      exact ⟨by rw [HE.out, HR.out]; rfl, rfl⟩

/-- The first of the prices below k that bring in most. -/
def bestG (xs : List Int) : Nat → Nat
  | 0 => 0
  | k + 1 => if revW xs (bestG xs k) < revW xs k then k else bestG xs k
theorem bestG_one (xs : List Int) : bestG xs 1 = 0 := by simp [bestG]
theorem bestG_lt (xs : List Int) : ∀ k, 1 ≤ k → bestG xs k < k
  | 1, _ => by rw [bestG_one]; omega
  | k + 2, _ => by have := bestG_lt xs (k + 1) (by omega); rw [bestG]; split <;> omega
theorem bestG_yes {xs : List Int} {k b : Nat} (hb : b = bestG xs k) (h : revW xs b < revW xs k) : k = bestG xs (k + 1) := by subst hb; rw [bestG, if_pos h]
theorem bestG_no {xs : List Int} {k b : Nat} (hb : b = bestG xs k) (h : ¬ revW xs b < revW xs k) : b = bestG xs (k + 1) := by subst hb; rw [bestG, if_neg h]
theorem bestG_more {xs : List Int} (h : vW xs = true) : ∀ d, bestG xs (xs.length + d) = bestG xs xs.length
  | 0 => rfl
  | d + 1 => by
    rw [← Nat.add_assoc, bestG, bestG_more h d, if_neg]
    have := revW_nn h (bestG xs xs.length)
    have e : revW xs (xs.length + d) = 0 := by unfold revW; rw [tailW_end _ _ (by omega)]; simp
    omega
theorem bestG_7 {xs : List Int} (h : vW xs = true) : bestG xs 7 = bestG xs xs.length := by
  have := vW_le h
  rw [← bestG_more h (7 - xs.length), show xs.length + (7 - xs.length) = 7 by omega]
theorem bestG_max (xs : List Int) : ∀ k u, u < k → revW xs u ≤ revW xs (bestG xs k)
  | 0, u, h => by omega
  | k + 1, u, h => by
    have := bestG_max xs k u
    rw [bestG]
    split
    · rcases Nat.eq_or_lt_of_le (show u ≤ k by omega) with rfl | h2
      · omega
      · have := this h2; omega
    · rcases Nat.eq_or_lt_of_le (show u ≤ k by omega) with rfl | h2
      · omega
      · exact this h2
theorem bestG_first (xs : List Int) : ∀ k u, u < bestG xs k → revW xs u < revW xs (bestG xs k)
  | 0, u, h => by rw [bestG] at h; omega
  | k + 1, u, h => by
    rw [bestG] at h ⊢
    split
    · rename_i hlt
      rw [if_pos hlt] at h
      have := bestG_max xs k u h
      omega
    · rename_i hge
      rw [if_neg hge] at h
      exact bestG_first xs k u h

/-- What BestPrice hands back. -/
def bestP (xs : List Int) : Int := if vW xs = true then bestG xs xs.length else -1

set_option maxHeartbeats 600000 in
theorem SbestPrice_any (A : Option Addr) (c : Nat) (xs : List Int) (w : World) (h : Rd w A c xs) (hv : vW xs = true) :
    Calls Try.prog 55 #[.slice A xs.length c] w fun e w' => e = .returned (.int .i64 (bestG xs xs.length)) ∧ w = w' := by
  obtain ⟨l1, l2⟩ := vW_le hv
  have HV := Lib.hid hv
  have HT := Lib.hid (fun v (hv' : v ≤ 6) => tail_any A c xs v w h (by omega) (by omega) (vW_small hv))
  clear hv
  go_enter Try.func55, Try.ntmps55
  go_wp2
  go_loop [3, 4] (fun s i => ∃ k : Nat, 1 ≤ k ∧ k ≤ xs.length ∧ i = .int .i64 k ∧ ∃ b : Nat, b < k ∧ s = .int .i64 b ∧ Hid (b = bestG xs k)) (fun _ i => xs.length - (intOf i).toNat)
  case atStart => exact ⟨1, Nat.le_refl _, l1, rfl, 0, by omega, rfl, Lib.hid (bestG_one xs).symm⟩
  case round =>
    obtain ⟨k, hk1, hk, rfl, b, hb, rfl, HB⟩ := hrel
    by_cases hlt : k < xs.length
    · obtain ⟨a1, a2⟩ := rev_b HV.out k
      obtain ⟨a3, a4⟩ := rev_b HV.out b
      have HTk := Lib.hid (HT.out k (by omega))
      have HTb := Lib.hid (HT.out b (by omega))
      have p1 := revW_nn HV.out k
      have p2 := revW_le HV.out (show k ≤ 6 by omega)
      have p3 := revW_nn HV.out b
      have p4 := revW_le HV.out (show b ≤ 6 by omega)
      have ek : revW xs k = k * tailW xs k := rfl
      have eb : revW xs b = b * tailW xs b := rfl
      have HY := Lib.hid (fun hh => bestG_yes (k := k) HB.out hh)
      have HN := Lib.hid (fun hh => bestG_no (k := k) HB.out hh)
      rw [ek] at p1 p2 HY HN
      rw [eb] at p3 p4 HY HN
      clear ek eb
      generalize tailW xs k = T at *
      generalize tailW xs b = U at *
      generalize hx : (k : Int) * T = X at *
      generalize hy : (b : Int) * U = Y at *
      have HX := Lib.hid hx
      have HYY := Lib.hid hy
      clear hx hy
      by_cases hgt : Y < X
      · have HE := Lib.hid (HY.out hgt)
        have hd : decide (X > Y) = true := by simpa using hgt
        rw [← HX.out, ← HYY.out] at hd
        rw [← HX.out] at p1 p2
        rw [← HYY.out] at p3 p4
        clear hgt HY HN
        go_wp2_with fail
        refine HTk.out.mono ?_
        rintro e w1 ⟨rfl, rfl⟩
        go_wp2_with fail
        refine HTb.out.mono ?_
        rintro e w1 ⟨rfl, rfl⟩
        go_wp2
        go_round
        case rel => exact ⟨k + 1, by omega, by omega, by go_num, k, by omega, rfl, HE⟩
        case measure => simp [intOf]; omega
      · have HE := Lib.hid (HN.out hgt)
        have hd : decide (X > Y) = false := by simpa using hgt
        rw [← HX.out, ← HYY.out] at hd
        rw [← HX.out] at p1 p2
        rw [← HYY.out] at p3 p4
        clear hgt HY HN
        go_wp2_with fail
        refine HTk.out.mono ?_
        rintro e w1 ⟨rfl, rfl⟩
        go_wp2_with fail
        refine HTb.out.mono ?_
        rintro e w1 ⟨rfl, rfl⟩
        go_wp2
        go_round
        case rel => exact ⟨k + 1, by omega, by omega, by go_num, b, by omega, rfl, HE⟩
        case measure => simp [intOf]; omega
    · obtain rfl : k = xs.length := by omega
      have HE := Lib.hid HB.out
      go_wp2
      go_ret
      exact ⟨by rw [HE.out]; rfl, rfl⟩

theorem SBestPrice_any (A : Option Addr) (c : Nat) (xs : List Int) (w : World) (h : Rd w A c xs) (hl : xs.length ≤ 1048576) :
    Calls Try.prog 21 #[.slice A xs.length c] w fun e w' => e = .returned (.int .i64 (bestP xs)) ∧ w = w' := by
  have HV := Lib.hid (validWeights_any A c xs w h (by omega))
  cases hv : vW xs with
  | false =>
    have HE := Lib.hid (show bestP xs = -1 by unfold bestP; rw [hv]; rfl)
    rw [hv] at HV
    clear hv
    go_enter Try.func21, Try.ntmps21
    go_wp2_with (refine HV.out.mono ?_; rintro e w1 ⟨rfl, rfl⟩)
    go_ret
    exact ⟨by rw [HE.out]; rfl, rfl⟩
  | true =>
    have HE := Lib.hid (show bestP xs = bestG xs xs.length by unfold bestP; rw [hv]; rfl)
    have HB := Lib.hid (SbestPrice_any A c xs w h hv)
    rw [hv] at HV
    clear hv
    go_enter Try.func21, Try.ntmps21
    go_wp2_with fail
    refine HV.out.mono ?_
    rintro e w1 ⟨rfl, rfl⟩
    go_wp2_with fail
    refine HB.out.mono ?_
    rintro e w1 ⟨rfl, rfl⟩
    go_wp2
    go_ret
    exact ⟨by rw [HE.out]; rfl, rfl⟩

set_option maxHeartbeats 600000 in
theorem BestPrice_any (A : Option Addr) (c : Nat) (xs : List Int) (w : World) (h : Rd w A c xs) (hc : xs.length ≤ c) (hl : xs.length ≤ 1048576) :
    Calls Try.prog 20 #[.slice A xs.length c] w fun e w' => e = .returned (.int .i64 (bestP xs)) ∧ w = w' := by
  have HV := Lib.hid (ValidWeights_any A c xs w h (by omega))
  cases hv : vW xs with
  | false =>
    have HE := Lib.hid (show bestP xs = -1 by unfold bestP; rw [hv]; rfl)
    rw [hv] at HV
    clear hv
    go_enter Try.func20, Try.ntmps20
    go_wp2_with (refine HV.out.mono ?_; rintro e w1 ⟨rfl, rfl⟩)
    go_ret
    exact ⟨by rw [HE.out]; rfl, rfl⟩
  | true =>
    have HE := Lib.hid (show bestP xs = bestG xs 7 by unfold bestP; rw [hv, bestG_7 hv]; rfl)
    have HR := Lib.hid (fun (p : Nat) (hp : p ≤ 6) => show Calls _ _ _ _ _ from (revF_yes hv hp) ▸ RevenueAt_any A c xs p w h hc hl)
    rw [hv] at HV
    have HVV := Lib.hid hv
    clear hv
    go_enter Try.func20, Try.ntmps20
    go_wp2_with fail
    refine HV.out.mono ?_
    rintro e w1 ⟨rfl, rfl⟩
    go_wp2
    go_loop [3, 8] (fun s i => ∃ k : Nat, k ≤ 7 ∧ i = .int .i64 k ∧ ∃ b : Nat, b ≤ k ∧ b ≤ 6 ∧ s = .int .i64 b ∧ Hid (b = bestG xs k)) (fun _ i => 7 - (intOf i).toNat)
    case atStart => exact ⟨0, by omega, rfl, 0, by omega, by omega, rfl, Lib.hid rfl⟩
    case round =>
      obtain ⟨k, hk, rfl, b, hb, hb6, rfl, HB⟩ := hrel
      by_cases hlt : k < 7
      · have HTk := Lib.hid (HR.out k (by omega))
        have HTb := Lib.hid (HR.out b (by omega))
        have HY := Lib.hid (fun hh => bestG_yes (k := k) HB.out hh)
        have HN := Lib.hid (fun hh => bestG_no (k := k) HB.out hh)
        generalize revW xs k = X at *
        generalize revW xs b = Y at *
        by_cases hgt : Y < X
        · have HE2 := Lib.hid (HY.out hgt)
          have hd : decide (X > Y) = true := by simpa using hgt
          clear hgt HY HN
          go_wp2_with fail
          refine HTk.out.mono ?_
          rintro e w1 ⟨rfl, rfl⟩
          go_wp2_with fail
          refine HTb.out.mono ?_
          rintro e w1 ⟨rfl, rfl⟩
          go_wp2
          go_round
          case rel => exact ⟨k + 1, by omega, by go_num, k, by omega, by omega, rfl, HE2⟩
          case measure => simp [intOf]; omega
        · have HE2 := Lib.hid (HN.out hgt)
          have hd : decide (X > Y) = false := by simpa using hgt
          clear hgt HY HN
          go_wp2_with fail
          refine HTk.out.mono ?_
          rintro e w1 ⟨rfl, rfl⟩
          go_wp2_with fail
          refine HTb.out.mono ?_
          rintro e w1 ⟨rfl, rfl⟩
          go_wp2
          go_round
          case rel => exact ⟨k + 1, by omega, by go_num, b, by omega, by omega, rfl, HE2⟩
          case measure => simp [intOf]; omega
      · obtain rfl : k = 7 := by omega
        have HE2 := Lib.hid HB.out
        go_wp2
        go_ret
        exact ⟨by rw [HE.out, ← HE2.out]; rfl, rfl⟩
end Go.Proofs.Ytoipjhdnmiomeaa
