/-
  Chapter 2: the contracts at arguments that are valid, and at others, as the laws use them; the law of reserves.
-/
import Derived.Test.YtoipjhdnmiomeaaDp
import Derived.Test.YtoipjhdnmiomeaaFnVirt
namespace Go.Proofs.Ytoipjhdnmiomeaa
open Go.RowKit

section
variable (A : Option Addr) (c : Nat) (xs : List Int) (n : Nat) (r : Int)
theorem crowd_ok {xs : List Int} {n : Nat} {r : Int} (hv : vW xs = true) (h1 : 1 ≤ n) (h3 : n ≤ 3) (hr0 : 0 ≤ r) (hr1 : r ≤ 6) : crowdB xs n r = true := by
  unfold crowdB
  rw [hv, inR_true.2 ⟨by omega, by omega⟩, inR_true.2 ⟨hr0, hr1⟩]; rfl
theorem ER_yes (E : Int) (w : World) (hE : E = edgeV xs n r) (h : Rd w A c xs) (hv : vW xs = true) (h1 : 1 ≤ n) (h3 : n ≤ 3) (hr0 : 0 ≤ r) (hr1 : r ≤ 6) (hl : xs.length ≤ 1048576) :
    Calls Try.prog 33 #[.slice A xs.length c, .int .i64 n, .int .i64 r] w (AnsIs w (.int .i64 E)) := by
  have e : edgeO xs n r = E := by unfold edgeO; rw [crowd_ok hv h1 h3 hr0 hr1, hE]; rfl
  exact e ▸ EdgeRevenue_any A c xs n r w h hl
theorem SER_yes (E : Int) (w : World) (hE : E = edgeV xs n r) (h : Rd w A c xs) (hv : vW xs = true) (h1 : 1 ≤ n) (h3 : n ≤ 3) (hr0 : 0 ≤ r) (hr1 : r ≤ 6) (hl : xs.length ≤ 1048576) :
    Calls Try.prog 34 #[.slice A xs.length c, .int .i64 n, .int .i64 r] w (AnsIs w (.int .i64 E)) := by
  have e : edgeO xs n r = E := by unfold edgeO; rw [crowd_ok hv h1 h3 hr0 hr1, hE]; rfl
  exact e ▸ SEdgeRevenue_any A c xs n r w h hl
theorem virtR_yes {xs : List Int} {n : Nat} {r E : Int} (hE : E = edgeV xs n r) (hv : vW xs = true) (h1 : 1 ≤ n) (h3 : n ≤ 3) (hr0 : 0 ≤ r) (hr1 : r ≤ 6) : virtR xs n r = .tuple #[frV E 1, .bool true] := by
  unfold virtR
  rw [crowd_ok hv h1 h3 hr0 hr1]
  show qV (sumV xs (virtG xs r) n) = _
  obtain ⟨e1, e2⟩ := edge_frac hv h1 h3 hr0 (FrIs.self (sumV xs (virtG xs r) n))
  unfold qV
  rw [e1, e2, hE]
theorem VR_yes (E : Int) (w : World) (hE : E = edgeV xs n r) (h : Rd w A c xs) (hv : vW xs = true) (h1 : 1 ≤ n) (h3 : n ≤ 3) (hr0 : 0 ≤ r) (hr1 : r ≤ 6) (hcc : xs.length ≤ c) (hl : xs.length ≤ 1048576) :
    Calls Try.prog 35 #[.slice A xs.length c, .int .i64 n, .int .i64 r] w (AnsIs w (.tuple #[frV E 1, .bool true])) :=
  virtR_yes hE hv h1 h3 hr0 hr1 ▸ VirtualRevenue_any A c xs n r w h hcc hl
theorem SVR_yes (E : Int) (w : World) (hE : E = edgeV xs n r) (h : Rd w A c xs) (hv : vW xs = true) (h1 : 1 ≤ n) (h3 : n ≤ 3) (hr0 : 0 ≤ r) (hr1 : r ≤ 6) (hl : xs.length ≤ 1048576) :
    Calls Try.prog 38 #[.slice A xs.length c, .int .i64 n, .int .i64 r] w (AnsIs w (.tuple #[frV E 1, .bool true])) :=
  virtR_yes hE hv h1 h3 hr0 hr1 ▸ SVirtualRevenue_any A c xs n r w h hl
theorem bestR_yes {xs : List Int} {n : Nat} {x y : Int} (hq : FrIs (sumV xs (ironG xs) n) x y) (hv : vW xs = true) (h1 : 1 ≤ n) (h3 : n ≤ 3) : bestR xs n = .tuple #[frV x y, .bool true] := by
  unfold bestR
  rw [crowd_ok hv h1 h3 (by omega) (by omega)]
  show qV (sumV xs (ironG xs) n) = _
  unfold qV
  rw [hq.1, hq.2]
theorem BR_yes (x y : Int) (w : World) (hq : FrIs (sumV xs (ironG xs) n) x y) (h : Rd w A c xs) (hv : vW xs = true) (h1 : 1 ≤ n) (h3 : n ≤ 3) (hcc : xs.length ≤ c) (hl : xs.length ≤ 1048576) :
    Calls Try.prog 36 #[.slice A xs.length c, .int .i64 n] w (AnsIs w (.tuple #[frV x y, .bool true])) :=
  bestR_yes hq hv h1 h3 ▸ BestRevenue_any A c xs n w h hcc hl
theorem SBR_yes (x y : Int) (w : World) (hq : FrIs (sumV xs (ironG xs) n) x y) (h : Rd w A c xs) (hv : vW xs = true) (h1 : 1 ≤ n) (h3 : n ≤ 3) (hl : xs.length ≤ 1048576) :
    Calls Try.prog 40 #[.slice A xs.length c, .int .i64 n] w (AnsIs w (.tuple #[frV x y, .bool true])) :=
  bestR_yes hq hv h1 h3 ▸ SBestRevenue_any A c xs n w h hl
theorem BP_yes (P : Int) (w : World) (hP : P = (bestG xs xs.length : Nat)) (h : Rd w A c xs) (hv : vW xs = true) (hcc : xs.length ≤ c) (hl : xs.length ≤ 1048576) :
    Calls Try.prog 20 #[.slice A xs.length c] w (AnsIs w (.int .i64 P)) := by
  have e : bestP xs = P := by unfold bestP; rw [hv, hP]; rfl
  exact (BestPrice_any A c xs w h hcc hl).mono fun _ _ hh => e ▸ AnsIs.of_same hh
end

/-- If the weights are regular no reserve brings in more than the best price. -/
theorem reserve_help {xs : List Int} {n : Nat} {r : Int} (hr : regB xs = true) (hv : vW xs = true) (h1 : 1 ≤ n) (h3 : n ≤ 3) (hr0 : 0 ≤ r) : edgeV xs n r ≤ edgeV xs n (bestG xs xs.length : Nat) := by
  rw [← Rat.intCast_le_intCast, ← best_reg hr hv h1 h3]
  exact edge_best hv h1 h3 hr0

theorem noV_is : noV = .tuple #[frV 0 0, .bool false] := rfl

set_option maxRecDepth 100000 in
set_option maxHeartbeats 4000000 in
theorem fnReservesHelp_walk {A : Option Addr} {c : Nat} {xs : List Int} {w : World} (h : Came .u8 w A c xs) :
    Calls Try.prog 12 #[.slice A xs.length c] w fun e w' => e = .returned (.bool true) ∧ Below w.heap.size w w' := by
  by_cases hlen : 1048576 < xs.length
  · go_enter Try.func12, Try.ntmps12
    go_wp2
    go_ret
    exact ⟨rfl, Below.refl _ _⟩
  have hl0 : xs.length ≤ 1048576 := by omega
  clear hlen
  go_enter Try.func12, Try.ntmps12
  go_wp2_with fail
  refine (DrawVirtualRevenue_any A c xs w h).mono ?_
  rintro e w1 ⟨A1, c1, ys, n, r, rfl, hrd, hcc, hy, _, _, _, _, B1⟩
  have hy1 : ys.length ≤ 1048576 := by omega
  clear h hl0
  cases hc : crowdB ys n r with
  | false =>
    have HI := Lib.hid (fun w h => VirtualRevenue_any A1 c1 ys n r w h hcc hy1)
    have HS := Lib.hid (fun w h => SVirtualRevenue_any A1 c1 ys n r w h hy1)
    have HE := Lib.hid (fun w h => EdgeRevenue_any A1 c1 ys n r w h hy1)
    have e1 : virtR ys n r = .tuple #[frV 0 0, .bool false] := by unfold virtR; rw [hc]; rfl
    have e2 : edgeO ys n r = -1 := by unfold edgeO; rw [hc]; rfl
    rw [e1] at HI HS
    rw [e2] at HE
    clear hc e1 e2
    go_wp2_with fail
    refine (HI.out _ hrd).mono ?_
    rintro e w2 ⟨rfl, b2⟩
    unfold frV
    have hk2 := PairAt.new (w := w2) (x := 0) (y := 0)
    have hr2 := (hrd.below b2).below (below_al w2 (.cells #[.int .i64 0, .int .i64 0] 30))
    have B2 := below_up (B1.trans (b2.mono B1.size)) (below_al w2 (.cells #[.int .i64 0, .int .i64 0] 30))
    go_wp2_with fail
    refine (HS.out _ hr2).mono ?_
    rintro e w3 ⟨rfl, b3⟩
    have hk3 := (hk2.below b3).old (.cells #[.int .i64 0, .int .i64 0] 30)
    have hd3 := PairAt.new (w := w3) (x := 0) (y := 0)
    have hr3 := (hr2.below b3).below (below_al w3 (.cells #[.int .i64 0, .int .i64 0] 30))
    have B3 := below_up (below_up B2 b3) (below_al w3 (.cells #[.int .i64 0, .int .i64 0] 30))
    obtain ⟨c0, c1', f0, f1⟩ := hk3.facts
    obtain ⟨c2, c3, f2, f3⟩ := hd3.facts
    unfold frV
    go_wp2_with fail
    refine (HE.out _ hr3).mono ?_
    rintro e w4 ⟨rfl, b4⟩
    have B4 := below_up B3 b4
    go_wp2
    go_ret
    exact ⟨rfl, B4⟩
  | true =>
    obtain ⟨hv, hn, hr⟩ := crowd_yes hc
    obtain ⟨n0, n1⟩ := inR_true.1 hn
    obtain ⟨r0, r1⟩ := inR_true.1 hr
    obtain ⟨m, rfl⟩ := Int.eq_ofNat_of_zero_le (show 0 ≤ n by omega)
    have hm1 : 1 ≤ m := by omega
    have hm3 : m ≤ 3 := by omega
    obtain ⟨l1, l2⟩ := vW_le hv
    have hpl := bestG_lt ys ys.length l1
    obtain ⟨E, hE⟩ : ∃ E, E = edgeV ys m r := ⟨_, rfl⟩
    obtain ⟨P, hP⟩ : ∃ P : Int, P = (bestG ys ys.length : Nat) := ⟨_, rfl⟩
    obtain ⟨F, hF⟩ : ∃ F, F = edgeV ys m P := ⟨_, rfl⟩
    have hP0 : 0 ≤ P ∧ P ≤ 6 := by omega
    have hE0 : 0 ≤ E := by rw [hE]; exact (edgeV_nn hv hm1 hm3 r0).1
    have HI := Lib.hid (fun w h => VR_yes A1 c1 ys m r E w hE h hv hm1 hm3 r0 r1 hcc hy1)
    have HS := Lib.hid (fun w h => SVR_yes A1 c1 ys m r E w hE h hv hm1 hm3 r0 r1 hy1)
    have HE := Lib.hid (fun w h => ER_yes A1 c1 ys m r E w hE h hv hm1 hm3 r0 r1 hy1)
    have HE2 := Lib.hid (fun w h => ER_yes A1 c1 ys m P F w hF h hv hm1 hm3 hP0.1 hP0.2 hy1)
    have HBP := Lib.hid (fun w h => BP_yes A1 c1 ys P w hP h hv hcc hy1)
    have HRG := Lib.hid (fun w h => IsRegular_any A1 c1 ys w h hcc hy1)
    have hlt0 : decide (E < 0) = false := by simp; omega
    have HLE := Lib.hid (fun (hrg : regB ys = true) => show E ≤ F by rw [hE, hF, hP]; exact reserve_help hrg hv hm1 hm3 r0)
    clear hc hv hn hr hE hP hF
    go_wp2_with fail
    refine (HI.out _ hrd).mono ?_
    rintro e w2 ⟨rfl, b2⟩
    unfold frV
    have hk2 := PairAt.new (w := w2) (x := E) (y := 1)
    have hr2 := (hrd.below b2).below (below_al w2 (.cells #[.int .i64 E, .int .i64 1] 30))
    have B2 := below_up (B1.trans (b2.mono B1.size)) (below_al w2 (.cells #[.int .i64 E, .int .i64 1] 30))
    go_wp2_with fail
    refine (HS.out _ hr2).mono ?_
    rintro e w3 ⟨rfl, b3⟩
    have hk3 := (hk2.below b3).old (.cells #[.int .i64 E, .int .i64 1] 30)
    have hd3 := PairAt.new (w := w3) (x := E) (y := 1)
    have hr3 := (hr2.below b3).below (below_al w3 (.cells #[.int .i64 E, .int .i64 1] 30))
    have B3 := below_up (below_up B2 b3) (below_al w3 (.cells #[.int .i64 E, .int .i64 1] 30))
    obtain ⟨c0, c1', f0, f1⟩ := hk3.facts
    obtain ⟨c2, c3, f2, f3⟩ := hd3.facts
    unfold frV
    go_wp2_with fail
    refine (HE.out _ hr3).mono ?_
    rintro e w4 ⟨rfl, b4⟩
    have hr4 := hr3.below b4
    have B4 := below_up B3 b4
    clear hk2 hk3 hd3 c0 c1' f0 f1 c2 c3 f2 f3
    cases hrg : regB ys with
    | false =>
      rw [hrg] at HRG
      clear hrg
      go_wp2_with fail
      refine (HRG.out _ hr4).mono ?_
      rintro e w5 ⟨rfl, b5⟩
      go_wp2
      go_ret
      exact ⟨rfl, below_up B4 b5⟩
    | true =>
      have hle := HLE.out hrg
      have hge : decide (E ≤ F) = true := by simpa using hle
      rw [hrg] at HRG
      clear hrg hle
      go_wp2_with fail
      refine (HRG.out _ hr4).mono ?_
      rintro e w5 ⟨rfl, b5⟩
      go_wp2_with fail
      refine (HBP.out _ (hr4.below b5)).mono ?_
      rintro e w6 ⟨rfl, b6⟩
      go_wp2_with fail
      refine (HE2.out _ ((hr4.below b5).below b6)).mono ?_
      rintro e w7 ⟨rfl, b7⟩
      go_wp2
      go_ret
      exact ⟨rfl, below_up (below_up (below_up B4 b5) b6) b7⟩
end Go.Proofs.Ytoipjhdnmiomeaa
