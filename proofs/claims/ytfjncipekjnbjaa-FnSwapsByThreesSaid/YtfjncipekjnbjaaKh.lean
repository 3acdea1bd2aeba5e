/-
  The laws of chapter 6: the walk of FnSwapsByThrees.
-/
import Derived.Test.YtfjncipekjnbjaaKg
import Derived.Deep.RegionHeld3
namespace Go.Proofs.Ytfjncipekjnbjaa
open Go.RowKit Go.Lib

theorem mod_div {n : Nat} (hn : n < 27) : ((n : Int)).tmod 3 = ((n % 3 : Nat) : Int) ∧ (IntKind.i64.wrap ((n : Int).tdiv 3)).tmod 3 = ((n / 3 % 3 : Nat) : Int) ∧ IntKind.i64.wrap ((n : Int).tdiv 9) = ((n / 9 : Nat) : Int) := by
  have : ∀ n, n < 27 → ((n : Nat) : Int).tmod 3 = ((n % 3 : Nat) : Int) ∧ (IntKind.i64.wrap (((n : Nat) : Int).tdiv 3)).tmod 3 = ((n / 3 % 3 : Nat) : Int) ∧ IntKind.i64.wrap (((n : Nat) : Int).tdiv 9) = ((n / 9 : Nat) : Int) := by decide +kernel
  exact this n hn
/-- The prices that the law tries. -/
def p3 (n : Nat) : List Int := [((n % 3 : Nat) : Int), ((n / 3 % 3 : Nat) : Int), ((n / 9 : Nat) : Int)]
def q3 (n k : Nat) : List Int := [((n % 3 : Nat) : Int) + 2 * ((k % 2 : Nat) : Int), ((n / 3 % 3 : Nat) : Int) + ((k / 2 % 2 : Nat) : Int), ((n / 9 : Nat) : Int) + 3 * ((k / 4 % 2 : Nat) : Int)]
theorem p3_vp {n : Nat} (hn : n < 27) : VP (p3 n) := ⟨rfl, fun k hk => by rcases nat3 hk with rfl | rfl | rfl <;> simp [p3, T] <;> omega⟩
theorem q3_vp {n k : Nat} (hn : n < 27) : VP (q3 n k) := ⟨rfl, fun j hj => by rcases nat3 hj with rfl | rfl | rfl <;> simp [q3, T] <;> omega⟩
theorem thr_keeps {t : List Int} (h : thB t = true) {n k : Nat} (hn : n < 27) : kdB t (p3 n) (q3 n k) = true := by
  have hm := thB_iff.1 h
  have A := modTri_mo hm.1.2.1 hm.2.1 hm.2.2
  have hu : ∀ j, j < 3 → T (p3 n) j ≤ T (q3 n k) j := fun j hj => by rcases nat3 hj with rfl | rfl | rfl <;> simp [p3, q3, T] <;> omega
  exact kdB_true ⟨hm.1, p3_vp hn, q3_vp hn, hu, kd_of A hu⟩

theorem rd_at0 {w : World} {b c : Nat} {zs : List Int} (h : Rd w (some ⟨b, 0, none⟩) c zs) (k : Nat) {x : Int} (hx : zs[k]? = some x) : w.cell? ⟨b, k, none⟩ = some (.int .i64 x) := by
  have hk : k < zs.length := by rcases Nat.lt_or_ge k zs.length with h1 | h1; exact h1; rw [List.getElem?_eq_none h1] at hx; cases hx
  obtain ⟨b', off, y, hA, _, hy, hc⟩ := h.at_ hk
  injection hA with hA
  injection hA with h1 h2
  subst h1 h2
  rw [Nat.zero_add] at hc
  rw [hc]
  have := hy.out
  rw [hx] at this
  injection this with this
  rw [this]

set_option maxHeartbeats 4000000 in
set_option maxRecDepth 100000 in
theorem fnSwapsByThrees_walk {A : Option Addr} {c : Nat} {xs : List Int} {w : World} (h : Came .u8 w A c xs) :
    Calls Try.prog 6 #[.slice A xs.length c] w fun e w' => e = .returned (.bool true) ∧ Below w.heap.size w w' := by
  by_cases hlen : 1048576 < xs.length
  · go_enter Try.func6, Try.ntmps6
    go_wp2
    go_ret
    exact ⟨rfl, Below.refl _ _⟩
  have HD := Lib.hid (DrawSwapsByThrees_any A c xs w h)
  have hl1 : xs.length ≤ 1048576 := by omega
  clear hlen h
  go_enter Try.func6, Try.ntmps6
  go_wp2_with fail
  refine HD.out.mono ?_
  rintro e w1 ⟨g, c1, t, rfl, hR, ht8, htc, b1⟩
  have hI := fun w' (h : Rd w' (some ⟨g, 0, none⟩) c1 t) => SwapsByThrees_any (some ⟨g, 0, none⟩) c1 t w' h (by omega)
  have hS := fun w' (h : Rd w' (some ⟨g, 0, none⟩) c1 t) => SSwapsByThrees_any (some ⟨g, 0, none⟩) c1 t w' h (by omega)
  have hK := fun w' (B : Option Addr) (d : Nat) (C : Option Addr) (f n k : Nat) (h : Rd w' (some ⟨g, 0, none⟩) c1 t) (h2 : Rd w' B d (p3 n)) (h3 : Rd w' C f (q3 n k)) => KeepsDemand_any (some ⟨g, 0, none⟩) B C c1 d f t (p3 n) (q3 n k) w' h h2 h3 (by omega)
  have hsay := fun (n k : Nat) (h : thB t = true) (hn : n < 27) => thr_keeps (k := k) h hn
  rcases hb : thB t with _ | _
  · rw [hb] at hI hS
    have HI := Lib.hid hI
    have HS := Lib.hid hS
    clear hI hS hb HD hK hsay
    go_wp2_with fail
    refine (HI.out w1 hR).mono ?_
    rintro e w2 ⟨rfl, b2⟩
    go_wp2_with fail
    refine (HS.out _ (hR.below b2)).mono ?_
    rintro e w3 ⟨rfl, b3⟩
    go_wp2_with fail
    refine (HS.out _ ((hR.below b2).below b3)).mono ?_
    rintro e w4 ⟨rfl, b4⟩
    go_wp2
    go_ret
    exact ⟨rfl, below_then (below_then (below_then b1 b2) b3) b4⟩
  · rw [hb] at hI hS
    have HI := Lib.hid hI
    have HS := Lib.hid hS
    have HKT := Lib.hid (fun w' (B : Option Addr) (d : Nat) (C : Option Addr) (f n k : Nat) (hn : n < 27) (h : Rd w' (some ⟨g, 0, none⟩) c1 t) (h2 : Rd w' B d (p3 n)) (h3 : Rd w' C f (q3 n k)) => (by have := hK w' B d C f n k h h2 h3; rw [hsay n k hb hn] at this; exact this : Calls Try.prog 33 #[.slice (some ⟨g, 0, none⟩) t.length c1, .slice B (p3 n).length d, .slice C (q3 n k).length f] w' fun e w'' => e = .returned (.bool true) ∧ Below w'.heap.size w' w''))
    clear hI hS hb HD hK hsay
    go_wp2_with fail
    refine (HI.out w1 hR).mono ?_
    rintro e w2 ⟨rfl, b2⟩
    go_wp2_with fail
    refine (HS.out _ (hR.below b2)).mono ?_
    rintro e w3 ⟨rfl, b3⟩
    have B3 := below_then (below_then b1 b2) b3
    have hR3 := (hR.below b2).below b3
    clear b1 b2 b3 hR HI HS
    go_wp2_with fail
    go_loopw [5] (fun nv wr => ∃ n : Nat, n ≤ 28 ∧ nv = .int .i64 (n : Int) ∧ Below w3.heap.size w3 wr) (fun nv _ => 28 - (intOf nv).toNat)
    case atStart => exact ⟨0, by omega, rfl, Below.refl _ _⟩
    case round =>
      obtain ⟨n, hn, rfl, hb⟩ := hrel
      by_cases hlt : n < 27
      · obtain ⟨e1, e2, e3⟩ := mod_div hlt
        have hn27 : (n : Int) < 27 := by omega
        have hn0 : (0 : Int) ≤ (n : Int) := by omega
        have HN := Lib.hid hlt
        obtain ⟨x, hx⟩ : ∃ x : Int, x = ((n % 3 : Nat) : Int) := ⟨_, rfl⟩
        obtain ⟨y, hy⟩ : ∃ y : Int, y = (n : Int) / 3 % 3 := ⟨_, rfl⟩
        obtain ⟨z, hz⟩ : ∃ z : Int, z = (n : Int) / 9 := ⟨_, rfl⟩
        have hxb : 0 ≤ x ∧ x ≤ 2 := by omega
        have hyb : 0 ≤ y ∧ y ≤ 2 := by omega
        have hzb : 0 ≤ z ∧ z ≤ 2 := by omega
        have HP3 : Hid (p3 n = [x, y, z]) := Lib.hid (by rw [hx, hy, hz, show (n : Int) / 3 % 3 = ((n / 3 % 3 : Nat) : Int) by omega, show (n : Int) / 9 = ((n / 9 : Nat) : Int) by omega]; rfl)
        have HQ3 : Hid (∀ k, q3 n k = [x + 2 * ((k % 2 : Nat) : Int), y + ((k / 2 % 2 : Nat) : Int), z + 3 * ((k / 4 % 2 : Nat) : Int)]) := Lib.hid (fun k => by rw [hx, hy, hz, show (n : Int) / 3 % 3 = ((n / 3 % 3 : Nat) : Int) by omega, show (n : Int) / 9 = ((n / 9 : Nat) : Int) by omega]; rfl)
        rw [← hx] at e1
        have HY := Lib.hid hy
        have HZ := Lib.hid hz
        clear hx hy hz hlt e2 e3
        have oP : Own (wr.alloc (.cells #[.int .i64 x, .int .i64 y, .int .i64 z] 3)) wr.heap.size (some ⟨wr.heap.size, 0, none⟩) 3 [x, y, z] := own_lit wr [x, y, z] (by simp)
        have BP : Below w3.heap.size w3 (wr.alloc (.cells #[.int .i64 x, .int .i64 y, .int .i64 z] 3)) := hb.alloc hb.size _
        obtain ⟨w5, hw5⟩ : ∃ w5, w5 = wr.alloc (.cells #[.int .i64 x, .int .i64 y, .int .i64 z] 3) := ⟨_, rfl⟩
        rw [← hw5] at oP BP
        have HW := Lib.hid hw5
        obtain ⟨S, hS⟩ : ∃ S, S = wr.heap.size := ⟨_, rfl⟩
        rw [← hS] at oP
        have HSS := Lib.hid hS
        have rP := Lib.hid oP.rd
        have hR5 := hR3.below BP
        clear hw5 oP hb hS
        go_wp2_with fail
        rw [← HY.out, ← HZ.out, ← HW.out, ← HSS.out]
        go_loopw [7] (fun kv wx => ∃ k : Nat, k ≤ 8 ∧ kv = .int .i64 (k : Int) ∧ Below w5.heap.size w5 wx) (fun kv _ => 8 - (intOf kv).toNat)
        case atStart => exact ⟨1, by omega, rfl, Below.refl _ _⟩
        case round =>
          obtain ⟨k, hk, rfl, hb⟩ := hrel
          by_cases hlt : k < 8
          · have hk8 : (k : Int) < 8 := by omega
            have rPx := rP.out.below hb
            have hRx := hR5.below hb
            have c0 : wr.cell? ⟨S, 0, none⟩ = some (.int .i64 x) := rd_at0 rPx 0 rfl
            have c1' : wr.cell? ⟨S, 1, none⟩ = some (.int .i64 y) := rd_at0 rPx 1 rfl
            have c2 : wr.cell? ⟨S, 2, none⟩ = some (.int .i64 z) := rd_at0 rPx 2 rfl
            have hb0 : ∀ w, Calls Try.prog 27 #[.int .i64 (k : Int), .int .i64 0] w fun e w' => e = .returned (.int .i64 ((k % 2 : Nat) : Int)) ∧ w = w' := fun w => by have := Lbit_any k 0 hlt (by omega) w; simpa using this
            have hb1 : ∀ w, Calls Try.prog 27 #[.int .i64 (k : Int), .int .i64 1] w fun e w' => e = .returned (.int .i64 ((k / 2 % 2 : Nat) : Int)) ∧ w = w' := fun w => by have := Lbit_any k 1 hlt (by omega) w; simpa using this
            have hb2 : ∀ w, Calls Try.prog 27 #[.int .i64 (k : Int), .int .i64 2] w fun e w' => e = .returned (.int .i64 ((k / 4 % 2 : Nat) : Int)) ∧ w = w' := fun w => by have := Lbit_any k 2 hlt (by omega) w; simpa using this
            have hqk := HQ3.out k
            obtain ⟨u0, hu0⟩ : ∃ u0 : Int, u0 = ((k % 2 : Nat) : Int) := ⟨_, rfl⟩
            obtain ⟨u1, hu1⟩ : ∃ u1 : Int, u1 = ((k / 2 % 2 : Nat) : Int) := ⟨_, rfl⟩
            obtain ⟨u2, hu2⟩ : ∃ u2 : Int, u2 = ((k / 4 % 2 : Nat) : Int) := ⟨_, rfl⟩
            have d0 : 0 ≤ u0 ∧ u0 ≤ 1 := by omega
            have d1 : 0 ≤ u1 ∧ u1 ≤ 1 := by omega
            have d2 : 0 ≤ u2 ∧ u2 ≤ 1 := by omega
            rw [← hu0, ← hu1, ← hu2] at hqk
            rw [← hu0] at hb0
            rw [← hu1] at hb1
            rw [← hu2] at hb2
            have HB0 := Lib.hid hb0
            have HB1 := Lib.hid hb1
            have HB2 := Lib.hid hb2
            have HQK := Lib.hid hqk
            have f0 : IntKind.i64.wrap (2 * u0) = 2 * u0 := IntWalk.i64_in _ (by omega)
            have f1 : IntKind.i64.wrap (x + 2 * u0) = x + 2 * u0 := IntWalk.i64_in _ (by omega)
            have f2 : IntKind.i64.wrap (y + u1) = y + u1 := IntWalk.i64_in _ (by omega)
            have f3 : IntKind.i64.wrap (3 * u2) = 3 * u2 := IntWalk.i64_in _ (by omega)
            have f4 : IntKind.i64.wrap (z + 3 * u2) = z + 3 * u2 := IntWalk.i64_in _ (by omega)
            have hk1 : k + 1 ≤ 8 := hlt
            clear hu0 hu1 hu2 d0 d1 d2 hb0 hb1 hb2 hqk hlt
            have hlw := World.block_lt_of_cell? wr _ c0
            have hbd := (Below.refl wr.heap.size wr).drew
            have oQ : Own (wr.alloc (.cells #[.int .i64 (x + 2 * u0), .int .i64 (y + u1), .int .i64 (z + 3 * u2)] 3)) wr.heap.size (some ⟨wr.heap.size, 0, none⟩) 3 [x + 2 * u0, y + u1, z + 3 * u2] := own_lit wr [x + 2 * u0, y + u1, z + 3 * u2] (by simp)
            have BQ : Below wr.heap.size wr (wr.alloc (.cells #[.int .i64 (x + 2 * u0), .int .i64 (y + u1), .int .i64 (z + 3 * u2)] 3)) := (Below.refl _ wr).alloc (Nat.le_refl _) _
            have rQ := Lib.hid oQ.rd
            have rPq := rd_at0 (rPx.below BQ) 0 rfl
            have rPq1 := rd_at0 (rPx.below BQ) 1 rfl
            have rPq2 := rd_at0 (rPx.below BQ) 2 rfl
            go_wp2_with fail
            go_region_held3 (fun W => W.cell? ⟨S, 0, none⟩ = some (.int .i64 x) ∧ W.cell? ⟨S, 1, none⟩ = some (.int .i64 y) ∧ W.cell? ⟨S, 2, none⟩ = some (.int .i64 z))
              (first | exact ⟨c0, c1', c2⟩ | exact ⟨rPq, rPq1, rPq2⟩ | fail)
              (first
              | (go_at_call 27; refine (HB0.out _).mono ?_; rintro e w6 ⟨rfl, rfl⟩)
              | (go_at_call 27; refine (HB1.out _).mono ?_; rintro e w6 ⟨rfl, rfl⟩)
              | (go_at_call 27; refine (HB2.out _).mono ?_; rintro e w6 ⟨rfl, rfl⟩)
              | fail)
            have BQD : Below w5.heap.size w5 (wr.alloc (.cells #[.int .i64 (x + 2 * u0), .int .i64 (y + u1), .int .i64 (z + 3 * u2)] 3)).drew := (below_then hb BQ).drew
            have HQR : Hid (Rd (wr.alloc (.cells #[.int .i64 (x + 2 * u0), .int .i64 (y + u1), .int .i64 (z + 3 * u2)] 3)).drew (some ⟨wr.heap.size, 0, none⟩) 3 (q3 n k)) := Lib.hid (by rw [HQK.out]; exact rQ.out)
            have HPR : Hid (Rd (wr.alloc (.cells #[.int .i64 (x + 2 * u0), .int .i64 (y + u1), .int .i64 (z + 3 * u2)] 3)).drew (some ⟨S, 0, none⟩) 3 (p3 n)) := Lib.hid (by rw [HP3.out]; exact rPx.below BQ.drew)
            have HTR : Hid (Rd (wr.alloc (.cells #[.int .i64 (x + 2 * u0), .int .i64 (y + u1), .int .i64 (z + 3 * u2)] 3)).drew (some ⟨g, 0, none⟩) c1 t) := Lib.hid (hRx.below BQ.drew)
            have HC := Lib.hid (HKT.out _ (some ⟨S, 0, none⟩) 3 (some ⟨wr.heap.size, 0, none⟩) 3 n k HN.out HTR.out HPR.out HQR.out)
            clear c0 c1' c2 rPq rPq1 rPq2 oQ BQ hbd f0 f1 f2 f3 f4
            go_wp2_with fail
            refine HC.out.mono ?_
            rintro e w7 ⟨rfl, b7⟩
            go_wp2
            go_roundw
            case rel => exact ⟨k + 1, hk1, by go_num, below_then BQD b7⟩
            case measure => simp [intOf]; omega
          · obtain rfl : k = 8 := by omega
            have BB := below_then BP hb
            go_wp2
            go_roundw
            case rel => exact ⟨n + 2, by omega, by go_num, BB⟩
            case measure => simp [intOf]; omega
      · have hn27 : ¬ (n : Int) < 27 := by omega
        go_wp2
        go_ret
        exact ⟨rfl, below_then B3 hb⟩

end Go.Proofs.Ytfjncipekjnbjaa
