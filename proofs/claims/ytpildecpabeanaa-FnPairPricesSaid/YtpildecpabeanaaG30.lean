/-
  Chapter 8, the model: PairPrices.
-/
import Derived.Test.YtpildecpabeanaaG28
import Derived.Test.YtpildecpabeanaaG23
import Derived.Test.YtpildecpabeanaaG04
import Derived.Deep.RegionWith
import Derived.Test.YtpildecpabeanaaG29
namespace Go.Proofs.Ytpildecpabeanaa
open Go.RowKit

/-- Prices of which the first k are one more for a set. -/
def upK (m : Nat) (p : List Int) (S k : Nat) : List Int := (List.range m).map (fun j => if j < k then p.getD j 0 + bt S j else p.getD j 0)
theorem upK_len (m : Nat) (p : List Int) (S k : Nat) : (upK m p S k).length = m := by simp [upK]
theorem upK_at {m : Nat} {p : List Int} {S k j : Nat} (hj : j < m) : (upK m p S k)[j]? = some (if j < k then p.getD j 0 + bt S j else p.getD j 0) := by simp [upK, hj]
theorem upK_zero {m : Nat} {p : List Int} (hp : p.length = m) (S : Nat) : upK m p S 0 = p := by
  apply List.ext_getElem?; intro j
  rcases Nat.lt_or_ge j m with h | h
  · rw [upK_at h, if_neg (by omega), List.getD_eq_getElem?_getD, List.getElem?_eq_getElem (by omega)]; rfl
  · rw [List.getElem?_eq_none (by rw [upK_len]; exact h), List.getElem?_eq_none (by omega)]
theorem upK_all (m : Nat) (p : List Int) (S : Nat) : upK m p S m = upL m p S := by
  apply List.ext_getElem?; intro j
  rcases Nat.lt_or_ge j m with h | h
  · rw [upK_at h, if_pos h]; simp [upL, h]
  · rw [List.getElem?_eq_none (by rw [upK_len]; exact h), List.getElem?_eq_none (by rw [upL_len]; exact h)]
theorem upK_set {m : Nat} {p : List Int} {S k : Nat} (hk : k < m) : (upK m p S k).set k (p.getD k 0 + bt S k) = upK m p S (k + 1) := by
  apply List.ext_getElem?; intro j
  rcases Nat.lt_or_ge j m with h | h
  · by_cases e : j = k
    · subst e
      rw [List.getElem?_set_self (by rw [upK_len]; exact h), upK_at h, if_pos (by omega)]
    · rw [List.getElem?_set_ne (fun e' => e e'.symm), upK_at h, upK_at h]
      by_cases hj : j < k
      · rw [if_pos hj, if_pos (by omega)]
      · rw [if_neg hj, if_neg (by omega)]
  · rw [List.getElem?_eq_none (by rw [List.length_set, upK_len]; exact h), List.getElem?_eq_none (by rw [upK_len]; exact h)]

/-- The sum of the prices, in memory and as a list. -/
def prC (w : World) (g : Nat) : Nat → Nat
  | 0 => 0
  | k + 1 => prC w g k + (intOf ((w.cell? ⟨g, k, none⟩).getD undef)).toNat
def prL (L : List Int) : Nat → Nat
  | 0 => 0
  | k + 1 => prL L k + (L.getD k 0).toNat
theorem prC_own {w : World} {B g c : Nat} {L : List Int} (h : Own w B (some ⟨g, 0, none⟩) c L) : ∀ k, k ≤ L.length → prC w g k = prL L k := by
  intro k
  induction k with
  | zero => intro _; rfl
  | succ k ih =>
    intro hk
    have e : L[k]? = some (L[k]'(by omega)) := List.getElem?_eq_getElem _
    rw [prC, prL, ih (by omega), h.cell e, List.getD_eq_getElem?_getD, e]
    rfl
theorem prL_up {m : Nat} {L : List Int} (h : PL m L) (S : Nat) : ∀ k, k ≤ m → prL (upL m L S) k = prL L k + bts k S := by
  intro k
  induction k with
  | zero => intro _; simp [prL, bts]
  | succ k ih =>
    intro hk
    have e : (upL m L S).getD k 0 = L.getD k 0 + bt S k := by simp [upL, List.getD_eq_getElem?_getD, show k < m by omega]
    have n0 : 0 ≤ L.getD k 0 := h.2 k
    rw [prL, prL, ih (by omega), e, show bts (k + 1) S = bts k S + S / 2 ^ k % 2 from rfl]
    unfold bt
    omega
theorem prL_le {L : List Int} {C : Nat} (h : ∀ j, L.getD j 0 ≤ C) : ∀ k, prL L k ≤ C * k := by
  intro k
  induction k with
  | zero => simp [prL]
  | succ k ih => have := h k; rw [prL, Nat.mul_succ]; omega
theorem bts_pos {m S : Nat} (hm : m ≤ 4) (hS : S < 2 ^ m) (h0 : 0 < S) : 1 ≤ bts m S := by
  have key : ∀ (m : Fin 5) (s : Fin 16), s.1 < 2 ^ m.1 → 0 < s.1 → 1 ≤ bts m.1 s.1 := by decide
  have h := Nat.pow_le_pow_right (n := 2) (by omega) hm
  exact key ⟨m, by omega⟩ ⟨S, by omega⟩ hS h0

/-- On the way of the climb. -/
def OnP (m : Nat) (rows : List (List Int)) (L : List Int) : Prop := PL m L ∧ clF m rows L = ppP m rows ∧ ∀ j, P1 L j ≤ P1 (ppP m rows) j
theorem OnP.start {m : Nat} (hm : m ≤ 4) {rows : List (List Int)} (hk : Rk m rows) : OnP m rows (List.replicate m 0) := by
  refine ⟨pl_zero m, rfl, fun j => ?_⟩
  have h0 := (pp_least hm hk).1.2 j
  have : P1 (List.replicate m (0 : Int)) j = 0 := by
    simp only [P1, List.getD_eq_getElem?_getD]
    rcases Nat.lt_or_ge j m with h | h
    · simp [h]
    · rw [List.getElem?_eq_none (by simpa using h)]; rfl
  omega
theorem OnP.next {m : Nat} (hm : m ≤ 4) {rows : List (List Int)} (hk : Rk m rows) {L : List Int} (h : OnP m rows L) (ht : tm m rows (P1 L) ≠ 0) : OnP m rows (upL m L (tm m rows (P1 L))) := by
  obtain ⟨a, b, _, _⟩ := pp_least hm hk
  refine ⟨h.1.up _, by rw [clF_step h.1 ht, h.2.1], fun j => ?_⟩
  rw [upL_at m _ h.1.1]
  exact tm_low hm h.1.nn a.nn (fun x hx => by rw [b]; exact pb_weak hm hk hx 0 (by omega)) h.2.2 ht j
theorem OnP.last {m : Nat} {rows : List (List Int)} {L : List Int} (h : OnP m rows L) (ht : tm m rows (P1 L) = 0) : L = ppP m rows := by rw [← h.2.1, clF_end ht]
theorem pp_top {m : Nat} (hm : m ≤ 4) {rows : List (List Int)} (hk : Rk m rows) (h12 : R12 rows) (hn : rows.length ≤ 4) : ∀ j, P1 (ppP m rows) j ≤ 48 := by
  obtain ⟨a, b, _, _⟩ := pp_least hm hk
  intro j
  have h1 := mp_ge hm hk a.nn b j
  have h2 : mpN m rows j ≤ 48 := by
    have := pb_top hk h12 0
    simp only [mpN]
    split
    · have := pb_nonneg hk (2 ^ j); unfold mpP; omega
    · omega
  omega

open Classical in
/-- The prices to which noughts climb, nil for others. -/
noncomputable def pcL (rows : List (List Int)) : List Int := if VR rows then ppP (RW rows 0).length rows else []
theorem pc_yes {rows : List (List Int)} (h : VR rows) : pcL rows = ppP (RW rows 0).length rows := by simp [pcL, h]
theorem pc_no {rows : List (List Int)} (h : ¬ VR rows) : pcL rows = [] := by simp [pcL, h]

set_option maxRecDepth 100000 in
set_option maxHeartbeats 2000000 in
theorem climbPairs_any (b off c m : Nat) (A' : Option Addr) (c' : Nat) (rows : List (List Int)) (w : World) (hR : RdR w (some ⟨b, off, none⟩) c rows) (hcell : w.cell? ⟨b, off, none⟩ = some (.slice A' m c')) (hk : Rk m rows) (h12 : R12 rows) (h1 : 1 ≤ m) (h4 : m ≤ 4) (hn1 : 1 ≤ rows.length) (hn4 : rows.length ≤ 4) :
    Calls Try.prog 106 #[.slice (some ⟨b, off, none⟩) rows.length c] w (NewL w (ppP m rows)) := by
  have HTM := Lib.hid (fun (B : Option Addr) (d : Nat) (L : List Int) (w1 : World) (hb : Below w.heap.size w w1) (hL : Rd w1 B d L) (ho : OnP m rows L) => tooMany_any (some ⟨b, off, none⟩) B c d m rows L w1 (hR.below hb) hL hk h12 ho.1.1 h4 hn4 (fun j => ⟨ho.1.2 j, by have := ho.2.2 j; have := pp_top h4 hk h12 hn4 j; simp only [P1] at *; omega⟩))
  have HNX := Lib.hid (fun (L : List Int) (h : OnP m rows L) (ht : tm m rows (P1 L) ≠ 0) => h.next h4 hk ht)
  have HST := Lib.hid (OnP.start h4 hk)
  have HTOP := Lib.hid (fun (L : List Int) (h : OnP m rows L) (j : Nat) => (by have := h.2.2 j; have := pp_top h4 hk h12 hn4 j; have := h.1.2 j; simp only [P1] at *; omega : 0 ≤ L.getD j 0 ∧ L.getD j 0 ≤ 48))
  have HTL := Lib.hid (fun (p : Nat → Int) => tm_lt m rows p)
  have HPL := Lib.hid ((pp_least h4 hk).1.1)
  have h16 := Nat.pow_le_pow_right (n := 2) (by omega) h4
  have HC := Lib.hid hcell
  clear hk h12 hR
  go_enter Try.func106, Try.ntmps106
  go_wp2_with (at_make; refine wpList_make_ints rfl _ _ rfl w.heap.size m rfl rfl (by omega) (Nat.le_refl _) ?_; intro w1 ho1 hb1)
  have HB1 := Lib.hid hb1
  have HO1 := Lib.hid ho1
  have H1 := Lib.hid (HTM.out (some ⟨w.heap.size, 0, none⟩) m (List.replicate m 0) w1 hb1 ho1.rd HST.out)
  obtain ⟨S0, hS0⟩ : ∃ S0, S0 = tm m rows (P1 (List.replicate m 0)) := ⟨_, rfl⟩
  rw [← hS0] at H1
  have HS0 := Lib.hid hS0
  clear ho1 hb1 hS0
  refine H1.out.mono ?_
  rintro e w2 ⟨rfl, n2, rfl⟩
  clear H1
  have HO2 : Hid (Own (w1.drewN n2) w.heap.size (some ⟨w.heap.size, 0, none⟩) m (List.replicate m 0)) := Lib.hid (HO1.out.drewN n2)
  have HB2 : Hid (Below w.heap.size w (w1.drewN n2)) := Lib.hid (below_drewN' HB1.out n2)
  clear HO1 HB1
  go_wp2_with fail
  go_loopw [4] (fun s wr => ∃ (L : List Int) (S : Nat), s = .int .i64 (S : Int) ∧ Hid (S = tm m rows (P1 L)) ∧ Hid (OnP m rows L) ∧ Hid (Own wr w.heap.size (some ⟨w.heap.size, 0, none⟩) m L) ∧ Hid (Below w.heap.size w wr)) (fun _ wr => 200 - prC wr w.heap.size m)
  case atStart => exact ⟨List.replicate m 0, S0, rfl, HS0, HST, HO2, HB2⟩
  case round =>
    clear HO2 HB2
    obtain ⟨L, S, rfl, HS, HW, HO, HB⟩ := hrel
    have hLl : L.length = m := HW.out.1.1
    have hS16 : S < 2 ^ m := by rw [HS.out]; exact HTL.out _
    by_cases hs : S = 0
    · have HE := Lib.hid (HW.out.last (by rw [← HS.out]; exact hs))
      subst hs
      go_wp2
      go_ret
      refine ⟨some ⟨w.heap.size, 0, none⟩, m, by rw [HPL.out]; rfl, ?_, HB.out⟩
      rw [← HE.out]; exact HO.out
    · have hsN : 0 < S := by omega
      have HW1 : Hid (OnP m rows (upL m L S)) := Lib.hid (by have := HNX.out L HW.out (by rw [← HS.out]; exact hs); rwa [← HS.out] at this)
      have HM1 : Hid (prC wr w.heap.size m = prL L m) := Lib.hid (prC_own HO.out m (by omega))
      have HM2 : Hid (prL (upL m L S) m = prL L m + bts m S ∧ 1 ≤ bts m S ∧ prL (upL m L S) m ≤ 192) := Lib.hid ⟨prL_up HW.out.1 S m (Nat.le_refl _), bts_pos h4 hS16 (by omega), by
        have := prL_le (L := upL m L S) (C := 48) (fun j => by have := (HTOP.out _ HW1.out j).2; omega) m
        omega⟩
      have HO0 : Hid (Own wr w.heap.size (some ⟨w.heap.size, 0, none⟩) m (upK m L S 0)) := Lib.hid (by rw [upK_zero hLl]; exact HO.out)
      have hS16b : S < 16 := by omega
      have HLL := Lib.hid hLl
      clear hs hLl hS16
      go_wp2_with fail
      go_loopw [5] (fun j wt => ∃ (k : Nat), k ≤ m ∧ j = .int .i64 (k : Int) ∧ Hid (Own wt w.heap.size (some ⟨w.heap.size, 0, none⟩) m (upK m L S k)) ∧ Hid (Below w.heap.size w wt)) (fun j _ => m - (intOf j).toNat)
      case atStart => exact ⟨0, Nat.zero_le _, rfl, HO0, HB⟩
      case round =>
        obtain ⟨k, hkm, rfl, HO3, HB3⟩ := hrel
        by_cases hlt : k < m
        · have HBit : Hid (∀ w1, Calls Try.prog 139 #[.int .i64 (S : Int), .int .i64 (k : Int)] w1 fun e w' => e = .returned (.int .i64 (bt S k)) ∧ w1 = w') := Lib.hid (fun w1 => Sbit4_any S k hS16b (by omega) w1)
          have hat : (upK m L S k)[k]? = some (L.getD k 0) := by rw [upK_at hlt, if_neg (by omega)]
          have hcg := HO3.out.cell hat
          have hfr := HO3.out.free k
          have hLb := HTOP.out L HW.out k
          have hbb := bt_bd S k
          have hset := upK_set (p := L) (S := S) hlt
          obtain ⟨x, hx⟩ : ∃ x, x = L.getD k 0 := ⟨_, rfl⟩
          obtain ⟨y, hy⟩ : ∃ y, y = bt S k := ⟨_, rfl⟩
          rw [← hx] at hcg hLb hset
          rw [← hy] at HBit hbb hset
          have hw1 : IntKind.i64.wrap (x + y) = x + y := IntWalk.i64_in _ (by omega)
          have HO' : Hid (∀ q, Own ((wr.setCell ⟨w.heap.size, k, none⟩ (.int .i64 (x + y))).drewN q) w.heap.size (some ⟨w.heap.size, 0, none⟩) m (upK m L S (k + 1))) := Lib.hid (fun q => by have h9 := HO3.out.set_ k (x + y); rw [hset] at h9; exact h9.drewN q)
          have HB' := Lib.hid (fun q => below_drewN' (HB3.out.setCell (p := ⟨w.heap.size, k, none⟩) (Nat.le_refl _) (.int .i64 (x + y))) q)
          clear hx hy hat hset hLb hbb
          go_wp2_with fail
          go_region_with (go_at_call 139; refine (HBit.out _).mono ?_; rintro e w6 ⟨rfl, rfl⟩)
          all_goals
            go_wp2
            go_roundw
            case rel => exact ⟨k + 1, hlt, by go_num, Lib.hid (HO'.out 1), Lib.hid (HB'.out 1)⟩
            case measure => simp [intOf]; omega
        · obtain rfl : k = m := by omega
          have HO4 : Hid (Own wr w.heap.size (some ⟨w.heap.size, 0, none⟩) k (upL k L S)) := Lib.hid (by rw [← upK_all]; exact HO3.out)
          have HT4 := Lib.hid (HTM.out (some ⟨w.heap.size, 0, none⟩) k (upL k L S) wr HB3.out HO4.out.rd HW1.out)
          obtain ⟨S', hS'⟩ : ∃ S', S' = tm k rows (P1 (upL k L S)) := ⟨_, rfl⟩
          rw [← hS'] at HT4
          have HS' := Lib.hid hS'
          clear hS'
          go_wp2_with fail
          refine HT4.out.mono ?_
          rintro e w5 ⟨rfl, n5, hw5⟩
          have hb5 : Below wr.heap.size wr w5 := by rw [hw5]; exact below_drewN' (Below.refl _ _) n5
          clear hw5
          have HO5 := Lib.hid (HO4.out.below hb5)
          have HB5 := Lib.hid (HB3.out.trans (hb5.mono HB3.out.size))
          have HM3 : Hid (prC w5 w.heap.size k = prL (upL k L S) k) := Lib.hid (prC_own HO5.out k (by rw [upL_len]; exact Nat.le_refl _))
          clear hb5
          go_wp2
          go_roundw
          case rel => exact ⟨upL k L S, S', rfl, HS', HW1, HO5, HB5⟩
          case measure => (have a1 := HM1.out; have a2 := HM2.out; have a3 := HM3.out; omega)

theorem row_headY {rows : List (List Int)} {w : World} {A : Option Addr} {c : Nat} (h : RdR w A c rows) (hv : VR rows) : ∃ b off A' c', A = some ⟨b, off, none⟩ ∧ w.cell? ⟨b, off, none⟩ = some (.slice A' (RW rows 0).length c') := by
  obtain ⟨b, off, r, A', c', rfl, hr, hc, _, _⟩ := h.at_ (k := 0) (by have := hv.1; omega)
  rw [rw_of hr.out]
  exact ⟨b, off, A', c', rfl, by simpa using hc⟩
set_option maxHeartbeats 400000 in
theorem SPairPrices_any (A : Option Addr) (c : Nat) (rows : List (List Int)) (w : World) (h : RdR w A c rows) (hl : rows.length ≤ 1099511627776) (hl2 : ∀ r ∈ rows, r.length ≤ 1099511627776) :
    Calls Try.prog 47 #[.slice A rows.length c] w (NewL w (pcL rows)) := by
  have HV := Lib.hid (validRows_any A c rows w h hl hl2)
  by_cases hv : VR rows
  · obtain ⟨hk, h12, hm1, hm4⟩ := hv.rk
    obtain ⟨b, off, A', c', rfl, hc⟩ := row_headY h hv
    have HC := Lib.hid (fun n => climbPairs_any b off c _ A' c' rows (w.drewN n) (h.drewN n) hc hk h12 hm1 hm4 hv.1.1 hv.1.2)
    have E1 := Lib.hid (pc_yes hv)
    rw [vr_true hv] at HV
    clear hv hk h12 hm1 hm4 hc h
    go_enter Try.func47, Try.ntmps47
    go_wp2_with fail
    refine HV.out.mono ?_
    rintro e w1 ⟨rfl, n, rfl⟩
    go_wp2_with fail
    refine (HC.out n).mono ?_
    rintro e w2 ⟨A2, c2, rfl, o2, b2⟩
    go_wp2
    go_ret
    rw [E1.out]
    exact ⟨A2, c2, rfl, o2, (below_drewN' (Below.refl _ _) n).trans b2⟩
  · rw [vr_false hv] at HV
    have E1 := Lib.hid (pc_no hv)
    go_enter Try.func47, Try.ntmps47
    go_wp2_with fail
    refine HV.out.mono ?_
    rintro e w1 ⟨rfl, n, rfl⟩
    go_wp2
    go_ret
    rw [E1.out]
    exact ⟨none, 0, rfl, own_none _ _, below_drewN' (Below.refl _ _) n⟩
end Go.Proofs.Ytpildecpabeanaa

/-
  Chapter 8: PairPrices of the program; both sides.
-/
namespace Go.Proofs.Ytpildecpabeanaa
open Go.RowKit

theorem shr_bit {S k : Nat} (hS : S < 16) (hk : k < 4) : bits .and .i64 ((S : Int) / (2 : Int) ^ k) 1 = bt S k := by
  have key : ∀ (S : Fin 16) (k : Fin 4), bits .and .i64 (((S.1 : Nat) : Int) / (2 : Int) ^ k.1) 1 = bt S.1 k.1 := by decide +kernel
  exact key ⟨S, hS⟩ ⟨k, hk⟩
set_option maxRecDepth 100000 in
set_option maxHeartbeats 2000000 in
theorem PairPrices_any (A : Option Addr) (c : Nat) (rows : List (List Int)) (w : World) (h : RdR w A c rows) (hl : rows.length ≤ 1099511627776) (hl2 : ∀ r ∈ rows, r.length ≤ 1099511627776) :
    Calls Try.prog 46 #[.slice A rows.length c] w (NewL w (pcL rows)) := by
  have HV := Lib.hid (ValidRows_any A c rows w h hl hl2)
  by_cases hv : VR rows
  case neg =>
    rw [vr_false hv] at HV
    have E1 := Lib.hid (pc_no hv)
    go_enter Try.func46, Try.ntmps46
    go_wp2_with fail
    refine HV.out.mono ?_
    rintro e w1 ⟨rfl, b1⟩
    go_wp2
    go_ret
    rw [E1.out]
    exact ⟨none, 0, rfl, own_none _ _, b1⟩
  rw [vr_true hv] at HV
  obtain ⟨hk, h12, h1, h4⟩ := hv.rk
  obtain ⟨b, off, A', c', rfl, hcell⟩ := row_headY h hv
  have E1 := Lib.hid (pc_yes hv)
  have hn1 := hv.1.1
  have hn4 := hv.1.2
  have hR := h
  clear hv h
  generalize (RW rows 0).length = m at *
  have HTM := Lib.hid (fun (B : Option Addr) (d : Nat) (L : List Int) (w1 : World) (hb : Below w.heap.size w w1) (hL : Rd w1 B d L) (ho : OnP m rows L) => scarceSet_any (some ⟨b, off, none⟩) B c d m rows L w1 (hR.below hb) hL hk h12 ho.1.1 h1 h4 hn4 (fun j => ⟨ho.1.2 j, by have := ho.2.2 j; have := pp_top h4 hk h12 hn4 j; simp only [P1] at *; omega⟩))
  have HNX := Lib.hid (fun (L : List Int) (h : OnP m rows L) (ht : tm m rows (P1 L) ≠ 0) => h.next h4 hk ht)
  have HST := Lib.hid (OnP.start h4 hk)
  have HTOP := Lib.hid (fun (L : List Int) (h : OnP m rows L) (j : Nat) => (by have := h.2.2 j; have := pp_top h4 hk h12 hn4 j; have := h.1.2 j; simp only [P1] at *; omega : 0 ≤ L.getD j 0 ∧ L.getD j 0 ≤ 48))
  have HTL := Lib.hid (fun (p : Nat → Int) => tm_lt m rows p)
  have HPL := Lib.hid ((pp_least h4 hk).1.1)
  have h16 := Nat.pow_le_pow_right (n := 2) (by omega) h4
  have HC := Lib.hid hcell
  clear hk h12 hR
  go_enter Try.func46, Try.ntmps46
  go_wp2_with fail
  refine HV.out.mono ?_
  rintro e w0 ⟨rfl, b0⟩
  have hcr := (b0.cell (p := ⟨b, off, none⟩) (World.block_lt_of_cell? w _ HC.out)).trans HC.out
  have hg0 : w.heap.size ≤ w0.heap.size := b0.size
  have HB0 := Lib.hid b0
  clear b0 HV
  go_wp2_with (at_make; refine wpList_make_ints rfl _ _ rfl w0.heap.size m rfl rfl (by omega) (Nat.le_refl _) ?_; intro w1 ho1' hb1')
  have ho1 : Own w1 w.heap.size (some ⟨w0.heap.size, 0, none⟩) m (List.replicate m 0) := ho1'.base hg0
  have hb1 : Below w.heap.size w w1 := HB0.out.trans (hb1'.mono hg0)
  clear ho1' hb1'
  have HB1 := Lib.hid hb1
  have HO1 := Lib.hid ho1
  have H1 := Lib.hid (HTM.out (some ⟨w0.heap.size, 0, none⟩) m (List.replicate m 0) w1 hb1 ho1.rd HST.out)
  obtain ⟨S0, hS0⟩ : ∃ S0, S0 = tm m rows (P1 (List.replicate m 0)) := ⟨_, rfl⟩
  rw [← hS0] at H1
  have HS0 := Lib.hid hS0
  clear ho1 hb1 hS0
  refine H1.out.mono ?_
  rintro e w2 ⟨rfl, b2⟩
  clear H1
  have HO2 : Hid (Own w2 w.heap.size (some ⟨w0.heap.size, 0, none⟩) m (List.replicate m 0)) := Lib.hid (HO1.out.below b2)
  have HB2 : Hid (Below w.heap.size w w2) := Lib.hid (HB1.out.trans (b2.mono HB1.out.size))
  clear HO1 HB1 b2
  go_wp2_with fail
  go_loopw [4] (fun s wr => ∃ (L : List Int) (S : Nat), s = .int .i64 (S : Int) ∧ Hid (S = tm m rows (P1 L)) ∧ Hid (OnP m rows L) ∧ Hid (Own wr w.heap.size (some ⟨w0.heap.size, 0, none⟩) m L) ∧ Hid (Below w.heap.size w wr)) (fun _ wr => 200 - prC wr w0.heap.size m)
  case atStart => exact ⟨List.replicate m 0, S0, rfl, HS0, HST, HO2, HB2⟩
  case round =>
    clear HO2 HB2
    obtain ⟨L, S, rfl, HS, HW, HO, HB⟩ := hrel
    have hLl : L.length = m := HW.out.1.1
    have hS16 : S < 2 ^ m := by rw [HS.out]; exact HTL.out _
    by_cases hs : S = 0
    · have HE := Lib.hid (HW.out.last (by rw [← HS.out]; exact hs))
      subst hs
      go_wp2
      go_ret
      rw [E1.out]
      refine ⟨some ⟨w0.heap.size, 0, none⟩, m, by rw [HPL.out]; rfl, ?_, HB.out⟩
      rw [← HE.out]; exact HO.out
    · have hsb : (((S : Nat) : Int) != 0) = true := pos_ne (by omega)
      have HW1 : Hid (OnP m rows (upL m L S)) := Lib.hid (by have := HNX.out L HW.out (by rw [← HS.out]; exact hs); rwa [← HS.out] at this)
      have HM1 : Hid (prC wr w0.heap.size m = prL L m) := Lib.hid (prC_own HO.out m (by omega))
      have HM2 : Hid (prL (upL m L S) m = prL L m + bts m S ∧ 1 ≤ bts m S ∧ prL (upL m L S) m ≤ 192) := Lib.hid ⟨prL_up HW.out.1 S m (Nat.le_refl _), bts_pos h4 hS16 (by omega), by
        have := prL_le (L := upL m L S) (C := 48) (fun j => by have := (HTOP.out _ HW1.out j).2; omega) m
        omega⟩
      have HO0 : Hid (Own wr w.heap.size (some ⟨w0.heap.size, 0, none⟩) m (upK m L S 0)) := Lib.hid (by rw [upK_zero hLl]; exact HO.out)
      have hS16b : S < 16 := by omega
      have HLL := Lib.hid hLl
      clear hs hLl hS16
      go_wp2_with fail
      go_loopw [24] (fun j wt => ∃ (k : Nat), k ≤ m ∧ j = .int .i64 (k : Int) ∧ Hid (Own wt w.heap.size (some ⟨w0.heap.size, 0, none⟩) m (upK m L S k)) ∧ Hid (Below w.heap.size w wt)) (fun j _ => m - (intOf j).toNat)
      case atStart => exact ⟨0, Nat.zero_le _, rfl, HO0, HB⟩
      case round =>
        obtain ⟨k, hkm, rfl, HO3, HB3⟩ := hrel
        by_cases hlt : k < m
        · have hshr := shr_bit hS16b (show k < 4 by omega)
          have hat : (upK m L S k)[k]? = some (L.getD k 0) := by rw [upK_at hlt, if_neg (by omega)]
          have hcg := HO3.out.cell hat
          have hfr := HO3.out.free k
          have hLb := HTOP.out L HW.out k
          have hbb := bt_bd S k
          have hset := upK_set (p := L) (S := S) hlt
          obtain ⟨x, hx⟩ : ∃ x, x = L.getD k 0 := ⟨_, rfl⟩
          obtain ⟨y, hy⟩ : ∃ y, y = bt S k := ⟨_, rfl⟩
          rw [← hx] at hcg hLb hset
          rw [← hy] at hshr hbb hset
          have hw1 : IntKind.i64.wrap (x + y) = x + y := IntWalk.i64_in _ (by omega)
          have HO' : Hid (∀ q, Own ((wr.setCell ⟨w0.heap.size, k, none⟩ (.int .i64 (x + y))).drewN q) w.heap.size (some ⟨w0.heap.size, 0, none⟩) m (upK m L S (k + 1))) := Lib.hid (fun q => by have h9 := HO3.out.set_ k (x + y); rw [hset] at h9; exact h9.drewN q)
          have HB' := Lib.hid (fun q => below_drewN' (HB3.out.setCell (p := ⟨w0.heap.size, k, none⟩) HO3.out.ge (.int .i64 (x + y))) q)
          clear hx hy hat hset hLb hbb
          go_wp2_with fail
          go_region_with (fail)
          all_goals
            go_wp2
            go_roundw
            case rel => exact ⟨k + 1, hlt, by go_num, Lib.hid (HO'.out 1), Lib.hid (HB'.out 1)⟩
            case measure => simp [intOf]; omega
        · obtain rfl : k = m := by omega
          have HO4 : Hid (Own wr w.heap.size (some ⟨w0.heap.size, 0, none⟩) k (upL k L S)) := Lib.hid (by rw [← upK_all]; exact HO3.out)
          have HT4 := Lib.hid (HTM.out (some ⟨w0.heap.size, 0, none⟩) k (upL k L S) wr HB3.out HO4.out.rd HW1.out)
          obtain ⟨S', hS'⟩ : ∃ S', S' = tm k rows (P1 (upL k L S)) := ⟨_, rfl⟩
          rw [← hS'] at HT4
          have HS' := Lib.hid hS'
          clear hS'
          go_wp2_with fail
          refine HT4.out.mono ?_
          rintro e w5 ⟨rfl, hb5⟩
          have HO5 := Lib.hid (HO4.out.below hb5)
          have HB5 := Lib.hid (HB3.out.trans (hb5.mono HB3.out.size))
          have HM3 : Hid (prC w5 w0.heap.size k = prL (upL k L S) k) := Lib.hid (prC_own HO5.out k (by rw [upL_len]; exact Nat.le_refl _))
          clear hb5
          go_wp2
          go_roundw
          case rel => exact ⟨upL k L S, S', rfl, HS', HW1, HO5, HB5⟩
          case measure => (have a1 := HM1.out; have a2 := HM2.out; have a3 := HM3.out; omega)

theorem pcL_len (rows : List (List Int)) : (pcL rows).length ≤ 1000 := by
  by_cases h : VR rows
  · rw [pc_yes h]
    obtain ⟨hk, _, _, h4⟩ := h.rk
    have := (pp_least h4 hk).1.1
    omega
  · rw [pc_no h]; simp
theorem PairPrices_both (rows : List (List Int)) : ∃ zs : List Int, zs.length ≤ 1000 ∧ (rows.length ≤ 1099511627776 → (∀ r ∈ rows, r.length ≤ 1099511627776) →
    (∀ A c w, RdR w A c rows → Calls Try.prog 47 #[.slice A rows.length c] w (NewL w zs)) ∧
    (∀ A c w, RdR w A c rows → Calls Try.prog 46 #[.slice A rows.length c] w (NewL w zs))) :=
  ⟨pcL rows, pcL_len rows, fun hl hl2 => ⟨fun A c w h => SPairPrices_any A c rows w h hl hl2, fun A c w h => PairPrices_any A c rows w h hl hl2⟩⟩
end Go.Proofs.Ytpildecpabeanaa
