/-
  Chapter 8: PairPrices of the program; both sides.
-/
import Derived.Test.YtkhpheebjkbihabNh
import Derived.Test.YtkhpheebjkbihabOy
import Derived.Deep.RegionWith
namespace Go.Proofs.Ytkhpheebjkbihab
open Go.RowKit

theorem shr_bit {S k : Nat} (hS : S < 16) (hk : k < 4) : bits .and .i64 ((S : Int) / (2 : Int) ^ k) 1 = bt S k := by
  have key : ∀ (S : Fin 16) (k : Fin 4), bits .and .i64 (((S.1 : Nat) : Int) / (2 : Int) ^ k.1) 1 = bt S.1 k.1 := by decide +kernel
  exact key ⟨S, hS⟩ ⟨k, hk⟩
set_option maxRecDepth 100000 in
set_option maxHeartbeats 2000000 in
theorem PairPrices_any (A : Option Addr) (c : Nat) (rows : List (List Int)) (w : World) (h : RdR w A c rows) (hl : rows.length ≤ 1099511627776) (hl2 : ∀ r ∈ rows, r.length ≤ 1099511627776) :
    Calls Try.prog 34 #[.slice A rows.length c] w (NewL w (pcL rows)) := by
  have HV := Lib.hid (ValidRows_any A c rows w h hl hl2)
  by_cases hv : VR rows
  case neg =>
    rw [vr_false hv] at HV
    have E1 := Lib.hid (pc_no hv)
    go_enter Try.func34, Try.ntmps34
    go_wp2_with fail
    refine HV.out.mono ?_
    rintro e w1 ⟨rfl, b1⟩
    go_wp2
    go_ret
    rw [E1.out]
    exact ⟨none, 0, rfl, own_none _ _, b1⟩
  rw [vr_true hv] at HV
  obtain ⟨hk, h12, h1, h4⟩ := hv.rk
  obtain ⟨b, off, A', c', rfl, hcell⟩ := row_headY h hv
  have E1 := Lib.hid (pc_yes hv)
  have hn1 := hv.1.1
  have hn4 := hv.1.2
  have hR := h
  clear hv h
  generalize (RW rows 0).length = m at *
  have HTM := Lib.hid (fun (B : Option Addr) (d : Nat) (L : List Int) (w1 : World) (hb : Below w.heap.size w w1) (hL : Rd w1 B d L) (ho : OnP m rows L) => scarceSet_any (some ⟨b, off, none⟩) B c d m rows L w1 (hR.below hb) hL hk h12 ho.1.1 h1 h4 hn4 (fun j => ⟨ho.1.2 j, by have := ho.2.2 j; have := pp_top h4 hk h12 hn4 j; simp only [P1] at *; omega⟩))
  have HNX := Lib.hid (fun (L : List Int) (h : OnP m rows L) (ht : tm m rows (P1 L) ≠ 0) => h.next h4 hk ht)
  have HST := Lib.hid (OnP.start h4 hk)
  have HTOP := Lib.hid (fun (L : List Int) (h : OnP m rows L) (j : Nat) => (by have := h.2.2 j; have := pp_top h4 hk h12 hn4 j; have := h.1.2 j; simp only [P1] at *; omega : 0 ≤ L.getD j 0 ∧ L.getD j 0 ≤ 48))
  have HTL := Lib.hid (fun (p : Nat → Int) => tm_lt m rows p)
  have HPL := Lib.hid ((pp_least h4 hk).1.1)
  have h16 := Nat.pow_le_pow_right (n := 2) (by omega) h4
  have HC := Lib.hid hcell
  clear hk h12 hR
  go_enter Try.func34, Try.ntmps34
  go_wp2_with fail
  refine HV.out.mono ?_
  rintro e w0 ⟨rfl, b0⟩
  have hcr := (b0.cell (p := ⟨b, off, none⟩) (World.block_lt_of_cell? w _ HC.out)).trans HC.out
  have hg0 : w.heap.size ≤ w0.heap.size := b0.size
  have HB0 := Lib.hid b0
  clear b0 HV
  go_wp2_with (at_make; refine wpList_make_ints rfl _ _ rfl w0.heap.size m rfl rfl (by omega) (Nat.le_refl _) ?_; intro w1 ho1' hb1')
  have ho1 : Own w1 w.heap.size (some ⟨w0.heap.size, 0, none⟩) m (List.replicate m 0) := ho1'.base hg0
  have hb1 : Below w.heap.size w w1 := HB0.out.trans (hb1'.mono hg0)
  clear ho1' hb1'
  have HB1 := Lib.hid hb1
  have HO1 := Lib.hid ho1
  have H1 := Lib.hid (HTM.out (some ⟨w0.heap.size, 0, none⟩) m (List.replicate m 0) w1 hb1 ho1.rd HST.out)
  obtain ⟨S0, hS0⟩ : ∃ S0, S0 = tm m rows (P1 (List.replicate m 0)) := ⟨_, rfl⟩
  rw [← hS0] at H1
  have HS0 := Lib.hid hS0
  clear ho1 hb1 hS0
  refine H1.out.mono ?_
  rintro e w2 ⟨rfl, b2⟩
  clear H1
  have HO2 : Hid (Own w2 w.heap.size (some ⟨w0.heap.size, 0, none⟩) m (List.replicate m 0)) := Lib.hid (HO1.out.below b2)
  have HB2 : Hid (Below w.heap.size w w2) := Lib.hid (HB1.out.trans (b2.mono HB1.out.size))
  clear HO1 HB1 b2
  go_wp2_with fail
  go_loopw [4] (fun s wr => ∃ (L : List Int) (S : Nat), s = .int .i64 (S : Int) ∧ Hid (S = tm m rows (P1 L)) ∧ Hid (OnP m rows L) ∧ Hid (Own wr w.heap.size (some ⟨w0.heap.size, 0, none⟩) m L) ∧ Hid (Below w.heap.size w wr)) (fun _ wr => 200 - prC wr w0.heap.size m)
  case atStart => exact ⟨List.replicate m 0, S0, rfl, HS0, HST, HO2, HB2⟩
  case round =>
    clear HO2 HB2
    obtain ⟨L, S, rfl, HS, HW, HO, HB⟩ := hrel
    have hLl : L.length = m := HW.out.1.1
    have hS16 : S < 2 ^ m := by rw [HS.out]; exact HTL.out _
    by_cases hs : S = 0
    · have HE := Lib.hid (HW.out.last (by rw [← HS.out]; exact hs))
      subst hs
      go_wp2
      go_ret
      rw [E1.out]
      refine ⟨some ⟨w0.heap.size, 0, none⟩, m, by rw [HPL.out]; rfl, ?_, HB.out⟩
      rw [← HE.out]; exact HO.out
    · have hsb : (((S : Nat) : Int) != 0) = true := pos_ne (by omega)
      have HW1 : Hid (OnP m rows (upL m L S)) := Lib.hid (by have := HNX.out L HW.out (by rw [← HS.out]; exact hs); rwa [← HS.out] at this)
      have HM1 : Hid (prC wr w0.heap.size m = prL L m) := Lib.hid (prC_own HO.out m (by omega))
      have HM2 : Hid (prL (upL m L S) m = prL L m + bts m S ∧ 1 ≤ bts m S ∧ prL (upL m L S) m ≤ 192) := Lib.hid ⟨prL_up HW.out.1 S m (Nat.le_refl _), bts_pos h4 hS16 (by omega), by
        have := prL_le (L := upL m L S) (C := 48) (fun j => by have := (HTOP.out _ HW1.out j).2; omega) m
        omega⟩
      have HO0 : Hid (Own wr w.heap.size (some ⟨w0.heap.size, 0, none⟩) m (upK m L S 0)) := Lib.hid (by rw [upK_zero hLl]; exact HO.out)
      have hS16b : S < 16 := by omega
      have HLL := Lib.hid hLl
      clear hs hLl hS16
      go_wp2_with fail
      go_loopw [24] (fun j wt => ∃ (k : Nat), k ≤ m ∧ j = .int .i64 (k : Int) ∧ Hid (Own wt w.heap.size (some ⟨w0.heap.size, 0, none⟩) m (upK m L S k)) ∧ Hid (Below w.heap.size w wt)) (fun j _ => m - (intOf j).toNat)
      case atStart => exact ⟨0, Nat.zero_le _, rfl, HO0, HB⟩
      case round =>
        obtain ⟨k, hkm, rfl, HO3, HB3⟩ := hrel
        by_cases hlt : k < m
        · have hshr := shr_bit hS16b (show k < 4 by omega)
          have hat : (upK m L S k)[k]? = some (L.getD k 0) := by rw [upK_at hlt, if_neg (by omega)]
          have hcg := HO3.out.cell hat
          have hfr := HO3.out.free k
          have hLb := HTOP.out L HW.out k
          have hbb := bt_bd S k
          have hset := upK_set (p := L) (S := S) hlt
          obtain ⟨x, hx⟩ : ∃ x, x = L.getD k 0 := ⟨_, rfl⟩
          obtain ⟨y, hy⟩ : ∃ y, y = bt S k := ⟨_, rfl⟩
          rw [← hx] at hcg hLb hset
          rw [← hy] at hshr hbb hset
          have hw1 : IntKind.i64.wrap (x + y) = x + y := IntWalk.i64_in _ (by omega)
          have HO' : Hid (∀ q, Own ((wr.setCell ⟨w0.heap.size, k, none⟩ (.int .i64 (x + y))).drewN q) w.heap.size (some ⟨w0.heap.size, 0, none⟩) m (upK m L S (k + 1))) := Lib.hid (fun q => by have h9 := HO3.out.set_ k (x + y); rw [hset] at h9; exact h9.drewN q)
          have HB' := Lib.hid (fun q => below_drewN' (HB3.out.setCell (p := ⟨w0.heap.size, k, none⟩) HO3.out.ge (.int .i64 (x + y))) q)
          clear hx hy hat hset hLb hbb
          go_wp2_with fail
          go_region_with (fail)
          all_goals
            go_wp2
            go_roundw
            case rel => exact ⟨k + 1, hlt, by go_num, Lib.hid (HO'.out 1), Lib.hid (HB'.out 1)⟩
            case measure => simp [intOf]; omega
        · obtain rfl : k = m := by omega
          have HO4 : Hid (Own wr w.heap.size (some ⟨w0.heap.size, 0, none⟩) k (upL k L S)) := Lib.hid (by rw [← upK_all]; exact HO3.out)
          have HT4 := Lib.hid (HTM.out (some ⟨w0.heap.size, 0, none⟩) k (upL k L S) wr HB3.out HO4.out.rd HW1.out)
          obtain ⟨S', hS'⟩ : ∃ S', S' = tm k rows (P1 (upL k L S)) := ⟨_, rfl⟩
          rw [← hS'] at HT4
          have HS' := Lib.hid hS'
          clear hS'
          go_wp2_with fail
          refine HT4.out.mono ?_
          rintro e w5 ⟨rfl, hb5⟩
          have HO5 := Lib.hid (HO4.out.below hb5)
          have HB5 := Lib.hid (HB3.out.trans (hb5.mono HB3.out.size))
          have HM3 : Hid (prC w5 w0.heap.size k = prL (upL k L S) k) := Lib.hid (prC_own HO5.out k (by rw [upL_len]; exact Nat.le_refl _))
          clear hb5
          go_wp2
          go_roundw
          case rel => exact ⟨upL k L S, S', rfl, HS', HW1, HO5, HB5⟩
          case measure => (have a1 := HM1.out; have a2 := HM2.out; have a3 := HM3.out; omega)

theorem pcL_len (rows : List (List Int)) : (pcL rows).length ≤ 1000 := by
  by_cases h : VR rows
  · rw [pc_yes h]
    obtain ⟨hk, _, _, h4⟩ := h.rk
    have := (pp_least h4 hk).1.1
    omega
  · rw [pc_no h]; simp
theorem PairPrices_both (rows : List (List Int)) : ∃ zs : List Int, zs.length ≤ 1000 ∧ (rows.length ≤ 1099511627776 → (∀ r ∈ rows, r.length ≤ 1099511627776) →
    (∀ A c w, RdR w A c rows → Calls Try.prog 35 #[.slice A rows.length c] w (NewL w zs)) ∧
    (∀ A c w, RdR w A c rows → Calls Try.prog 34 #[.slice A rows.length c] w (NewL w zs))) :=
  ⟨pcL rows, pcL_len rows, fun hl hl2 => ⟨fun A c w h => SPairPrices_any A c rows w h hl hl2, fun A c w h => PairPrices_any A c rows w h hl hl2⟩⟩
end Go.Proofs.Ytkhpheebjkbihab
