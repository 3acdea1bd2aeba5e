/-
  Chapter 3, the model: the contracts of PivotUnits, PushedUnits, EachUnits.
-/
import Derived.Test.YtkkdffmpeadinaaUq
import Derived.Deep.RegionLaw
namespace Go.Proofs.Ytkkdffmpeadinaa
open Go.RowKit

theorem SPushedUnits_no (A : Option Addr) (c : Nat) (rows : List (List Int)) (k : Int) (w : World) (hR : RdR w A c rows) (hl : rows.length ≤ 1099511627776) (hl2 : ∀ r ∈ rows, r.length ≤ 1099511627776) (hf : fuB rows k = false) :
    Calls Try.prog 29 #[.slice A rows.length c, .int .i64 k] w (AnsIs w []) := by
  have HC := Lib.hid (validUnits_any A c rows k w hR hl hl2)
  rw [hf] at HC
  clear hf
  go_enter Try.func29, Try.ntmps29
  go_wp2_with (go_at_call 53; refine HC.out.mono ?_; rintro e w1 ⟨rfl, m, rfl⟩)
  go_ret
  exact ⟨none, 0, rfl, own_none _ _, below_drewN' (Below.refl _ _) _⟩
theorem SEachUnits_no (A : Option Addr) (c : Nat) (rows : List (List Int)) (k : Int) (w : World) (hR : RdR w A c rows) (hl : rows.length ≤ 1099511627776) (hl2 : ∀ r ∈ rows, r.length ≤ 1099511627776) (hf : fuB rows k = false) :
    Calls Try.prog 32 #[.slice A rows.length c, .int .i64 k] w (AnsIs w []) := by
  have HC := Lib.hid (validUnits_any A c rows k w hR hl hl2)
  rw [hf] at HC
  clear hf
  go_enter Try.func32, Try.ntmps32
  go_wp2_with (go_at_call 53; refine HC.out.mono ?_; rintro e w1 ⟨rfl, m, rfl⟩)
  go_ret
  exact ⟨none, 0, rfl, own_none _ _, below_drewN' (Below.refl _ _) _⟩

theorem nthG_bd {xs : List Int} (h : ∀ x ∈ xs, 0 ≤ x ∧ x ≤ 30) (m : Nat) : 0 ≤ nthG m xs ∧ nthG m xs ≤ 30 := by
  rcases Nat.lt_or_ge m xs.length with hm | hm
  · obtain ⟨y, hy⟩ := at_some (xs := (srtU xs).reverse) (k := m) (by rw [List.length_reverse, srtU_len]; exact hm)
    rw [big_nth hy]
    have h1 := List.mem_reverse.1 (List.mem_of_getElem? hy)
    exact h y ((List.mergeSort_perm xs _).mem_iff.1 h1)
  · rw [nthG_behind m xs hm]; omega
theorem VD.butNums {rows : List (List Int)} (hv : VD rows) (i : Nat) : ∀ x ∈ (butOf rows i).flatten, 0 ≤ x ∧ x ≤ 30 := by
  intro x hx
  rw [List.mem_flatten] at hx
  obtain ⟨r, hr, hxr⟩ := hx
  obtain ⟨q, hq, rfl⟩ := List.getElem_of_mem hxr
  have := (hv.2 r (but_mem hr)).2 q _ (List.getElem?_eq_getElem hq)
  omega
theorem VD.butFew {rows : List (List Int)} (hv : VD rows) {i : Nat} (hi : i < rows.length) : (butOf rows i).flatten.length ≤ 20 := by
  have h1 := flat_len (rows := butOf rows i) (M := 5) (fun r hr => (hv.2 r (but_mem hr)).1)
  have h2 := but_len hi
  have h3 := hv.1.2
  omega

/-- What is pushed out, by the model. -/
def spuF (rows : List (List Int)) (k i : Nat) : Int := sumTo (fun n => nthG (k - aw (RW rows) rows.length k i + n) (butOf rows i).flatten) (aw (RW rows) rows.length k i)

set_option maxHeartbeats 2000000 in
theorem SPushedUnits_yes (A : Option Addr) (c k : Nat) (rows : List (List Int)) (w : World) (hR : RdR w A c rows) (hv : VD rows) (hk : k ≤ 5) :
    Calls Try.prog 29 #[.slice A rows.length c, .int .i64 k] w (ValsIs w (spuF rows k) rows.length) := by
  have hl : rows.length ≤ 4 := hv.1.2
  have HC := Lib.hid (validUnits_any A c rows k w hR (by have := hv.1; omega) hv.lens)
  rw [fuB_yes hv hk] at HC
  have HA := Lib.hid (fun n => award_yes A c rows k (w.drewN n) (hR.drewN n) hv hk)
  have HV := Lib.hid hv
  obtain ⟨h, hh⟩ : ∃ h, h = aw (RW rows) rows.length k := ⟨_, rfl⟩
  have hhk : ∀ j, h j ≤ k := fun j => by rw [hh]; exact aw_le k j
  rw [← hh] at HA
  obtain ⟨f, hf⟩ : ∃ f, f = spuF rows k := ⟨_, rfl⟩
  rw [← hf]
  have HF : Hid (∀ i, f i = sumTo (fun n => nthG (k - h i + n) (butOf rows i).flatten) (h i)) := Lib.hid (fun i => by rw [hf, hh]; rfl)
  have HK := Lib.hid hhk
  clear hv hh hf hhk
  go_enter Try.func29, Try.ntmps29
  go_wp2_with fail
  refine HC.out.mono ?_
  rintro e w0 ⟨rfl, m, rfl⟩
  go_wp2_with fail
  refine (HA.out m).mono ?_
  rintro e w1 ⟨g, d, rfl, o1, b1⟩
  have B1 : Below w.heap.size w w1 := (below_drewN' (Below.refl _ w) m).trans b1
  have B2 := B1.alloc B1.size (.cells #[] 3)
  have HH2 : Hid (Own (w1.alloc (.cells #[] 3)) w.heap.size (some ⟨g, 0, none⟩) d (lst h rows.length)) := Lib.hid (o1.below ((Below.refl _ _).alloc (Nat.le_refl _) _))
  have HO2 : Hid (Own (w1.alloc (.cells #[] 3)) w1.heap.size (some ⟨w1.heap.size, 0, none⟩) 0 (vls f 0)) := Lib.hid (own_new_ints _)
  have hgl : g < w1.heap.size := o1.lt
  have hws : w.heap.size ≤ w1.heap.size := B1.size
  obtain ⟨S, hS⟩ : ∃ S, S = w1.heap.size := ⟨_, rfl⟩
  rw [← hS] at HO2 hgl hws
  clear o1 b1 B1
  go_wp2
  rw [← hS]
  clear hS
  go_loopw [6, 7] (fun o i wr => ∃ (j g2 c2 : Nat), j ≤ rows.length ∧ i = .int .i64 j ∧ o = .slice (some ⟨g2, 0, none⟩) j c2 ∧ Hid (Own wr S (some ⟨g2, 0, none⟩) c2 (vls f j)) ∧ Hid (Own wr w.heap.size (some ⟨g, 0, none⟩) d (lst h rows.length)) ∧ Below w.heap.size w wr) (fun _ i _ => rows.length - (intOf i).toNat)
  case atStart => exact ⟨0, S, 0, Nat.zero_le _, rfl, rfl, HO2, HH2, B2⟩
  case round =>
    obtain ⟨j, g2, c2, hj, rfl, rfl, HO, HG, hb⟩ := hrel
    by_cases hlt : j < rows.length
    · have HAL := allOf_any A c rows (j : Int) wr (hR.below hb) HV.out
      rw [allTo_others hlt] at HAL
      obtain ⟨F, hF⟩ : ∃ F, F = (butOf rows j).flatten := ⟨_, rfl⟩
      rw [← hF] at HAL
      have HAL := Lib.hid HAL
      have HFL : Hid (F.length ≤ 20) := Lib.hid (by rw [hF]; exact HV.out.butFew hlt)
      have HFM : Hid (∀ x ∈ F, 0 ≤ x ∧ x ≤ 30) := Lib.hid (by rw [hF]; exact HV.out.butNums j)
      obtain ⟨t, ht⟩ : ∃ t, t = h j := ⟨_, rfl⟩
      have htk : t ≤ k := by rw [ht]; exact HK.out j
      obtain ⟨e, he⟩ : ∃ e, e = k - t := ⟨_, rfl⟩
      have hke : (k : Int) - (t : Int) = (e : Int) := by omega
      have hek : e ≤ k := by omega
      have hwe : IntKind.i64.wrap (e : Int) = (e : Int) := IntWalk.i64_in _ (by omega)
      have HFE : Hid (f j = sumTo (fun n => nthG (e + n) F) t) := Lib.hid (by rw [HF.out, hF, he, ht])
      have hgj : ∀ wx, Own wx w.heap.size (some ⟨g, 0, none⟩) d (lst h rows.length) → wx.cell? ⟨g, j, none⟩ = some (.int .i64 (t : Int)) := fun wx ho => by rw [ht]; exact ho.cell (lst_at hlt)
      have HGJ := Lib.hid hgj
      clear hF ht he hgj
      go_wp2_with fail
      refine HAL.out.mono ?_
      rintro e0 w5 ⟨g5, c5, rfl, o5, b5⟩
      have B5 := hb.trans (b5.mono hb.size)
      have HO5 := Lib.hid (HO.out.below b5)
      have HG5 := Lib.hid (HG.out.below b5)
      have HX5 := Lib.hid o5.rd
      have hs5 := b5.size
      have HS5 : Hid (S ≤ w5.heap.size) := Lib.hid (Nat.le_trans (Nat.le_of_lt (Nat.lt_of_le_of_lt HO.out.ge HO.out.lt)) hs5)
      clear o5 b5 hs5
      obtain ⟨L, hL⟩ : ∃ L, L = F.length := ⟨_, rfl⟩
      rw [← hL]
      have HLE := Lib.hid hL.symm
      clear hL
      go_wp2
      go_loopw [9, 10] (fun o i wr2 => ∃ (q : Nat) (y : Int), q ≤ t ∧ i = .int .i64 q ∧ o = .int .i64 y ∧ Hid (y = sumTo (fun n => nthG (e + n) F) q) ∧ Below w5.heap.size w5 wr2) (fun _ i _ => t - (intOf i).toNat)
      case atStart => exact ⟨0, 0, Nat.zero_le _, rfl, rfl, Lib.hid rfl, Below.refl _ _⟩
      case round =>
        obtain ⟨q, y, hq, rfl, rfl, HY, hb6⟩ := hrel
        have hc := HGJ.out _ (HG5.out.below hb6)
        by_cases hql : q < t
        · obtain ⟨p, hp⟩ : ∃ p, p = e + q := ⟨_, rfl⟩
          have HN := Lib.hid (nth_n (some ⟨g5, 0, none⟩) c5 L F p wr HLE.out (HX5.out.below hb6) (by have := HFL.out; have := HLE.out; omega) (by omega))
          have hnb := nthG_bd HFM.out p
          obtain ⟨x, hx⟩ : ∃ x, x = nthG p F := ⟨_, rfl⟩
          rw [← hx] at HN hnb
          have hx0 := hnb.1
          have hx1 := hnb.2
          have hyb : 0 ≤ y ∧ y ≤ 30 * q := by
            rw [HY.out]
            have h1 := sumTo_nn (f := fun n => nthG (e + n) F) (n := q) (fun i _ => (nthG_bd HFM.out (e + i)).1)
            have h2 := sumTo_le (f := fun n => nthG (e + n) F) (g := fun _ => 30) (n := q) (fun i _ => (nthG_bd HFM.out (e + i)).2)
            rw [sumTo_const] at h2
            omega
          have hy0 := hyb.1
          have hy1 : y ≤ 1000 := by omega
          have HY2 : Hid (y + x = sumTo (fun n => nthG (e + n) F) (q + 1)) := Lib.hid (by rw [HY.out, hx, hp]; rfl)
          have heq : (e : Int) + (q : Int) = (p : Int) := by omega
          have hwp : IntKind.i64.wrap (p : Int) = (p : Int) := IntWalk.i64_in _ (by omega)
          have hB5 : Below w5.heap.size w5 wr := hb6
          clear hnb hyb hx hp
          go_wp2_with fail
          refine HN.out.mono ?_
          rintro e0 w7 ⟨rfl, b7⟩
          have B7 := hB5.trans (b7.mono hB5.size)
          clear b7
          go_wp2
          go_roundw
          case rel => exact ⟨q + 1, _, by omega, by go_num, rfl, HY2, B7⟩
          case measure => simp [intOf]; omega
        · obtain rfl : q = t := by omega
          have HFV : Hid (y = f j) := Lib.hid (by rw [HFE.out]; exact HY.out)
          have B6 := B5.trans (hb6.mono B5.size)
          have HX := Lib.hid (ints_one wr y)
          have HO7 := Lib.hid ((HO5.out.below hb6).below ((Below.refl wr.heap.size wr).alloc (Nat.le_refl _) (.cells #[.int .i64 y] 3)))
          have HG7 := Lib.hid ((HG5.out.below hb6).below ((Below.refl wr.heap.size wr).alloc (Nat.le_refl _) (.cells #[.int .i64 y] 3)))
          have B7 := B6.alloc B6.size (.cells #[.int .i64 y] 3)
          have hS6 : Hid (S ≤ wr.heap.size) := Lib.hid (Nat.le_trans HS5.out hb6.size)
          go_wp2_with (at_builtin; refine wpList_append_any rfl _ _ 29 Try.underlying29 rfl S (some ⟨g2, 0, none⟩) c2 (vls f j) j (vls_len _ _) rfl HO7.out (some ⟨wr.heap.size, 0, none⟩) 1 [y] 1 rfl rfl HX.out (by omega) (by have := hS6.out; simp; omega) ?_; intro A8 c8 w8 o8 g8)
          obtain ⟨g9, rfl⟩ := own_some o8 (by simp)
          have B8 := Own.grownBelow0 B7 (HO7.out.base hws) B7.size g8
          have HO8 : Hid (Own w8 S (some ⟨g9, 0, none⟩) c8 (vls f (j + 1))) := Lib.hid (by rw [vls_more, ← HFV.out]; exact o8)
          have HG8 : Hid (Own w8 w.heap.size (some ⟨g, 0, none⟩) d (lst h rows.length)) := Lib.hid (HG7.out.kept_ g8 (.inr (fun e => by have h1 := Option.some.inj e; have h2 := HO7.out.ge; simp at h1; omega)))
          clear o8 g8
          go_wp2
          go_roundw
          case rel => exact ⟨j + 1, g9, c8, by omega, by go_num, rfl, HO8, HG8, B8⟩
          case measure => simp [intOf]; omega
    · obtain rfl : j = rows.length := by omega
      go_wp2
      go_ret
      exact ⟨g2, c2, rfl, HO.out.base hws, hb⟩

end Go.Proofs.Ytkkdffmpeadinaa
