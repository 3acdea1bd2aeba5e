/-
  Chapter 5: both sides of BroughtIn.
-/
import Derived.Test.YtfjncipekjnbjabGY
import Derived.Test.YtfjncipekjnbjabNe
namespace Go.Proofs.Ytfjncipekjnbjab
open Go.RowKit

theorem paids_bd {ts : List (List Int)} (hv : VTs ts) {j : Nat} (hj : j ≤ ts.length) : 0 ≤ paidTo ts j ∧ paidTo ts j ≤ 120 := by
  have h := paidTo_bd hv.2 hv.1.2 j hj
  have h2 := hasTo_is (wayF ts) j hj
  have h3 := worthF_bd (ts := ts.take j) (fun t ht => hv.2 t (List.mem_of_mem_take ht)) (wayF ts)
  have h4 : (ts.take j).length ≤ 4 := by rw [List.length_take]; have := hv.1.2; omega
  omega
theorem pvs_sum (ts : List (List Int)) : ∀ j, ((vls (pvF ts) j).sum : Int) = paidTo ts j
  | 0 => by simp [vls, paidTo]
  | j + 1 => by rw [vls_more, List.sum_append, pvs_sum ts j]; simp [paidTo]

set_option maxHeartbeats 1000000 in
theorem SBroughtIn_any (A : Option Addr) (c : Nat) (ts : List (List Int)) (w : World) (h : RdR w A c ts) (hl : ts.length ≤ 1099511627776) (hl2 : ∀ r ∈ ts, r.length ≤ 1099511627776) (hv : VTs ts) :
    Calls Try.prog 41 #[.slice A ts.length c] w fun e w' => e = .returned (.tuple #[.int .i64 (paidTo ts ts.length), .int .i64 (sv ts 7 - paidTo ts ts.length)]) ∧ Below w.heap.size w w' := by
  have HC := Lib.hid (SvalidTables_any A c ts w h hl hl2)
  rw [vtsB_true hv] at HC
  have HP := Lib.hid (fun (n : Nat) => Spivot_any A c ts.length ts (w.drewN n) rfl (h.drewN n) hv)
  have h4 : ts.length ≤ 4 := hv.1.2
  have HSV := Lib.hid (fun (W : World) (hW : Below w.heap.size w W) => SsplitValue_any ts A c 7 W (h.below hW) hv.2 h4 (by omega))
  have HV := Lib.hid hv
  obtain ⟨n, hn⟩ : ∃ n, n = ts.length := ⟨_, rfl⟩
  have HN := Lib.hid hn
  rw [← hn] at HC HP HSV h4 ⊢
  obtain ⟨V, hV⟩ : ∃ V, V = sv ts 7 := ⟨_, rfl⟩
  have hv0 := sv_nonneg ts 7
  have hv1 := sv_bd hv.2 7 (by omega)
  rw [← hV] at hv0 hv1 HSV ⊢
  have hV1 : V ≤ 120 := by omega
  have HBD := Lib.hid (fun j (hj : j ≤ n) => paids_bd (ts := ts) hv (j := j) (by omega))
  clear hv hl2 hl h hn hV hv1
  go_enter Try.func41, Try.ntmps41
  go_wp2_with fail
  refine HC.out.mono ?_
  rintro e w1 ⟨rfl, m, rfl⟩
  go_wp2_with fail
  refine (HP.out m).mono ?_
  rintro e w2 h2
  obtain ⟨g, d, rfl, o2, b2⟩ := h2.up (below_drewN' (Below.refl _ w) m)
  have HO2 := Lib.hid o2
  clear h2 o2
  go_wp2_with fail
  go_loopw [5, 6] (fun s i wr => ∃ (j k : Nat) (z : Int), j ≤ n ∧ i = .int .i64 j ∧ s = .int .i64 z ∧ Hid (z = paidTo ts j) ∧ wr = w2.drewN k) (fun _ i _ => n - (intOf i).toNat)
  case atStart => exact ⟨0, 0, 0, Nat.zero_le _, rfl, rfl, Lib.hid rfl, rfl⟩
  case round =>
    obtain ⟨j, k, z, hj, rfl, rfl, HZ, rfl⟩ := hrel
    have hz := HBD.out j hj
    rw [← HZ.out] at hz
    have hz0 := hz.1
    have hz1 := hz.2
    by_cases hlt : j < n
    · have hcx := (HO2.out.drewN k).cell (vls_at (f := pvF ts) hlt)
      have hxb := HBD.out (j + 1) hlt
      obtain ⟨x, hx⟩ : ∃ x, x = pvF ts j := ⟨_, rfl⟩
      rw [← hx] at hcx
      have HS : Hid (z + x = paidTo ts (j + 1)) := Lib.hid (by rw [HZ.out, hx]; rfl)
      rw [← HS.out] at hxb
      have hx0 := hxb.1
      have hx1 := hxb.2
      have e1 : IntKind.i64.wrap (z + x) = z + x := IntWalk.i64_in _ (by omega)
      clear hx hz hxb
      go_wp2
      go_roundw
      case rel => exact ⟨j + 1, _, _, by omega, by go_num, rfl, HS, rfl⟩
      case measure => simp [intOf]; omega
    · obtain rfl : j = n := by omega
      have B2 := below_drewN' b2 k
      have e1 : IntKind.i64.wrap (V - z) = V - z := IntWalk.i64_in _ (by omega)
      clear hz
      have HB2 := Lib.hid B2
      clear B2
      go_wp2_with fail
      refine (Sall_any (w2.drewN k)).mono ?_
      rintro e w3 ⟨rfl, rfl⟩
      go_wp2_with fail
      refine (HSV.out _ HB2.out).mono ?_
      rintro e w4 ⟨rfl, n4, rfl⟩
      go_wp2
      go_ret2
      exact ⟨by rw [← HZ.out]; rfl, below_drewN' b2 (k + n4)⟩


set_option maxHeartbeats 1000000 in
theorem BroughtIn_yes (A : Option Addr) (c : Nat) (ts : List (List Int)) (w : World) (h : RdR w A c ts) (hl2 : ∀ r ∈ ts, r.length ≤ 1099511627776) (hv : VTs ts) :
    Calls Try.prog 40 #[.slice A ts.length c] w fun e w' => e = .returned (.tuple #[.int .i64 (paidTo ts ts.length), .int .i64 (sv ts 7 - paidTo ts ts.length)]) ∧ Below w.heap.size w w' := by
  have HC := Lib.hid (areTables_any A c ts w h hl2)
  rw [vtsB_true hv] at HC
  have HBS := Lib.hid (fun (W : World) (hW : Below w.heap.size w W) => BestSplit_yes A c ts.length ts W rfl (h.below hW) hl2 hv)
  have HP := Lib.hid (fun (W : World) (hW : Below w.heap.size w W) => PivotPays_yes A c ts.length ts W rfl (h.below hW) hl2 hv)
  have h4 : ts.length ≤ 4 := hv.1.2
  have HV := Lib.hid hv
  obtain ⟨n, hn⟩ : ∃ n, n = ts.length := ⟨_, rfl⟩
  have HN := Lib.hid hn
  rw [← hn] at HC HP HBS h4 ⊢
  clear hv hl2 h hn
  go_enter Try.func40, Try.ntmps40
  go_wp2_with fail
  refine HC.out.mono ?_
  rintro e w1 ⟨rfl, b1⟩
  go_wp2_with fail
  refine (HBS.out w1 b1).mono ?_
  rintro e w2 ⟨A2, c2, xs, M, rfl, o2, b2, ⟨_, hxs, hM⟩ | ⟨hno, _⟩⟩
  · have HM := Lib.hid hM
    have B2 := b1.trans (b2.mono b1.size)
    clear hM hxs o2 b2
    go_wp2_with fail
    refine (HP.out w2 B2).mono ?_
    rintro e w3 ⟨g, d, rfl, o3, b3⟩
    have HO3 := Lib.hid o3
    have B3 := B2.trans (b3.mono B2.size)
    have HSU := Lib.hid (sumU_any (some ⟨g, 0, none⟩) d n (paidTo ts n) (vls (pvF ts) n) w3 (vls_len _ _) (pvs_sum ts n).symm HO3.out.rd (by omega) (fun x hx => by
      obtain ⟨i, hi, rfl⟩ := List.mem_map.1 hx
      have h1 := List.mem_range.1 hi
      have h2 := pv_bd (ts := ts) HV.out.2 (by rw [← HN.out]; omega) (i := i) (by rw [← HN.out]; exact h1)
      omega))
    have hzb := paids_bd HV.out (j := n) (by rw [← HN.out]; exact Nat.le_refl _)
    have hM1 : M = sv ts 7 := by rw [HM.out]; exact wayF_worth (VTs.zeros HV.out.2) HV.out.1.2
    have hv0 := sv_nonneg ts 7
    have hv1 := sv_bd HV.out.2 7 (by omega)
    rw [← hM1] at hv0 hv1
    rw [← HN.out] at hv1
    have HM1 := Lib.hid hM1
    obtain ⟨z, hz⟩ : ∃ z, z = paidTo ts n := ⟨_, rfl⟩
    rw [← hz] at HSU hzb
    have HZ := Lib.hid hz
    have hz0 := hzb.1
    have hz1 := hzb.2
    have e1 : IntKind.i64.wrap (M - z) = M - z := IntWalk.i64_in _ (by omega)
    clear o3 b3 hz hM1 hzb
    go_wp2_with fail
    refine HSU.out.mono ?_
    rintro e w4 ⟨rfl, rfl⟩
    go_wp2
    go_ret2
    exact ⟨by rw [← HZ.out, ← HM1.out]; rfl, B3⟩
  · exact absurd HV.out hno

set_option maxHeartbeats 400000 in
theorem SBroughtIn_no (A : Option Addr) (c : Nat) (ts : List (List Int)) (w : World) (h : RdR w A c ts) (hl : ts.length ≤ 1099511627776) (hl2 : ∀ r ∈ ts, r.length ≤ 1099511627776) (hv : ¬ VTs ts) :
    Calls Try.prog 41 #[.slice A ts.length c] w fun e w' => e = .returned (.tuple #[.int .i64 (-1), .int .i64 (-1)]) ∧ Below w.heap.size w w' := by
  have HC := Lib.hid (SvalidTables_any A c ts w h hl hl2)
  rw [vtsB_false hv] at HC
  clear hv hl2 hl h
  go_enter Try.func41, Try.ntmps41
  go_wp2_with fail
  refine HC.out.mono ?_
  rintro e w1 ⟨rfl, n, rfl⟩
  go_wp2
  go_ret2
  exact ⟨rfl, below_drewN' (Below.refl _ _) n⟩
set_option maxHeartbeats 400000 in
theorem BroughtIn_no (A : Option Addr) (c : Nat) (ts : List (List Int)) (w : World) (h : RdR w A c ts) (hl2 : ∀ r ∈ ts, r.length ≤ 1099511627776) (hv : ¬ VTs ts) :
    Calls Try.prog 40 #[.slice A ts.length c] w fun e w' => e = .returned (.tuple #[.int .i64 (-1), .int .i64 (-1)]) ∧ Below w.heap.size w w' := by
  have HC := Lib.hid (areTables_any A c ts w h hl2)
  rw [vtsB_false hv] at HC
  clear hv hl2 h
  go_enter Try.func40, Try.ntmps40
  go_wp2_with fail
  refine HC.out.mono ?_
  rintro e w1 ⟨rfl, b1⟩
  go_wp2
  go_ret2
  exact ⟨rfl, b1⟩

/-- What BroughtIn tells. -/
def PrIs (w : World) (x y : Int) (e : Ending) (w' : World) : Prop := e = .returned (.tuple #[.int .i64 x, .int .i64 y]) ∧ Below w.heap.size w w'
theorem BroughtIn_both (rows : List (List Int)) : ∃ x y : Int, (rows.length ≤ 1099511627776 → (∀ r ∈ rows, r.length ≤ 1099511627776) →
    (∀ A c w, RdR w A c rows → Calls Try.prog 41 #[.slice A rows.length c] w (PrIs w x y)) ∧
    (∀ A c w, RdR w A c rows → Calls Try.prog 40 #[.slice A rows.length c] w (PrIs w x y))) := by
  by_cases hv : VTs rows
  · exact ⟨paidTo rows rows.length, sv rows 7 - paidTo rows rows.length, fun hl hl2 => ⟨fun A c w h => SBroughtIn_any A c rows w h hl hl2 hv, fun A c w h => BroughtIn_yes A c rows w h hl2 hv⟩⟩
  · exact ⟨-1, -1, fun hl hl2 => ⟨fun A c w h => SBroughtIn_no A c rows w h hl hl2 hv, fun A c w h => BroughtIn_no A c rows w h hl2 hv⟩⟩

end Go.Proofs.Ytfjncipekjnbjab
