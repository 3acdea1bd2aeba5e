/-
  Chapter 8: PairPays of the model.
-/
import Derived.Test.YtpildecpabeanaaG20
import Derived.Test.YtpildecpabeanaaG23
import Derived.Test.YtpildecpabeanaaRw
import Derived.Deep.RegionLaw
import Derived.Test.YtpildecpabeanaaG25
import Derived.Deep.AppendSrc
import Derived.Deep.RegionWith
import Derived.Deep.Upon
namespace Go.Proofs.Ytpildecpabeanaa
open Go.RowKit

open Classical in
/-- What all pay for pairs, nil for others. -/
noncomputable def ppL (rows : List (List Int)) : List Int := if VR rows then vls (ppF rows) rows.length else []
theorem pp_yes {rows : List (List Int)} (h : VR rows) : ppL rows = vls (ppF rows) rows.length := by simp [ppL, h]
theorem pp_no {rows : List (List Int)} (h : ¬ VR rows) : ppL rows = [] := by simp [ppL, h]
end Go.Proofs.Ytpildecpabeanaa

/-
  Chapter 8: PairPays of the program.
-/
namespace Go.Proofs.Ytpildecpabeanaa
open Go.RowKit

/-- The rows but one, cut without room behind: new memory, or the first ones as they are. -/
theorem run_cut (b off c i n : Nat) (rows : List (List Int)) (w : World) (hR : RdR w (some ⟨b, off, none⟩) c rows) (hn : rows.length = n) (hi : i < n) (hl : n ≤ 4) (ad : Addr) (cx : Nat) (hx : i + 1 < n → ad = ⟨b, off + (i + 1), none⟩) (ty : TypeId) :
    ∃ A' c' w', (Builtin.append_ #[35, 35] ty #[.slice (some ⟨b, off, none⟩) i i, .slice (some ad) (n - (i + 1)) cx]).run Try.prog w = .ok (.slice A' (n - 1) c') w' ∧ RdR w' A' c' (rows.eraseIdx i) ∧ Below w.heap.size w w' := by
  obtain ⟨i0, hi0, hz0, hz1, hz2⟩ := info_parts intsU_info
  obtain ⟨vs, hvs, hcell⟩ := hR.vals
  have hvl : vs.length = n := by rw [hvs.1, hn]
  by_cases hin : n = i + 1
  · subst hin
    have h0 : i + 1 - (i + 1) = 0 := by omega
    rw [h0, show i + 1 - 1 = i by omega]
    have hs := Src.ofSlice (P := Try.prog) w (size := i0.size) (tx := 35) Try.underlying35 ad 0 cx [] (by simp) (fun j u h => by simp at h) (fun u h => by simp at h)
    have hrun := run_append_nothing (P := Try.prog) w 35 35 ty 23 i0 Try.underlying35 hi0 (some ⟨b, off, none⟩) i i (Nat.le_refl _) _ hs
    refine ⟨_, _, _, hrun, ?_, Below.refl _ _⟩
    have e : rows.eraseIdx i = rows.take i := by
      rw [List.eraseIdx_eq_take_drop_succ, List.drop_eq_nil_of_le (by omega), List.append_nil]
    rw [e]
    exact hR.take_ i (by omega)
  · have hlt : i + 1 < n := by omega
    have had := hx hlt
    subst had
    have hadd : ∀ o j, (⟨b, o, none⟩ : Addr).add j = ⟨b, o + j, none⟩ := fun o j => by unfold Addr.add; split <;> simp_all
    obtain ⟨v', w', hrun, e2, e3⟩ := run_append_arg_grows (P := Try.prog) w 35 ty 23 i0 (.slice none 0 0) 1 24 Try.underlying35 hi0 hz0 hz1 hz2 rfl (by decide) ⟨b, off, none⟩ i i (vs.take i) (by rw [List.length_take]; omega)
      (fun j u hu => by
        rw [hadd]
        rw [List.getElem?_take] at hu
        split at hu
        · exact hcell j u hu
        · cases hu)
      ⟨b, off + (i + 1), none⟩ (n - (i + 1)) cx (vs.drop (i + 1)) (by rw [List.length_drop]; omega)
      (fun j u hu => by
        rw [hadd, Nat.add_assoc]
        rw [List.getElem?_drop] at hu
        exact hcell _ u hu)
      (by omega) (by unfold maxLen; omega) (by omega)
    rw [erase_cut, show i + (n - (i + 1)) = n - 1 by omega] at e2
    have hB : Below w.heap.size w w' := (Below.refl _ w).grown e3 (Nat.le_refl _) (fun k e => by cases e)
    rcases e2.2 with ⟨hv, hz⟩ | ⟨g, cap, cur, hv, _⟩
    · omega
    · subst hv
      have hel : (rows.eraseIdx i).length = n - 1 := by rw [List.length_eraseIdx, if_pos (by omega), hn]
      exact ⟨some ⟨g, 0, none⟩, cap, w', hrun, CopyIs.shape_ e2 (hvs.erase i) hel hB, hB⟩
theorem wpList_cut {ops : Array Oper} {rest : List Oper} {o : Oper} {a : Act} {w : World} {Q : Exit → Act → World → Prop} (hgd : o.guard = none) (s x : Operand)
    (ho : o.op = .call { callee := .builtin .append, args := #[s, x], argTypes := #[35, 35] })
    (b off c i n : Nat) (rows : List (List Int)) (hR : RdR w (some ⟨b, off, none⟩) c rows) (hn : rows.length = n) (hi : i < n) (hl : n ≤ 4) (ad : Addr) (cx m : Nat) (hm : n - (i + 1) = m) (hs : a.eval s = .slice (some ⟨b, off, none⟩) i i) (hxv : a.eval x = .slice (some ad) m cx) (hx : i + 1 < n → ad = ⟨b, off + (i + 1), none⟩)
    (h : ∀ A' c' w', RdR w' A' c' (rows.eraseIdx i) → Below w.heap.size w w' → wpList Try.prog ops Q rest (a.put o.dst (.slice A' (n - 1) c')) w') :
    wpList Try.prog ops Q (o :: rest) a w :=
  wpList_plain hgd fun _ hK => by
    subst hm
    obtain ⟨A', c', w', hrun, h1, h2⟩ := run_cut b off c i n rows w hR hn hi hl ad cx hx o.type
    unfold Oper.wp execOp
    simp only [ho, resolve, invoke, builtin, Sem.run_bind, Sem.run_pure, Result.andThen_ok, List.map_toArray, List.map_cons, List.map_nil, hs, hxv, hrun]
    exact hK _ _ (h A' c' w' h1 h2)

theorem below_eqn {B n : Nat} {w5 w6 w7 : World} (h : w7 = w6.drewN n) (b : Below B w5 w6) : Below B w5 w7 := by subst h; exact below_drewN' b n
theorem own_fill {w : World} {B g c k : Nat} {zs : List Int} (h : Own w B (some ⟨g, 0, none⟩) c (filled zs k)) (hk : k < zs.length) (hk2 : k ≤ zs.length) : ∃ z, w.cell? ⟨g, k, none⟩ = some (.int .i64 z) := by
  have hyy : (filled zs k)[k]? = some ((filled zs k)[k]'(by rw [filled_len zs k hk2]; exact hk)) := List.getElem?_eq_getElem _
  exact ⟨_, h.cell hyy⟩
theorem step_cut {ops : Array Oper} {o : Oper} {a : Act} {w : World} {K : Act → World → Prop} {Q : Exit → Act → World → Prop} {E : Prop} (hgd : o.guard = none) (s x : Operand)
    (ho : o.op = .call { callee := .builtin .append, args := #[s, x], argTypes := #[35, 35] })
    (b off c i n : Nat) (rows : List (List Int)) (hR : RdR w (some ⟨b, off, none⟩) c rows) (hn : rows.length = n) (hi : i < n) (hl : n ≤ 4) (ad : Addr) (cx m : Nat) (hm : n - (i + 1) = m) (hs : a.eval s = .slice (some ⟨b, off, none⟩) i i) (hxv : a.eval x = .slice (some ad) m cx) (hx : i + 1 < n → ad = ⟨b, off + (i + 1), none⟩)
    (h : ∀ A' c' w', RdR w' A' c' (rows.eraseIdx i) → Below w.heap.size w w' → K (a.put o.dst (.slice A' (n - 1) c')) w') :
    if Region.wanted o (yielded ops a.tmps) = true then Oper.wp Try.prog o a w K Q else E := by
  have hw : Region.wanted o (yielded ops a.tmps) = true := by simp [Region.wanted, hgd]
  rw [if_pos hw]
  subst hm
  obtain ⟨A', c', w', hrun, h1, h2⟩ := run_cut b off c i n rows w hR hn hi hl ad cx hx o.type
  unfold Oper.wp execOp
  simp only [ho, resolve, invoke, builtin, Sem.run_bind, Sem.run_pure, Result.andThen_ok, List.map_toArray, List.map_cons, List.map_nil, hs, hxv, hrun]
  exact h A' c' w' h1 h2

set_option maxRecDepth 100000 in
set_option maxHeartbeats 2000000 in
theorem PairPays_any (A : Option Addr) (c : Nat) (rows : List (List Int)) (w : World) (h : RdR w A c rows) (hl : rows.length ≤ 1099511627776) (hl2 : ∀ r ∈ rows, r.length ≤ 1099511627776) :
    Calls Try.prog 43 #[.slice A rows.length c] w (NewL w (ppL rows)) := by
  have HV := Lib.hid (ValidRows_any A c rows w h hl hl2)
  by_cases hv : VR rows
  · obtain ⟨hk, h12, hm1, hm4⟩ := hv.rk
    obtain ⟨b, off, A', c', rfl, hc⟩ := row_head h hv
    have hpl := pb_len hk 0
    rw [vr_true hv] at HV
    have HF := Lib.hid (fun w1 (b : Below w.heap.size w w1) => bestFrom_any _ hm4 hm1 rows hk h12 hv.1.2 (some ⟨_, off, none⟩) c 0 w1 (Nat.two_pow_pos _) (h.below b))
    have HFE : Hid (∀ (i : Nat) (A1 : Option Addr) (c1 : Nat) (w1 : World), i < rows.length → RdR w1 A1 c1 (rows.eraseIdx i) → Calls Try.prog 99 #[.slice A1 (rows.length - 1) c1, .int .i64 0] w1 (PtrIs w1 (prs (rows.eraseIdx i) (pb (rows.eraseIdx i) 0).2))) := Lib.hid (fun i A1 c1 w1 hi h1 => by
      have hel : (rows.eraseIdx i).length = rows.length - 1 := by rw [List.length_eraseIdx, if_pos hi]
      have := bestFrom_any _ hm4 hm1 (rows.eraseIdx i) (rk_erase hk i) (fun r hr => h12 r (List.mem_of_mem_eraseIdx hr)) (by have := hv.1.2; omega) A1 c1 0 w1 (Nat.two_pow_pos _) h1
      rwa [hel] at this)
    have HSE : Hid (∀ (i : Nat) (v : Value) (w1 : World), i < rows.length → PLs w1 v (prs (rows.eraseIdx i) (pb (rows.eraseIdx i) 0).2) → Calls Try.prog 101 #[v] w1 fun e w' => e = .returned (.int .i64 (pb (rows.eraseIdx i) 0).1) ∧ ∃ n, w' = w1.drewN n) := Lib.hid (fun i v w1 hi hp => by
      have hb := prs_bd (rows := rows.eraseIdx i) (fun r hr j => ⟨(rk_erase hk i r hr).2 j, h12 r (List.mem_of_mem_eraseIdx hr) j⟩) (pb (rows.eraseIdx i) 0).2
      have hel : (rows.eraseIdx i).length = rows.length - 1 := by rw [List.length_eraseIdx, if_pos hi]
      have := sum_any _ v w1 hp (by have := hb.1; have := hv.1.2; omega) hb.2
      rwa [smP_prs, (pb_mt (rk_erase hk i) 0).2] at this)
    have HRR := Lib.hid h
    have HTL := Lib.hid (prs_len rows _ hpl)
    have HTB := Lib.hid (prs_bd (fun r hr j => ⟨(hk r hr).2 j, h12 r hr j⟩) (pb rows 0).2)
    have HSM : Hid (smP (prs rows (pb rows 0).2) = (pb rows 0).1) := Lib.hid (by rw [smP_prs]; exact (pb_mt hk 0).2)
    have HZA : Hid (∀ (k : Nat) (t : Int × Int), (prs rows (pb rows 0).2)[k]? = some t → (vls (ppF rows) rows.length)[k]? = some ((pb (rows.eraseIdx k) 0).1 - ((pb rows 0).1 - t.2))) := Lib.hid (fun k t ht => by
      have hkl : k < rows.length := by
        have := (List.getElem?_eq_some_iff.1 ht).1
        rwa [prs_len rows _ hpl] at this
      rw [vls_at hkl, (prs_at rows _ k t ht).2]
      rfl)
    have HTW : Hid (∀ (k : Nat) (t : Int × Int), (prs rows (pb rows 0).2)[k]? = some t → 0 ≤ t.2 ∧ t.2 ≤ 12) := Lib.hid (fun k t ht => HTB.out.2 t (List.mem_of_getElem? ht))
    have HEB : Hid (∀ i, 0 ≤ (pb (rows.eraseIdx i) 0).1 ∧ (pb (rows.eraseIdx i) 0).1 ≤ (pb rows 0).1) := Lib.hid (fun i => ⟨pb_nonneg (rk_erase hk i) 0, pb_erase hm4 hk 0 i (by omega)⟩)
    have hs0 := pb_nonneg hk 0
    have hs1 := pb_top hk h12 0
    have E1 := Lib.hid (pp_yes hv)
    have hn4 := hv.1
    clear hv hk h12 hm1 hm4 hpl h hc
    generalize prs rows (pb rows 0).2 = ts at *
    obtain ⟨zs, hzs⟩ : ∃ zs, zs = vls (ppF rows) rows.length := ⟨_, rfl⟩
    have hzl : zs.length = rows.length := by rw [hzs, vls_len]
    rw [← hzs] at E1 HZA
    clear hzs
    generalize (pb rows 0).1 = s at *
    generalize hnn : rows.length = n at *
    have HNN := Lib.hid hnn
    clear hnn
    go_enter Try.func43, Try.ntmps43
    go_wp2_with fail
    refine HV.out.mono ?_
    rintro e w1 ⟨rfl, b1⟩
    go_wp2_with fail
    refine (HF.out w1 b1).mono ?_
    rintro e w2 ⟨v2, rfl, hp2, b2⟩
    have HB2 := Lib.hid (b1.trans (b2.mono b1.size))
    have HP2 := Lib.hid hp2
    obtain ⟨ao, rfl⟩ := pls_ptr hp2
    clear b1 b2 hp2 HF HV
    have HSU : Hid (Calls Try.prog 101 #[.pointer ao] w2 fun e w' => e = .returned (.int .i64 s) ∧ ∃ p, w' = w2.drewN p) := Lib.hid (by have := sum_any ts (.pointer ao) w2 HP2.out (by rw [HTL.out]; omega) HTB.out.2; rwa [HSM.out] at this)
    go_wp2_with fail
    refine HSU.out.mono ?_
    rintro e w2' ⟨rfl, n2, hw2⟩
    have hB22 : Below w2.heap.size w2 w2' := by rw [hw2]; exact below_drewN' (Below.refl _ _) n2
    clear hw2 HSU
    go_wp2_with (at_make; refine wpList_make_ints rfl _ _ rfl w2'.heap.size n rfl rfl (by omega) (Nat.le_refl _) ?_; intro w3 ho3 hb3)
    have hb23 : Below w2.heap.size w2 w3 := hB22.trans (hb3.mono hB22.size)
    refine (listed_any w2 ts (.pointer ao) w3 HP2.out hb23 (by rw [HTL.out]; omega)).mono ?_
    rintro e w4 ⟨v4, vs, rfl, hr4, hpv, b4⟩
    obtain ⟨A4, c4, rfl⟩ := row_shape hr4
    rw [HTL.out] at hr4 hpv
    rw [HTL.out]
    have hq : ∃ q, A4 = some ⟨q, 0, none⟩ ∧ w3.heap.size ≤ q := by
      rcases hr4.2 with ⟨hv, h0⟩ | ⟨g, cap, cur, hv, hg, _⟩
      · omega
      · injection hv with h1 h2 h3
        exact ⟨g, h1, hg⟩
    obtain ⟨q, rfl, hq3⟩ := hq
    have hg3 : w2'.heap.size < w3.heap.size := ho3.lt
    have hg2 : w2.heap.size ≤ w2'.heap.size := hB22.size
    have HR4 := Lib.hid hr4
    have HPV := Lib.hid hpv
    have HO4 : Hid (Own w4 w2'.heap.size (some ⟨w2'.heap.size, 0, none⟩) n (filled zs 0)) := Lib.hid (by rw [filled_zero, hzl]; exact ho3.below b4)
    have HB4 : Hid (Below w2.heap.size w2 w4) := Lib.hid (hb23.trans (b4.mono hb23.size))
    clear hr4 hpv b4 hb3 ho3 hb23 hB22
    go_wp2_with fail
    go_loopw [22] (fun i wr => ∃ k : Nat, k ≤ n ∧ i = .int .i64 k ∧ Hid (Own wr w2'.heap.size (some ⟨w2'.heap.size, 0, none⟩) n (filled zs k)) ∧ Hid (wr.ownsRow w3.heap.size 88 1 (.slice (some ⟨q, 0, none⟩) n c4) n vs) ∧ Hid (Below w2.heap.size w2 wr)) (fun i _ => n - (intOf i).toNat)
    case atStart => exact ⟨0, Nat.zero_le _, rfl, HO4, HR4, HB4⟩
    case round =>
      obtain ⟨k, hk, rfl, HO, HR, HB⟩ := hrel
      by_cases hlt : k < n
      · have ht : ts[k]? = some (ts[k]'(by rw [HTL.out]; exact hlt)) := List.getElem?_eq_getElem _
        generalize ts[k]'(by rw [HTL.out]; exact hlt) = t at ht
        obtain ⟨b', hb0, hb1, hb2⟩ := HPV.out.2 k t hlt ht
        have hce := World.ownsRow.cellAt HR.out k (by omega)
        rw [hb0] at hce
        have hcb := (HB.out.cell (p := ⟨b', 1, none⟩) (World.block_lt_of_cell? w2 _ hb2)).trans hb2
        have HC1 := Lib.hid hb2
        have hx := HZA.out k t ht
        have htw := HTW.out k t ht
        have HRW := Lib.hid (HRR.out.below (HB2.out.trans (HB.out.mono HB2.out.size)))
        have hcc : n ≤ c := by have := HRR.out.1; rw [HNN.out] at this; exact this
        have hkc : k ≤ c := by omega
        have hwi : IntKind.i64.wrap ((k : Int) + 1) = ((k + 1 : Nat) : Int) := IntWalk.i64_in _ (by omega)
        clear hb0 hb1 hb2 ht hcb
        by_cases hck : c = k + 1
        · subst hck
          obtain rfl : n = k + 1 := by omega
          have q1 : (k : Int) ≤ (k : Int) + 1 := by omega
          have q2 : (0 : Int) ≤ (k : Int) + 1 := by omega
          have hn0 : k + 1 - (k + 1) = 0 := by omega

          have HFW := Lib.hid (fun (A1 : Option Addr) (c1 : Nat) (w1 : World) (h1 : RdR w1 A1 c1 (rows.eraseIdx k)) => by have h9 := HFE.out k A1 c1 w1 hlt h1; rw [show k + 1 - 1 = k by omega] at h9; exact h9)
          have HSW := Lib.hid (fun (v : Value) (w1 : World) (h1 : PLs w1 v (prs (rows.eraseIdx k) (pb (rows.eraseIdx k) 0).2)) => HSE.out k v w1 hlt h1)
          obtain ⟨y, hy⟩ : ∃ y, y = (pb (rows.eraseIdx k) 0).1 := ⟨_, rfl⟩
          have hebk := HEB.out k
          rw [← hy] at hebk hx HSW
          have hw1 : IntKind.i64.wrap (s - t.2) = s - t.2 := IntWalk.i64_in _ (by omega)
          have hw2 : IntKind.i64.wrap (y - (s - t.2)) = y - (s - t.2) := IntWalk.i64_in _ (by omega)
          have HX := Lib.hid hx
          clear hy hx HFE HSE HEB HZA HTW HSM HTB
          go_wp2_with fail
          go_region_law (refine step_cut rfl _ _ rfl b off (k + 1) k (k + 1) rows (HRW.out.drewN 1) HNN.out hlt hn4.2 ⟨b, off, none⟩ 0 0 (by omega) (by kernel_rfl) (by kernel_rfl) (fun h => absurd h (by omega)) ?_; intro A5 c5 w5 hr5 b5')
          have b5 : Below wr.heap.size wr w5 := (below_drewN' (Below.refl _ wr) 1).trans b5'
          have hcb5 := ((HB.out.trans (b5.mono HB.out.size)).cell (p := ⟨b', 1, none⟩) (World.block_lt_of_cell? w2 _ HC1.out)).trans HC1.out
          have HB5 := Lib.hid (HB.out.trans (b5.mono HB.out.size))
          have HO5 := Lib.hid (HO.out.below b5)
          have HR5 := Lib.hid (own_len HR.out b5)
          have HRR5 := Lib.hid hr5
          clear b5 b5' hr5
          have hkz : k < zs.length := by omega
          have HKZ := Lib.hid hkz
          have HKZ2 := Lib.hid (Nat.le_of_lt hkz)
          clear hkz
          go_wp2_with fail
          go_region_with (first
            | (go_at_call 99; refine (HFW.out A5 c5 _ (HRR5.out.drewN 1)).mono ?_; rintro e w6 ⟨v6, rfl, hp6, b6'⟩; have b6 : Below w5.heap.size w5 w6 := (below_drewN' (Below.refl _ w5) 1).trans b6'; obtain ⟨ao6, rfl⟩ := pls_ptr hp6; have HS6 := Lib.hid (HSW.out (.pointer ao6) w6 hp6); have hcb6 := ((HB5.out.trans (b6.mono HB5.out.size)).cell (p := ⟨b', 1, none⟩) (World.block_lt_of_cell? w2 _ HC1.out)).trans HC1.out)
            | (go_at_call 101; refine HS6.out.mono ?_; rintro e w7 ⟨rfl, n7, hw7⟩; have hb67 : Below w5.heap.size w5 w7 := below_eqn hw7 b6; clear hw7; have HB7 := Lib.hid (HB5.out.trans (hb67.mono HB5.out.size)); have HO7 := Lib.hid (HO5.out.below hb67); have HR7 := Lib.hid (own_len HR5.out hb67); have hcb7 := (HB7.out.cell (p := ⟨b', 1, none⟩) (World.block_lt_of_cell? w2 _ HC1.out)).trans HC1.out; obtain ⟨z, hcg⟩ := own_fill HO7.out HKZ.out HKZ2.out; have hfr := HO7.out.free k))
          all_goals
            have HO' : Hid (Own (w7.setCell ⟨w2'.heap.size, k, none⟩ (.int .i64 (y - (s - t.2)))) w2'.heap.size (some ⟨w2'.heap.size, 0, none⟩) (k + 1) (filled zs (k + 1))) := Lib.hid (by have := HO7.out.set_ k (y - (s - t.2)); rwa [filled_set zs k _ HX.out] at this)
            have HR' : Hid ((w7.setCell ⟨w2'.heap.size, k, none⟩ (.int .i64 (y - (s - t.2)))).ownsRow w3.heap.size 88 1 (.slice (some ⟨q, 0, none⟩) (k + 1) c4) (k + 1) vs) := Lib.hid (row_set HR7.out _ (by intro e; injection e with e; simp only at e; omega))
            have HB' := Lib.hid (HB7.out.setCell (p := ⟨w2'.heap.size, k, none⟩) hg2 (.int .i64 (y - (s - t.2))))
            clear hb67
            go_wp2
            refine ⟨?_, ?measure⟩
            (repeat apply Exists.intro)
            refine ⟨?rel, ?eq⟩
            case eq => first | rfl | (push_cast; rfl) | (simp only [Int.natCast_add, Int.natCast_one]; rfl)
            case rel => exact ⟨k + 1, hlt, by go_num, HO', HR', HB'⟩
            case measure => first | (simp [intOf]; done) | (simp [intOf]; omega)
        · have q2 : (0 : Int) ≤ (k : Int) + 1 := by omega
          have q3 : (k : Int) + 1 ≤ (n : Int) := by omega
          have hk1c : k + 1 ≤ c := by omega
          have hck0 : c - (k + 1) ≠ 0 := by omega

          have HFW := Lib.hid (fun (A1 : Option Addr) (c1 : Nat) (w1 : World) (h1 : RdR w1 A1 c1 (rows.eraseIdx k)) => HFE.out k A1 c1 w1 hlt h1)
          have HSW := Lib.hid (fun (v : Value) (w1 : World) (h1 : PLs w1 v (prs (rows.eraseIdx k) (pb (rows.eraseIdx k) 0).2)) => HSE.out k v w1 hlt h1)
          obtain ⟨y, hy⟩ : ∃ y, y = (pb (rows.eraseIdx k) 0).1 := ⟨_, rfl⟩
          have hebk := HEB.out k
          rw [← hy] at hebk hx HSW
          have hw1 : IntKind.i64.wrap (s - t.2) = s - t.2 := IntWalk.i64_in _ (by omega)
          have hw2 : IntKind.i64.wrap (y - (s - t.2)) = y - (s - t.2) := IntWalk.i64_in _ (by omega)
          have HX := Lib.hid hx
          clear hy hx HFE HSE HEB HZA HTW HSM HTB
          go_wp2_with fail
          go_region_law (refine step_cut rfl _ _ rfl b off c k n rows (HRW.out.drewN 1) HNN.out hlt hn4.2 ⟨b, off + (k + 1), none⟩ (c - (k + 1)) (n - (k + 1)) (rfl) (by kernel_rfl) (by kernel_rfl) (fun _ => rfl) ?_; intro A5 c5 w5 hr5 b5')
          have b5 : Below wr.heap.size wr w5 := (below_drewN' (Below.refl _ wr) 1).trans b5'
          have hcb5 := ((HB.out.trans (b5.mono HB.out.size)).cell (p := ⟨b', 1, none⟩) (World.block_lt_of_cell? w2 _ HC1.out)).trans HC1.out
          have HB5 := Lib.hid (HB.out.trans (b5.mono HB.out.size))
          have HO5 := Lib.hid (HO.out.below b5)
          have HR5 := Lib.hid (own_len HR.out b5)
          have HRR5 := Lib.hid hr5
          clear b5 b5' hr5
          have hkz : k < zs.length := by omega
          have HKZ := Lib.hid hkz
          have HKZ2 := Lib.hid (Nat.le_of_lt hkz)
          clear hkz
          go_wp2_with fail
          go_region_with (first
            | (go_at_call 99; refine (HFW.out A5 c5 _ (HRR5.out.drewN 1)).mono ?_; rintro e w6 ⟨v6, rfl, hp6, b6'⟩; have b6 : Below w5.heap.size w5 w6 := (below_drewN' (Below.refl _ w5) 1).trans b6'; obtain ⟨ao6, rfl⟩ := pls_ptr hp6; have HS6 := Lib.hid (HSW.out (.pointer ao6) w6 hp6); have hcb6 := ((HB5.out.trans (b6.mono HB5.out.size)).cell (p := ⟨b', 1, none⟩) (World.block_lt_of_cell? w2 _ HC1.out)).trans HC1.out)
            | (go_at_call 101; refine HS6.out.mono ?_; rintro e w7 ⟨rfl, n7, hw7⟩; have hb67 : Below w5.heap.size w5 w7 := below_eqn hw7 b6; clear hw7; have HB7 := Lib.hid (HB5.out.trans (hb67.mono HB5.out.size)); have HO7 := Lib.hid (HO5.out.below hb67); have HR7 := Lib.hid (own_len HR5.out hb67); have hcb7 := (HB7.out.cell (p := ⟨b', 1, none⟩) (World.block_lt_of_cell? w2 _ HC1.out)).trans HC1.out; obtain ⟨z, hcg⟩ := own_fill HO7.out HKZ.out HKZ2.out; have hfr := HO7.out.free k))
          all_goals
            have HO' : Hid (Own (w7.setCell ⟨w2'.heap.size, k, none⟩ (.int .i64 (y - (s - t.2)))) w2'.heap.size (some ⟨w2'.heap.size, 0, none⟩) n (filled zs (k + 1))) := Lib.hid (by have := HO7.out.set_ k (y - (s - t.2)); rwa [filled_set zs k _ HX.out] at this)
            have HR' : Hid ((w7.setCell ⟨w2'.heap.size, k, none⟩ (.int .i64 (y - (s - t.2)))).ownsRow w3.heap.size 88 1 (.slice (some ⟨q, 0, none⟩) n c4) n vs) := Lib.hid (row_set HR7.out _ (by intro e; injection e with e; simp only at e; omega))
            have HB' := Lib.hid (HB7.out.setCell (p := ⟨w2'.heap.size, k, none⟩) hg2 (.int .i64 (y - (s - t.2))))
            clear hb67
            go_wp2
            go_roundw
            case rel => exact ⟨k + 1, hlt, by go_num, HO', HR', HB'⟩
            case measure => simp [intOf]; omega

      · obtain rfl : k = n := by omega
        go_wp2
        go_ret
        rw [E1.out]
        have ho := HO.out
        rw [← hzl, filled_all] at ho
        exact ⟨some ⟨w2'.heap.size, 0, none⟩, zs.length, by rw [hzl]; rfl, ho.base (Nat.le_trans HB2.out.size hg2), HB2.out.trans (HB.out.mono HB2.out.size)⟩
  · rw [vr_false hv] at HV
    have E1 := Lib.hid (pp_no hv)
    go_enter Try.func43, Try.ntmps43
    go_wp2_with fail
    refine HV.out.mono ?_
    rintro e w1 ⟨rfl, b1⟩
    go_wp2
    go_ret
    rw [E1.out]
    exact ⟨none, 0, rfl, own_none _ _, b1⟩
end Go.Proofs.Ytpildecpabeanaa
