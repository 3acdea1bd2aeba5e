/-
  Chapter 8: the walk of FnBestPairs.
-/
import Derived.Test.YtkhpheebjkbihaaOq
import Derived.Test.YtkhpheebjkbihaaOk
import Derived.Test.YtkhpheebjkbihaaVu
namespace Go.Proofs.Ytkhpheebjkbihaa
open Go.RowKit

theorem smP_take {ts : List (Int × Int)} {k : Nat} {t : Int × Int} (h : ts[k]? = some t) : smP (ts.take (k + 1)) = smP (ts.take k) + t.2 := by
  have key : ∀ (a : List (Int × Int)) (t : Int × Int), smP (a ++ [t]) = smP a + t.2 := by
    intro a t
    induction a with
    | nil => simp [smP]
    | cons x xs ih => simp only [List.cons_append, smP, ih]; omega
  rw [List.take_add_one, h, ← key]; rfl
theorem smP_take_bd {ts : List (Int × Int)} (h : ∀ t ∈ ts, 0 ≤ t.2 ∧ t.2 ≤ 12) (k : Nat) : 0 ≤ smP (ts.take k) ∧ smP (ts.take k) ≤ 12 * ts.length := by
  have h1 := smP_bd (ts.take k) (fun t ht => h t (List.mem_of_mem_take ht))
  have h2 : (ts.take k).length ≤ ts.length := by rw [List.length_take]; omega
  omega
theorem row_headM {rows : List (List Int)} {w : World} {A : Option Addr} {c : Nat} (h : RdR w A c rows) (hv : VR rows) : ∃ b off A' c', A = some ⟨b, off, none⟩ ∧ w.cell? ⟨b, off, none⟩ = some (.slice A' (RW rows 0).length c') := by
  obtain ⟨b, off, r, A', c', rfl, hr, hc, _, _⟩ := h.at_ (k := 0) (by have := hv.1; omega)
  rw [rw_of hr.out]
  exact ⟨b, off, A', c', rfl, by simpa using hc⟩
theorem bpS_take {rows : List (List Int)} (h : VR rows) : bpS (rows.take (rows.length - 1)) ≤ bpS rows := by
  obtain ⟨hk, _, _, hm4⟩ := h.rk
  have h1 := h.1.1
  rw [(bp_yes h).2]
  have n0 := pb_nonneg hk 0
  by_cases hv : VR (rows.take (rows.length - 1))
  · rw [(bp_yes hv).2]
    have e : rows.take (rows.length - 1) = rows.eraseIdx (rows.length - 1) := by
      rw [List.eraseIdx_eq_take_drop_succ, List.drop_eq_nil_of_le (by omega), List.append_nil]
    rw [e]
    exact pb_erase hm4 hk 0 _ (by omega)
  · rw [(bp_no hv).2]; omega

set_option maxRecDepth 100000 in
set_option maxHeartbeats 4000000 in
theorem fnBestPairs_walk {A : Option Addr} {c : Nat} {xs : List Int} {w : World} (h : Came .u8 w A c xs) :
    Calls Try.prog 8 #[.slice A xs.length c] w fun e w' => e = .returned (.bool true) ∧ Below w.heap.size w w' := by
  by_cases hlen : 1048576 < xs.length
  · go_enter Try.func8, Try.ntmps8
    go_wp2
    go_ret
    exact ⟨rfl, Below.refl _ _⟩
  have hl1 : xs.length ≤ 1048576 := by omega
  have HD := Lib.hid (DrawBestPairs_any A c xs w h)
  clear hlen h
  go_enter Try.func8, Try.ntmps8
  go_wp2_with fail
  refine HD.out.mono ?_
  rintro e w1 ⟨A1, c1, rows, rfl, hR, hl4, hl6, b1⟩
  have hl6' : ∀ r ∈ rows, r.length ≤ 1099511627776 := fun r hr => by have := hl6 r hr; omega
  have HI := Lib.hid (fun w' (h' : RdR w' A1 c1 rows) => BestPairs_any A1 c1 rows w' h' (by omega) hl6')
  have HS := Lib.hid (fun w' (h' : RdR w' A1 c1 rows) => SBestPairs_any A1 c1 rows w' h' (by omega) hl6')
  clear HD
  by_cases hv : VR rows
  · obtain ⟨e1, e2⟩ := bp_yes hv
    obtain ⟨hk, h12, hm1, hm4⟩ := hv.rk
    have hpl := pb_len hk 0
    have hbt := bpS_take hv
    rw [e1, e2] at HI HS
    rw [e2] at hbt
    have hn1 := hv.1.1
    obtain ⟨b, off, A', c', rfl, hch⟩ := row_headM hR hv
    have HIT : Hid (∀ w', RdR w' (some ⟨b, off, none⟩) c1 rows → Calls Try.prog 44 #[.slice (some ⟨b, off, none⟩) (rows.length - 1) c1] w' (PlIs w' (bpL (rows.take (rows.length - 1))) (bpS (rows.take (rows.length - 1))))) := Lib.hid (fun w' h' => by
      have hlt : (rows.take (rows.length - 1)).length = rows.length - 1 := by rw [List.length_take]; omega
      have := BestPairs_any (some ⟨b, off, none⟩) c1 (rows.take (rows.length - 1)) w' (h'.take_ (c2 := c1) (rows.length - 1) (by have := h'.1; omega)) (by omega) (fun r hr => hl6' r (List.mem_of_mem_take hr))
      rwa [hlt] at this)
    have HON := Lib.hid (fun i k x y hik hx hy hxy => mt_once hm4 0 _ (by omega) (pb_mt hk 0).1 i k x y hik hx hy hxy)
    have HME := Lib.hid (fun j hj => mt_each 0 _ (pb_mt hk 0).1 j hj)
    have HTA := Lib.hid (prs_at rows (pb rows 0).2)
    have HTL := Lib.hid (prs_len rows _ hpl)
    have HTB := Lib.hid (prs_bd (fun r hr j => ⟨(hk r hr).2 j, h12 r hr j⟩) (pb rows 0).2)
    have HSM : Hid (smP (prs rows (pb rows 0).2) = (pb rows 0).1) := Lib.hid (by rw [smP_prs]; exact (pb_mt hk 0).2)
    have HRL := Lib.hid (fun r hr => (hk r hr).1)
    have hs0 := pb_nonneg hk 0
    have hs1 := pb_top hk h12 0
    have hc1 : rows.length ≤ c1 := hR.1
    have HR1 := Lib.hid hR
    have HCH := Lib.hid hch
    clear hk h12 e1 e2 hl6 hl6' hv hch
    generalize (RW rows 0).length = m at *
    generalize prs rows (pb rows 0).2 = ts at *
    generalize bpS (rows.take (rows.length - 1)) = ls at *
    generalize (pb rows 0).1 = s at *
    generalize (pb rows 0).2 = js at *
    have hjl : (nl js).length = rows.length := by rw [nl_len, hpl]
    obtain ⟨n, hn⟩ : ∃ n, n = rows.length := ⟨_, rfl⟩
    have hsn : (s != s) = false := by simp
    have hsz : decide (s < 0) = false := by simp; omega
    go_wp2_with fail
    refine (HI.out w1 hR).mono ?_
    rintro e w2 ⟨A2, c2, rfl, o2, b2⟩
    have B2 := b1.trans (b2.mono b1.size)
    have hR2 := hR.below b2
    rw [hjl]
    go_wp2_with fail
    refine (HS.out w2 hR2).mono ?_
    rintro e w3 ⟨A3, c3, rfl, o3, b3⟩
    have B3 := B2.trans (b3.mono B2.size)
    have o23 := o2.below b3
    have HQ : Hid (Calls Try.prog 23 #[.slice A2 rows.length c2, .slice A3 rows.length c3] w3 (BoolIs w3 true)) := Lib.hid (by
      have := equalU_any A2 A3 c2 c3 (nl js) (nl js) w3 o23.rd o3.rd (by omega)
      rw [eqB_self, hjl] at this
      exact this)
    rw [hjl]
    have hh2 := (b2.cell (p := ⟨b, off, none⟩) (World.block_lt_of_cell? w1 _ HCH.out)).trans HCH.out
    have hh3 := (b3.cell (p := ⟨b, off, none⟩) (World.block_lt_of_cell? w2 _ hh2)).trans hh2
    have HH3 := Lib.hid hh3
    clear hh2 hh3
    have HR3 := Lib.hid (hR2.below b3)
    have HO3 := Lib.hid o23
    have HB3 := Lib.hid B3
    have HC3 := Lib.hid ((HR3.out.1 : rows.length ≤ c1))
    clear HI HS o2 o3 o23 b2 b3 B2 B3 b1 hR hR2
    go_wp2_with fail
    refine HQ.out.mono ?_
    rintro e w4 ⟨rfl, n4, rfl⟩
    have hch4 : (w3.drewN n4).cell? ⟨b, off, none⟩ = some (.slice A' m c') := HH3.out
    go_wp2_with fail
    clear hl1
    have HX : Hid (∀ k, k < rows.length → ∃ (x : Nat) (t : Int × Int), (nl js)[k]? = some (x : Int) ∧ js[k]? = some x ∧ ts[k]? = some t ∧ t.2 = (rows.getD k []).getD x 0 ∧ x ≤ m) := Lib.hid (fun k hk => by
      have hkj : k < js.length := by rw [← hjl, nl_len] at hk; exact hk
      have hj := List.getElem?_eq_getElem hkj
      have ht : ts[k]? = some (ts[k]'(by rw [HTL.out]; exact hk)) := List.getElem?_eq_getElem _
      generalize js[k] = x at hj
      generalize ts[k]'(by rw [HTL.out]; exact hk) = t at ht
      refine ⟨x, t, by simp [nl, hj], hj, ht, ?_, HME.out x (List.mem_of_getElem? hj)⟩
      have h2 := (HTA.out k t ht).2
      rw [h2, show js.getD k 0 = x by rw [List.getD_eq_getElem?_getD, hj]; rfl])
    have HBD := Lib.hid (fun k => smP_take_bd HTB.out.2 k)
    have hbt2 := hbt
    have HTL2 := Lib.hid HTB.out.1
    clear HTA HTB HTL2
    go_loopw [9, 10] (fun sm i wr => ∃ k q : Nat, k ≤ rows.length ∧ i = .int .i64 k ∧ wr = w3.drewN q ∧ ∃ z, sm = .int .i64 z ∧ Hid (z = smP (ts.take k))) (fun _ i _ => rows.length - (intOf i).toNat)
    case atStart => exact ⟨0, n4, Nat.zero_le _, rfl, rfl, 0, rfl, Lib.hid (by simp [smP])⟩
    case round =>
      obtain ⟨k, q, hk, rfl, rfl, z, rfl, HZ⟩ := hrel
      by_cases hlt : k < rows.length
      · obtain ⟨x, tt, hxn, hxj, htt, ht2, hxm⟩ := HX.out k hlt
        have HXN := Lib.hid hxn
        have HXJ := Lib.hid hxj
        have HTT := Lib.hid htt
        have HT2 := Lib.hid ht2
        clear hxn hxj htt ht2
        obtain ⟨b2, o2, x', hA2, _, hx2, hc2⟩ := HO3.out.rd.at_ (k := k) (by rw [hjl]; exact hlt)
        have hxx : x' = (x : Int) := by have h1 := hx2.out; rw [HXN.out] at h1; exact (Option.some.inj h1).symm
        subst hxx
        subst hA2
        go_wp2_with fail
        go_loopw [11] (fun kk wr => ∃ l q : Nat, l ≤ k ∧ kk = .int .i64 l ∧ wr = w3.drewN q) (fun kk _ => k - (intOf kk).toNat)
        case atStart => exact ⟨0, q, Nat.zero_le _, rfl, rfl⟩
        case round =>
          obtain ⟨l, q2, hl, rfl, rfl⟩ := hrel
          by_cases hll : l < k
          · obtain ⟨y, t3, hyn, hyj, _, _, _⟩ := HX.out l (by omega)
            obtain ⟨b3, o3, y', hA3, _, hy2, hc3⟩ := HO3.out.rd.at_ (k := l) (by rw [hjl]; omega)
            have hyy : y' = (y : Int) := by have h1 := hy2.out; rw [hyn] at h1; exact (Option.some.inj h1).symm
            subst hyy
            cases hA3
            have hll' : (l : Int) < (k : Int) := by omega
            by_cases hxy : (x : Int) = (y : Int)
            · have hmx : m ≤ x := by (have hq9 := HON.out l k y x hll hyj HXJ.out (by omega)); omega
              have hxyb : ((x : Int) == (y : Int)) = true := by simpa using hxy
              have hxmb : ¬ (x : Int) < (m : Int) := by omega
              clear hxy hyn hyj hy2 hmx
              go_wp2_with fail
              go_quiet (fail)
              go_wp2
              go_roundw
              case rel => exact ⟨l + 1, _, by omega, by go_num, rfl⟩
              case measure => simp [intOf]; omega
            · have hxyb : ((x : Int) == (y : Int)) = false := by simpa using hxy
              clear hxy hyn hyj hy2
              go_wp2_with fail
              go_quiet (fail)
              go_wp2
              go_roundw
              case rel => exact ⟨l + 1, _, by omega, by go_num, rfl⟩
              case measure => simp [intOf]; omega
          · obtain rfl : l = k := by omega
            have hkk : smP (ts.take (l + 1)) = z + tt.2 := by rw [smP_take HTT.out, HZ.out]
            have hb1 := HBD.out (l + 1)
            have htl4 : ts.length ≤ 4 := by rw [HTL.out]; omega
            rw [hkk] at hb1
            have HKK := Lib.hid hkk
            clear hkk
            by_cases hxm2 : x < m
            · obtain ⟨b4, o4, r, A4, c4, hA4, hr4, hc4, hcap4, hrd4⟩ := HR3.out.at_ hlt
              cases hA4
              have hrl : r.length = m := HRL.out r (List.mem_of_getElem? hr4.out)
              obtain ⟨b5, o5, v, hA5, _, hv5, hc5⟩ := hrd4.out.at_ (k := x) (by omega)
              subst hA5
              have hvt : tt.2 = v := by
                have hrg : rows.getD l [] = r := by rw [List.getD_eq_getElem?_getD, hr4.out]; rfl
                rw [HT2.out, hrg, List.getD_eq_getElem?_getD, hv5.out]; rfl
              rw [hvt] at hb1 HKK
              have hxlt : (x : Int) < (m : Int) := by omega
              have hxlr : (x : Int) < (r.length : Int) := by omega
              have hw1 : IntKind.i64.wrap (z + v) = z + v := IntWalk.i64_in _ (by omega)
              clear hvt hxm2 hrl hb1
              go_wp2_with fail
              go_quiet (fail)
              go_wp2
              go_roundw
              case rel => exact ⟨l + 1, _, hlt, by go_num, rfl, _, rfl, Lib.hid HKK.out.symm⟩
              case measure => simp [intOf]; omega
            · have hxe : x = m := by omega
              obtain ⟨b4, o4, r, A4, c4, hA4, hr4, hc4, hcap4, hrd4⟩ := HR3.out.at_ hlt
              have hrl : r.length = m := HRL.out r (List.mem_of_getElem? hr4.out)
              have ht0 : tt.2 = 0 := by
                have hrg : rows.getD l [] = r := by rw [List.getD_eq_getElem?_getD, hr4.out]; rfl
                rw [HT2.out, hrg, List.getD_eq_getElem?_getD, List.getElem?_eq_none (by omega)]; rfl
              rw [ht0, Int.add_zero] at HKK
              have hxlt : ¬ (x : Int) < (m : Int) := by omega
              clear ht0 hxm2 hrl hb1 hxe hr4 hc4 hcap4 hrd4 hA4
              go_wp2
              go_roundw
              case rel => exact ⟨l + 1, _, hlt, by go_num, rfl, z, rfl, Lib.hid HKK.out.symm⟩
              case measure => simp [intOf]; omega
      · obtain rfl : k = rows.length := by omega
        have hzs : z = s := by
          rw [HZ.out, List.take_of_length_le (by rw [HTL.out]; exact Nat.le_refl _)]
          exact HSM.out
        subst hzs
        have hzb : (z == z) = true := by simp
        have hlb : decide (ls ≤ z) = true := by simpa using hbt2
        clear HZ hbt
        go_wp2_with fail
        refine (HIT.out (w3.drewN q) (HR3.out.drewN q)).mono ?_
        rintro e w9 ⟨A9, c9, rfl, _, b9⟩
        have B9 := Lib.hid ((below_drewN' HB3.out q).trans (b9.mono (below_drewN' HB3.out q).size))
        clear b9
        go_wp2
        go_ret
        exact ⟨rfl, B9.out⟩
  · obtain ⟨e1, e2⟩ := bp_no hv
    rw [e1, e2] at HI HS
    clear hl6 hl6' hv
    go_wp2_with fail
    refine (HI.out w1 hR).mono ?_
    rintro e w2 ⟨A2, c2, rfl, o2, b2⟩
    have B2 := b1.trans (b2.mono b1.size)
    go_wp2_with fail
    refine (HS.out w2 (hR.below b2)).mono ?_
    rintro e w3 ⟨A3, c3, rfl, o3, b3⟩
    have B3 := B2.trans (b3.mono B2.size)
    have HQ := Lib.hid (equalU_any A2 A3 c2 c3 [] [] w3 ((o2.below b3).rd) o3.rd (by simp))
    rw [eqB_self] at HQ
    have HQ2 := Lib.hid (fun n => equalU_any A2 A3 c2 c3 [] [] (w3.drewN n) ((o2.below b3).rd.drewN n) (o3.rd.drewN n) (by simp))
    rw [eqB_self] at HQ2
    clear HI HS o2 o3
    go_wp2_with fail
    refine HQ.out.mono ?_
    rintro e w4 ⟨rfl, n4, rfl⟩
    go_wp2_with fail
    refine (HQ2.out n4).mono ?_
    rintro e w5 ⟨rfl, n5, rfl⟩
    go_wp2
    go_ret
    exact ⟨rfl, below_drewN' B3 (n4 + n5)⟩
end Go.Proofs.Ytkhpheebjkbihaa
