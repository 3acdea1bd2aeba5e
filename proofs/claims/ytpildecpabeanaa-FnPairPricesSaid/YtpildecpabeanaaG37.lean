/-
  Chapter 8: PairPays of the model; both sides.
-/
import Derived.Test.YtpildecpabeanaaG36
import Derived.Test.YtpildecpabeanaaG35
namespace Go.Proofs.Ytpildecpabeanaa
open Go.RowKit

theorem ppL_len (rows : List (List Int)) : (ppL rows).length ≤ 1000 := by
  by_cases h : VR rows
  · rw [pp_yes h, vls_len]; have := h.1.2; omega
  · rw [pp_no h]; simp
end Go.Proofs.Ytpildecpabeanaa

/-
  Chapter 8: the walk of FnPairPrices.
-/
namespace Go.Proofs.Ytpildecpabeanaa
open Go.RowKit

set_option maxRecDepth 100000 in
set_option maxHeartbeats 4000000 in
theorem fnPairPrices_walk {A : Option Addr} {c : Nat} {xs : List Int} {w : World} (h : Came .u8 w A c xs) :
    Calls Try.prog 11 #[.slice A xs.length c] w fun e w' => e = .returned (.bool true) ∧ Below w.heap.size w w' := by
  by_cases hlen : 1048576 < xs.length
  · go_enter Try.func11, Try.ntmps11
    go_wp2
    go_ret
    exact ⟨rfl, Below.refl _ _⟩
  have hl1 : xs.length ≤ 1048576 := by omega
  have HD := Lib.hid (DrawPairPrices_any A c xs w h)
  clear hlen h
  go_enter Try.func11, Try.ntmps11
  go_wp2_with fail
  refine HD.out.mono ?_
  rintro e w1 ⟨A1, c1, rows, rfl, hR, hl4, hl6, b1⟩
  have hl6' : ∀ r ∈ rows, r.length ≤ 1099511627776 := fun r hr => by have := hl6 r hr; omega
  have HI := Lib.hid (fun w' (h' : RdR w' A1 c1 rows) => PairPrices_any A1 c1 rows w' h' (by omega) hl6')
  have HS := Lib.hid (fun w' (h' : RdR w' A1 c1 rows) => SPairPrices_any A1 c1 rows w' h' (by omega) hl6')
  have HM := Lib.hid (fun w' (h' : RdR w' A1 c1 rows) => MostPairPrices_any A1 c1 rows w' h' (by omega) hl6')
  have HP := Lib.hid (fun w' (h' : RdR w' A1 c1 rows) => PairPays_any A1 c1 rows w' h' (by omega) hl6')
  have HBP := Lib.hid (fun w' (h' : RdR w' A1 c1 rows) => BestPairs_any A1 c1 rows w' h' (by omega) hl6')
  have HG := Lib.hid (fun B d p w' (h' : RdR w' A1 c1 rows) (hP : Rd w' B d p) (hpd : p.length ≤ d) (hpl : p.length ≤ 1099511627776) => GoWithPairs_any A1 B c1 d rows p w' h' hP hpd (by omega) hl6' hpl)
  clear HD
  by_cases hv : VR rows
  · have hlm := pc_length hv
    have hlm2 := mp_length hv
    have hgm := gw_least hv
    have hbt := (gw_between hgm).2.2.2
    have hm1 := hv.rk.2.2.1
    have hm4 := hv.rk.2.2.2
    have hn := hv.1.1
    have hpl := pb_len hv.rk.1 0
    rw [pp_yes hv] at HP
    rw [(bp_yes hv).1] at HBP
    have HDUE := Lib.hid (fun i (hi : i < rows.length) => by have := pp_pays hv.rk.2.2.2 hv.rk.1 hi; rwa [← pc_yes hv] at this)
    generalize bpS rows = ss at *
    generalize (pb rows 0).2 = js at *
    obtain ⟨ps, hps⟩ : ∃ ps, ps = vls (ppF rows) rows.length := ⟨_, rfl⟩
    have hpsl : ps.length = rows.length := by rw [hps, vls_len]
    have HPA : Hid (∀ k, k < rows.length → ps[k]? = some (ppF rows k)) := Lib.hid (fun k hk => by rw [hps]; exact vls_at hk)
    rw [← hps] at HP
    have hjl : (nl js).length = rows.length := by rw [nl_len, hpl]
    have HJL := Lib.hid hjl
    have HPL := Lib.hid hpsl
    clear hps
    obtain ⟨zs, hzs⟩ : ∃ zs, zs = pcL rows := ⟨_, rfl⟩
    rw [← hzs] at HI HS hlm hgm hbt HDUE
    generalize mpL rows = ms at *
    generalize (RW rows 0).length = m at *
    have HG2 : Hid (∀ B d w', RdR w' A1 c1 rows → Rd w' B d zs → m ≤ d → Calls Try.prog 48 #[.slice A1 rows.length c1, .slice B m d] w' fun e w'' => e = .returned (.bool true) ∧ Below w'.heap.size w' w'') := Lib.hid (fun B d w' h' hP hpd => by
      have := HG.out B d zs w' h' hP (by omega) (by omega)
      rwa [hgm, hlm] at this)
    have HI2 : Hid (∀ w', RdR w' A1 c1 rows → Calls Try.prog 46 #[.slice A1 rows.length c1] w' fun e w'' => ∃ A c, e = .returned (.slice A m c) ∧ Own w'' w'.heap.size A c zs ∧ Below w'.heap.size w' w'') := Lib.hid (fun w' h' => by have := HI.out w' h'; unfold NewL at this; rwa [hlm] at this)
    have HS2 : Hid (∀ w', RdR w' A1 c1 rows → Calls Try.prog 47 #[.slice A1 rows.length c1] w' fun e w'' => ∃ A c, e = .returned (.slice A m c) ∧ Own w'' w'.heap.size A c zs ∧ Below w'.heap.size w' w'') := Lib.hid (fun w' h' => by have := HS.out w' h'; unfold NewL at this; rwa [hlm] at this)
    have HM2 : Hid (∀ w', RdR w' A1 c1 rows → Calls Try.prog 49 #[.slice A1 rows.length c1] w' fun e w'' => ∃ A c, e = .returned (.slice A m c) ∧ Own w'' w'.heap.size A c ms ∧ Below w'.heap.size w' w'') := Lib.hid (fun w' h' => by have := HM.out w' h'; unfold NewL at this; rwa [hlm2] at this)
    have HP2 : Hid (∀ w', RdR w' A1 c1 rows → Calls Try.prog 43 #[.slice A1 rows.length c1] w' fun e w'' => ∃ A c, e = .returned (.slice A rows.length c) ∧ Own w'' w'.heap.size A c ps ∧ Below w'.heap.size w' w'') := Lib.hid (fun w' h' => by have := HP.out w' h'; unfold NewL at this; rwa [hpsl] at this)
    have HB2 : Hid (∀ w', RdR w' A1 c1 rows → Calls Try.prog 42 #[.slice A1 rows.length c1] w' fun e w'' => ∃ A c, e = .returned (.tuple #[.slice A rows.length c, .int .i64 ss]) ∧ Own w'' w'.heap.size A c (nl js) ∧ Below w'.heap.size w' w'') := Lib.hid (fun w' h' => by have := HBP.out w' h'; unfold PlIs at this; rwa [hjl] at this)
    have HQ : Hid (∀ A2 A3 c2 c3 w', Rd w' A2 c2 zs → Rd w' A3 c3 zs → Calls Try.prog 35 #[.slice A2 m c2, .slice A3 m c3] w' (BoolIs w' true)) := Lib.hid (fun A2 A3 c2 c3 w' r2 r3 => by
      have := equalU_any A2 A3 c2 c3 zs zs w' r2 r3 (by omega)
      rw [eqB_self, hlm] at this
      exact this)
    have HAM : Hid (∀ A2 A3 c2 c3 w', Rd w' A2 c2 zs → Rd w' A3 c3 ms → Calls Try.prog 30 #[.slice A2 m c2, .slice A3 m c3] w' fun e w'' => e = .returned (.bool true) ∧ ∃ q, w'' = w'.drewN q) := Lib.hid (fun A2 A3 c2 c3 w' r2 r3 =>
      atMostT_any A2 A3 c2 c3 m _ _ w' r2 r3 hlm hlm2 (by omega) hbt)
    have hnz : (((m : Nat) : Int) == 0) = false := beq_eq_false_iff_ne.2 (by omega)
    have HZL := Lib.hid hlm
    clear HI HS HG HM HP HBP hzs hgm hlm hlm2 hbt hpsl hjl hv hl6 hl6'
    go_wp2_with fail
    refine (HI2.out w1 hR).mono ?_
    rintro e w2 ⟨A2, c2, rfl, o2, b2⟩
    obtain ⟨g2, rfl⟩ := own_some4 o2 (by have := HZL.out; omega)
    have B2 := b1.trans (b2.mono b1.size)
    have hR2 := hR.below b2
    go_wp2_with fail
    refine (HS2.out w2 hR2).mono ?_
    rintro e w3 ⟨A3, c3, rfl, o3, b3⟩
    have B3 := B2.trans (b3.mono B2.size)
    have o23 := o2.below b3
    have hR3 := hR2.below b3
    have HQ3 := Lib.hid (HQ.out _ A3 c2 c3 w3 o23.rd o3.rd)
    clear o3 o2 b2 B2 b1 hR hR2 b3
    go_wp2_with fail
    refine HQ3.out.mono ?_
    rintro e w4 ⟨rfl, n4, rfl⟩
    have hR4 := hR3.drewN n4
    have o24 := o23.drewN n4
    have B4 := below_drewN' B3 n4
    clear hR3 o23 B3 HQ3
    go_wp2_with fail
    refine (HB2.out _ hR4).mono ?_
    rintro e w5 ⟨A5, c5, rfl, o5, b5⟩
    have B5 := below_then B4 b5
    have hR5 := hR4.below b5
    have o25 := o24.below b5
    clear hR4 o24 B4 b5
    go_wp2_with fail
    refine (HP2.out _ hR5).mono ?_
    rintro e w6 ⟨A6, c6, rfl, o6, b6⟩
    have HB6 := Lib.hid (below_then B5 b6)
    have HR6 := Lib.hid (hR5.below b6)
    have HO2 := Lib.hid (o25.below b6)
    have HO5 := Lib.hid (o5.below b6)
    have HO6 := Lib.hid o6
    clear hR5 o25 B5 b6 o5 o6 HI2 HS2 HB2 HP2 HQ
    go_wp2_with fail
    go_loopw [8] (fun i wr => ∃ k q : Nat, k ≤ rows.length ∧ i = .int .i64 k ∧ wr = w6.drewN q) (fun i _ => rows.length - (intOf i).toNat)
    case atStart => exact ⟨0, 0, Nat.zero_le _, rfl, rfl⟩
    case round =>
      obtain ⟨k, q, hk, rfl, rfl⟩ := hrel
      by_cases hlt : k < rows.length
      · have hkj : k < js.length := by rw [← nl_len, HJL.out]; exact hlt
        have hj := List.getElem?_eq_getElem hkj
        generalize js[k] = x at hj
        obtain ⟨b2, o2, x', hA2, _, hx2, hc2⟩ := HO5.out.rd.at_ (k := k) (by rw [HJL.out]; exact hlt)
        have hxx : x' = (x : Int) := by
          have h1 := hx2.out
          have h2 : (nl js)[k]? = some (x : Int) := by simp [nl, hj]
          rw [h2] at h1; exact (Option.some.inj h1).symm
        subst hxx
        subst hA2
        obtain ⟨b6, o6, z, hA6, _, hz6, hc6⟩ := HO6.out.rd.at_ (k := k) (by rw [HPL.out]; exact hlt)
        subst hA6
        have hzp : z = ppF rows k := by have h1 := hz6.out; rw [HPA.out k hlt] at h1; exact (Option.some.inj h1).symm
        have hjg : js.getD k 0 = x := by rw [List.getD_eq_getElem?_getD, hj]; rfl
        have hdue := HDUE.out k hlt
        rw [← hzp, hjg] at hdue
        clear hj hjg hzp hkj
        by_cases hxm2 : x < m
        · obtain ⟨b5, o5, v', hA5, _, hv5, hc5⟩ := HO2.out.rd.at_ (k := x) (by rw [HZL.out]; exact hxm2)
          cases hA5
          rw [Nat.zero_add] at hc5
          rw [P1_at hv5.out] at hdue
          subst hdue
          have hzz : (z != z) = false := by simp
          have hxlt : (x : Int) < (m : Int) := by omega
          clear hxm2
          go_wp2_with fail
          go_roundw
          case rel => exact ⟨k + 1, _, hlt, by go_num, rfl⟩
          case measure => simp [intOf]; omega
        · have h0 : P1 zs x = 0 := by have := HZL.out; unfold P1; rw [List.getD_eq_getElem?_getD, List.getElem?_eq_none (by omega)]; rfl
          rw [h0] at hdue
          subst hdue
          have hxlt : ¬ (x : Int) < (m : Int) := by omega
          clear hxm2 h0
          go_wp2_with fail
          go_roundw
          case rel => exact ⟨k + 1, _, hlt, by go_num, rfl⟩
          case measure => simp [intOf]; omega
      · obtain rfl : k = rows.length := by omega
        have hR7 := HR6.out.drewN q
        have o27 := HO2.out.drewN q
        have B7 := below_drewN' HB6.out q
        clear HR6 HO2 HO5 HO6 HB6 HPA HDUE
        go_wp2_with fail
        refine (HG2.out _ _ _ hR7 o27.rd (by have := o27.cap.1; have := HZL.out; omega)).mono ?_
        rintro e w8 ⟨rfl, b8⟩
        have B8 := below_then B7 b8
        have o28 := o27.below b8
        have hR8 := hR7.below b8
        clear B7 b8 o27 hR7
        go_wp2_with fail
        refine (HM2.out w8 hR8).mono ?_
        rintro e w9 ⟨A9, c9, rfl, o9, b9⟩
        have B9 := below_then B8 b9
        go_wp2_with fail
        refine (HAM.out _ _ _ _ w9 (o28.below b9).rd o9.rd).mono ?_
        rintro e wa ⟨rfl, qa, rfl⟩
        go_wp2
        go_ret
        exact ⟨rfl, below_drewN' B9 qa⟩
  · have hz := pc_no hv
    rw [hz] at HI HS
    clear hl6 hl6' hv HG hz HM HP HBP
    go_wp2_with fail
    refine (HI.out w1 hR).mono ?_
    rintro e w2 ⟨A2, c2, rfl, o2, b2⟩
    have B2 := b1.trans (b2.mono b1.size)
    go_wp2_with fail
    refine (HS.out w2 (hR.below b2)).mono ?_
    rintro e w3 ⟨A3, c3, rfl, o3, b3⟩
    have B3 := B2.trans (b3.mono B2.size)
    have o23 := o2.below b3
    have HQ := Lib.hid (equalU_any A2 A3 c2 c3 [] [] w3 o23.rd o3.rd (by simp))
    rw [eqB_self] at HQ
    have hR3 := (hR.below b2).below b3
    go_wp2_with fail
    refine HQ.out.mono ?_
    rintro e w4 ⟨rfl, n4, hw4⟩
    have b4 : Below w3.heap.size w3 w4 := by rw [hw4]; exact below_drewN' (Below.refl _ _) n4
    clear hw4 HQ
    go_wp2_with fail
    refine (HS.out w4 (hR3.below b4)).mono ?_
    rintro e w5 ⟨A5, c5, rfl, o5, b5⟩
    have b35 := b4.trans (b5.mono b4.size)
    have HQ2 := Lib.hid (equalU_any A2 A5 c2 c5 [] [] w5 (o23.below b35).rd o5.rd (by simp))
    rw [eqB_self] at HQ2
    have B5 := B3.trans (b35.mono B3.size)
    go_wp2_with fail
    refine HQ2.out.mono ?_
    rintro e w6 ⟨rfl, n6, rfl⟩
    go_wp2
    go_ret
    exact ⟨rfl, below_drewN' B5 n6⟩
end Go.Proofs.Ytpildecpabeanaa
