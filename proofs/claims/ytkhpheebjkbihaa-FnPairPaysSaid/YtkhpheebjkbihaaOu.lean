/-
  Chapter 8: the walk of FnPairPays.
-/
import Derived.Test.YtkhpheebjkbihaaGR
import Derived.Test.YtkhpheebjkbihaaOt
import Derived.Test.YtkhpheebjkbihaaVu
namespace Go.Proofs.Ytkhpheebjkbihaa
open Go.RowKit

set_option maxRecDepth 100000 in
set_option maxHeartbeats 4000000 in
theorem fnPairPays_walk {A : Option Addr} {c : Nat} {xs : List Int} {w : World} (h : Came .u8 w A c xs) :
    Calls Try.prog 10 #[.slice A xs.length c] w fun e w' => e = .returned (.bool true) ∧ Below w.heap.size w w' := by
  by_cases hlen : 1048576 < xs.length
  · go_enter Try.func10, Try.ntmps10
    go_wp2
    go_ret
    exact ⟨rfl, Below.refl _ _⟩
  have hl1 : xs.length ≤ 1048576 := by omega
  have HD := Lib.hid (DrawPairPays_any A c xs w h)
  clear hlen h
  go_enter Try.func10, Try.ntmps10
  go_wp2_with fail
  refine HD.out.mono ?_
  rintro e w1 ⟨A1, c1, rows, rfl, hR, hl4, hl6, b1⟩
  have hl6' : ∀ r ∈ rows, r.length ≤ 1099511627776 := fun r hr => by have := hl6 r hr; omega
  have HI := Lib.hid (fun w' (h' : RdR w' A1 c1 rows) => PairPays_any A1 c1 rows w' h' (by omega) hl6')
  have HS := Lib.hid (fun w' (h' : RdR w' A1 c1 rows) => SPairPays_any A1 c1 rows w' h' (by omega) hl6')
  have HBP := Lib.hid (fun w' (h' : RdR w' A1 c1 rows) => BestPairs_any A1 c1 rows w' h' (by omega) hl6')
  clear HD
  by_cases hv : VR rows
  · obtain ⟨hk, h12, hm1, hm4⟩ := hv.rk
    have hpl := pb_len hk 0
    rw [pp_yes hv] at HI HS
    rw [(bp_yes hv).1] at HBP
    have hn1 := hv.1.1
    have HPB := Lib.hid (fun i (hi : i < rows.length) => pp_bd hm4 hk hi)
    have HME := Lib.hid (fun j hj => mt_each 0 _ (pb_mt hk 0).1 j hj)
    have HRL := Lib.hid (fun (r : List Int) (hr : r ∈ rows) => (hk r hr).1)
    clear hk h12 hl6 hl6' hv
    generalize (RW rows 0).length = m at *
    generalize bpS rows = ss at *
    generalize (pb rows 0).2 = js at *
    obtain ⟨zs, hzs⟩ : ∃ zs, zs = vls (ppF rows) rows.length := ⟨_, rfl⟩
    have hzl : zs.length = rows.length := by rw [hzs, vls_len]
    have HZA : Hid (∀ k, k < rows.length → zs[k]? = some (ppF rows k)) := Lib.hid (fun k hk => by rw [hzs]; exact vls_at hk)
    rw [← hzs] at HI HS
    have hjl : (nl js).length = rows.length := by rw [nl_len, hpl]
    have HJL := Lib.hid hjl
    have HZL := Lib.hid hzl
    clear hzs
    have HI2 : Hid (∀ w', RdR w' A1 c1 rows → Calls Try.prog 49 #[.slice A1 rows.length c1] w' fun e w'' => ∃ A c, e = .returned (.slice A rows.length c) ∧ Own w'' w'.heap.size A c zs ∧ Below w'.heap.size w' w'') := Lib.hid (fun w' h' => by have := HI.out w' h'; unfold NewL at this; rwa [hzl] at this)
    have HS2 : Hid (∀ w', RdR w' A1 c1 rows → Calls Try.prog 53 #[.slice A1 rows.length c1] w' fun e w'' => ∃ A c, e = .returned (.slice A rows.length c) ∧ Own w'' w'.heap.size A c zs ∧ Below w'.heap.size w' w'') := Lib.hid (fun w' h' => by have := HS.out w' h'; unfold NewL at this; rwa [hzl] at this)
    have HB2 : Hid (∀ w', RdR w' A1 c1 rows → Calls Try.prog 44 #[.slice A1 rows.length c1] w' fun e w'' => ∃ A c, e = .returned (.tuple #[.slice A rows.length c, .int .i64 ss]) ∧ Own w'' w'.heap.size A c (nl js) ∧ Below w'.heap.size w' w'') := Lib.hid (fun w' h' => by have := HBP.out w' h'; unfold PlIs at this; rwa [hjl] at this)
    have hnz : (((rows.length : Nat) : Int) == 0) = false := beq_eq_false_iff_ne.2 (by omega)
    clear HI HS HBP hjl hzl
    go_wp2_with fail
    refine (HI2.out w1 hR).mono ?_
    rintro e w2 ⟨A2, c2, rfl, o2, b2⟩
    have B2 := b1.trans (b2.mono b1.size)
    have hR2 := hR.below b2
    go_wp2_with fail
    refine (HS2.out w2 hR2).mono ?_
    rintro e w3 ⟨A3, c3, rfl, o3, b3⟩
    have B3 := B2.trans (b3.mono B2.size)
    have o23 := o2.below b3
    have hR3 := hR2.below b3
    have HQ : Hid (Calls Try.prog 23 #[.slice A2 rows.length c2, .slice A3 rows.length c3] w3 (BoolIs w3 true)) := Lib.hid (by
      have := equalU_any A2 A3 c2 c3 zs zs w3 o23.rd o3.rd (by rw [HZL.out]; omega)
      rw [eqB_self, HZL.out] at this
      exact this)
    clear o3 o2 b2 B2 b1 hR hR2
    go_wp2_with fail
    refine HQ.out.mono ?_
    rintro e w4 ⟨rfl, n4, hw4⟩
    have b4 : Below w3.heap.size w3 w4 := by rw [hw4]; exact below_drewN' (Below.refl _ _) n4
    clear hw4 HQ
    go_wp2_with fail
    refine (HB2.out w4 (hR3.below b4)).mono ?_
    rintro e w5 ⟨A5, c5, rfl, o5, b5⟩
    have b35 := b4.trans (b5.mono b4.size)
    have HO2 := Lib.hid (o23.below b35)
    have HR5 := Lib.hid (hR3.below b35)
    have HB5 := Lib.hid (B3.trans (b35.mono B3.size))
    have HO5 := Lib.hid o5
    clear o23 hR3 b4 b5 b35 B3 b3 o5 HI2 HS2 HB2 hl1
    go_wp2_with fail
    go_loopw [7] (fun i wr => ∃ k q : Nat, k ≤ rows.length ∧ i = .int .i64 k ∧ wr = w5.drewN q) (fun i _ => rows.length - (intOf i).toNat)
    case atStart => exact ⟨0, 0, Nat.zero_le _, rfl, rfl⟩
    case round =>
      obtain ⟨k, q, hk, rfl, rfl⟩ := hrel
      by_cases hlt : k < rows.length
      · have hkj : k < js.length := by rw [← nl_len, HJL.out]; exact hlt
        have hj := List.getElem?_eq_getElem hkj
        generalize js[k] = x at hj
        have hxm : x ≤ m := HME.out x (List.mem_of_getElem? hj)
        obtain ⟨b2, o2, x', hA2, _, hx2, hc2⟩ := HO5.out.rd.at_ (k := k) (by rw [HJL.out]; exact hlt)
        have hxx : x' = (x : Int) := by
          have h1 := hx2.out
          have h2 : (nl js)[k]? = some (x : Int) := by simp [nl, hj]
          rw [h2] at h1; exact (Option.some.inj h1).symm
        subst hxx
        subst hA2
        obtain ⟨b6, o6, z, hA6, _, hz6, hc6⟩ := HO2.out.rd.at_ (k := k) (by rw [HZL.out]; exact hlt)
        subst hA6
        have hzp : z = ppF rows k := by have h1 := hz6.out; rw [HZA.out k hlt] at h1; exact (Option.some.inj h1).symm
        obtain ⟨b4, o4, r, A4, c4, hA4, hr4, hc4, hcap4, hrd4⟩ := HR5.out.at_ hlt
        subst hA4
        have hrl : r.length = m := HRL.out r (List.mem_of_getElem? hr4.out)
        have hrg : rows.getD k [] = r := by rw [List.getD_eq_getElem?_getD, hr4.out]; rfl
        have hjg : js.getD k 0 = x := by rw [List.getD_eq_getElem?_getD, hj]; rfl
        have hpb := HPB.out k hlt
        rw [hrg, hjg, ← hzp] at hpb
        obtain ⟨v, hv⟩ : ∃ v, v = r.getD x 0 := ⟨_, rfl⟩
        rw [← hv] at hpb
        have hz0 : ¬ z < 0 := by omega
        clear hj hrg hjg hzp
        by_cases hxm2 : x < m
        · obtain ⟨b5, o5, v', hA5, _, hv5, hc5⟩ := hrd4.out.at_ (k := x) (by omega)
          subst hA5
          have hvv : v = v' := by rw [hv, List.getD_eq_getElem?_getD, hv5.out]; rfl
          subst hvv
          have hxlt : (x : Int) < (r.length : Int) := by omega
          have hzv : ¬ v < z := by omega
          clear hv hrl hxm hxm2 hpb
          go_wp2_with fail
          go_quiet (fail)
          go_wp2_with fail
          go_quiet (fail)
          go_wp2_with fail
          go_roundw
          case rel => exact ⟨k + 1, _, hlt, by go_num, rfl⟩
          case measure => simp [intOf]; omega
        · have hv0 : v = 0 := by rw [hv, List.getD_eq_getElem?_getD, List.getElem?_eq_none (by omega)]; rfl
          subst hv0
          have hxlt : ¬ (x : Int) < (r.length : Int) := by omega
          have hz00 : z = 0 := by omega
          subst hz00
          clear hv hrl hxm hxm2 hpb hz0
          go_wp2_with fail
          go_quiet (fail)
          go_wp2_with fail
          go_roundw
          case rel => exact ⟨k + 1, _, hlt, by go_num, rfl⟩
          case measure => simp [intOf]; omega
      · obtain rfl : k = rows.length := by omega
        go_wp2
        go_ret
        exact ⟨rfl, below_drewN' HB5.out q⟩
  · rw [pp_no hv] at HI HS
    clear hl6 hl6' hv HBP
    go_wp2_with fail
    refine (HI.out w1 hR).mono ?_
    rintro e w2 ⟨A2, c2, rfl, o2, b2⟩
    have B2 := b1.trans (b2.mono b1.size)
    go_wp2_with fail
    refine (HS.out w2 (hR.below b2)).mono ?_
    rintro e w3 ⟨A3, c3, rfl, o3, b3⟩
    have B3 := B2.trans (b3.mono B2.size)
    have o23 := o2.below b3
    have HQ := Lib.hid (equalU_any A2 A3 c2 c3 [] [] w3 o23.rd o3.rd (by simp))
    rw [eqB_self] at HQ
    have hR3 := (hR.below b2).below b3
    go_wp2_with fail
    refine HQ.out.mono ?_
    rintro e w4 ⟨rfl, n4, hw4⟩
    have b4 : Below w3.heap.size w3 w4 := by rw [hw4]; exact below_drewN' (Below.refl _ _) n4
    clear hw4 HQ
    go_wp2_with fail
    refine (HS.out w4 (hR3.below b4)).mono ?_
    rintro e w5 ⟨A5, c5, rfl, o5, b5⟩
    have b35 := b4.trans (b5.mono b4.size)
    have HQ2 := Lib.hid (equalU_any A2 A5 c2 c5 [] [] w5 (o23.below b35).rd o5.rd (by simp))
    rw [eqB_self] at HQ2
    have B5 := B3.trans (b35.mono B3.size)
    go_wp2_with fail
    refine HQ2.out.mono ?_
    rintro e w6 ⟨rfl, n6, rfl⟩
    go_wp2
    go_ret
    exact ⟨rfl, below_drewN' B5 n6⟩
end Go.Proofs.Ytkhpheebjkbihaa
