/-
  Chapter 8: the walk of FnMorePairsAreDearer.
-/
import Derived.Test.YtkhpheebjkbihabOr
import Derived.Test.YtkhpheebjkbihabNi
import Derived.Test.YtkhpheebjkbihabGP
import Derived.Test.YtkhpheebjkbihabVu
namespace Go.Proofs.Ytkhpheebjkbihab
open Go.RowKit

set_option maxHeartbeats 400000 in
theorem atMost_any (A B : Option Addr) (c d n : Nat) (xs ys : List Int) (w : World) (hx : Rd w A c xs) (hy : Rd w B d ys) (h1 : xs.length = n) (h2 : ys.length = n) (hl : n ≤ 1000) (h : ∀ (k : Nat) (x y : Int), xs[k]? = some x → ys[k]? = some y → x ≤ y) :
    Calls Try.prog 37 #[.slice A n c, .slice B n d] w fun e w' => e = .returned (.bool true) ∧ ∃ m, w' = w.drewN m := by
  have H1 := Lib.hid h1
  have H2 := Lib.hid h2
  clear h1 h2
  go_enter Try.func37, Try.ntmps37
  go_wp2
  go_loopw [5] (fun i wr => ∃ k q : Nat, k ≤ n ∧ i = .int .i64 (k : Int) ∧ wr = w.drewN q) (fun i _ => n - (intOf i).toNat)
  case atStart => exact ⟨0, 0, Nat.zero_le _, rfl, rfl⟩
  case round =>
    obtain ⟨k, q, hk, rfl, rfl⟩ := hrel
    by_cases hlt : k < n
    · obtain ⟨b1, o1, x, rfl, _, hxx, hcx⟩ := hx.at_ (k := k) (by rw [H1.out]; exact hlt)
      obtain ⟨b2, o2, y, rfl, _, hyy, hcy⟩ := hy.at_ (k := k) (by rw [H2.out]; exact hlt)
      have hle := h k x y hxx.out hyy.out
      have hgt : ¬ y < x := by omega
      clear hle hxx hyy
      go_wp2_with fail
      go_quiet (fail)
      go_wp2
      go_roundw
      case rel => exact ⟨k + 1, _, hlt, by go_num, rfl⟩
      case measure => simp [intOf]; omega
    · obtain rfl : k = n := by omega
      go_wp2
      go_ret
      exact ⟨rfl, q, rfl⟩

theorem more_pp {rows : List (List Int)} {n : Nat} (h : VR rows) (hn : rows.length = n + 1) (h1 : 1 ≤ n) : (pcL (rows.take n)).length = (RW rows 0).length ∧ (pcL rows).length = (RW rows 0).length ∧ (mpL (rows.take n)).length = (RW rows 0).length ∧ (mpL rows).length = (RW rows 0).length ∧
    (∀ (k : Nat) (x y : Int), (pcL (rows.take n))[k]? = some x → (pcL rows)[k]? = some y → x ≤ y) ∧ (∀ (k : Nat) (x y : Int), (mpL (rows.take n))[k]? = some x → (mpL rows)[k]? = some y → x ≤ y) := by
  obtain ⟨hk, _, _, h4⟩ := h.rk
  have ht := h.take_ h1 (by omega)
  have e : rows.take n = rows.eraseIdx n := by rw [List.eraseIdx_eq_take_drop_succ, List.drop_eq_nil_of_le (by omega), List.append_nil]
  have e0 : RW (rows.take n) 0 = RW rows 0 := by
    unfold RW
    rw [List.getD_eq_getElem?_getD, List.getD_eq_getElem?_getD, List.getElem?_take, if_pos (by omega)]
  rw [pc_yes h, pc_yes ht, mp_yes h, mp_yes ht, e0, e]
  have hk' := rk_erase hk n
  refine ⟨(pp_least h4 hk').1.1, (pp_least h4 hk).1.1, by simp, by simp, fun k x y hx hy => ?_, fun k x y hx hy => ?_⟩
  · have := pp_more h4 hk (i := n) (by omega) k
    simp only [P1, List.getD_eq_getElem?_getD, hx, hy, Option.getD_some] at this
    exact this
  · have hkm : k < (RW rows 0).length := by
      have := (List.getElem?_eq_some_iff.1 hx).1
      simpa using this
    have := mp_more h4 hk (i := n) (by omega) hkm
    simp [hkm] at hx hy
    omega

set_option maxRecDepth 100000 in
set_option maxHeartbeats 4000000 in
theorem fnMorePairsAreDearer_walk {A : Option Addr} {c : Nat} {xs : List Int} {w : World} (h : Came .u8 w A c xs) :
    Calls Try.prog 5 #[.slice A xs.length c] w fun e w' => e = .returned (.bool true) ∧ Below w.heap.size w w' := by
  by_cases hlen : 1048576 < xs.length
  · go_enter Try.func5, Try.ntmps5
    go_wp2
    go_ret
    exact ⟨rfl, Below.refl _ _⟩
  have hl1 : xs.length ≤ 1048576 := by omega
  have HD := Lib.hid (DrawPairPrices_any A c xs w h)
  clear hlen h
  go_enter Try.func5, Try.ntmps5
  go_wp2_with fail
  refine HD.out.mono ?_
  rintro e w1 ⟨A1, c1, rows, rfl, hR, hl4, hl6, b1⟩
  have hl6' : ∀ r ∈ rows, r.length ≤ 1099511627776 := fun r hr => by have := hl6 r hr; omega
  have HI := Lib.hid (fun w' (h' : RdR w' A1 c1 rows) => PairPrices_any A1 c1 rows w' h' (by omega) hl6')
  have HS := Lib.hid (fun w' (h' : RdR w' A1 c1 rows) => SPairPrices_any A1 c1 rows w' h' (by omega) hl6')
  have HM := Lib.hid (fun w' (h' : RdR w' A1 c1 rows) => MostPairPrices_any A1 c1 rows w' h' (by omega) hl6')
  have HV := Lib.hid (fun w' (h' : RdR w' A1 c1 rows) => ValidRows_any A1 c1 rows w' h' (by omega) hl6')
  have HL6 := Lib.hid hl6'
  have hpl : (pcL rows).length ≤ 1000 := pcL_len rows
  clear HD hl6 hl6'
  obtain ⟨ps, hps⟩ : ∃ ps, ps = pcL rows := ⟨_, rfl⟩
  have HPS := Lib.hid hps
  rw [← hps] at HI HS hpl
  clear hps
  go_wp2_with fail
  refine (HI.out w1 hR).mono ?_
  rintro e w2 ⟨A2, c2, rfl, o2, b2⟩
  have B2 := b1.trans (b2.mono b1.size)
  have hR2 := hR.below b2
  go_wp2_with fail
  refine (HS.out w2 hR2).mono ?_
  rintro e w3 ⟨A3, c3, rfl, o3, b3⟩
  have B3 := B2.trans (b3.mono B2.size)
  have hR3 := hR2.below b3
  have HQ := Lib.hid (equalU_any A2 A3 c2 c3 ps ps w3 (o2.below b3).rd o3.rd (by omega))
  rw [eqB_self] at HQ
  clear o2 o3 b1 b2 b3 B2 hR hR2 HS
  go_wp2_with fail
  refine HQ.out.mono ?_
  rintro e w4 ⟨rfl, n4, hw4⟩
  have b4 : Below w3.heap.size w3 w4 := by rw [hw4]; exact below_drewN' (Below.refl _ _) n4
  have HB4 := Lib.hid (B3.trans (b4.mono B3.size))
  have HR4 := Lib.hid (hR3.below b4)
  clear hw4 HQ b4 B3 hR3
  by_cases hn1 : (rows.length : Int) - 1 < 1
  · have hw1 : IntKind.i64.wrap ((rows.length : Int) - 1) = (rows.length : Int) - 1 := IntWalk.i64_in _ (by omega)
    go_wp2
    go_ret
    exact ⟨rfl, HB4.out⟩
  · obtain ⟨n, hn⟩ : ∃ n, rows.length = n + 1 := ⟨rows.length - 1, by omega⟩
    by_cases hv : VR rows
    · obtain ⟨l1, l2, l3, l4, hle1, hle2⟩ := more_pp hv hn (by omega)
      have HVY := Lib.hid (HV.out w4 HR4.out)
      rw [vr_true hv] at HVY
      obtain ⟨b, off, rfl, hcap, _⟩ := HR4.out.open_ (by omega)
      have hlt : (rows.take n).length = n := by rw [List.length_take]; omega
      have hm4 : (RW rows 0).length ≤ 4 := hv.rk.2.2.2
      rw [HPS.out] at HI
      obtain ⟨M, hM⟩ : ∃ M, M = (RW rows 0).length := ⟨_, rfl⟩
      rw [← hM] at l1 l2 l3 l4 hm4
      have HP1 : Hid (∀ w', RdR w' (some ⟨b, off, none⟩) c1 rows → Calls Try.prog 34 #[.slice (some ⟨b, off, none⟩) n c1] w' fun e w'' => ∃ A c, e = .returned (.slice A M c) ∧ Own w'' w'.heap.size A c (pcL (rows.take n)) ∧ Below w'.heap.size w' w'') := Lib.hid (fun w' h' => by
        have := PairPrices_any (some ⟨b, off, none⟩) c1 (rows.take n) w' (h'.take_ (c2 := c1) n (by omega)) (by omega) (fun r hr => HL6.out r (List.mem_of_mem_take hr))
        rw [hlt] at this; unfold NewL at this; rwa [l1] at this)
      have HP2 : Hid (∀ w', RdR w' (some ⟨b, off, none⟩) c1 rows → Calls Try.prog 34 #[.slice (some ⟨b, off, none⟩) rows.length c1] w' fun e w'' => ∃ A c, e = .returned (.slice A M c) ∧ Own w'' w'.heap.size A c (pcL rows) ∧ Below w'.heap.size w' w'') := Lib.hid (fun w' h' => by
        have := HI.out w' h'; unfold NewL at this; rwa [l2] at this)
      have HM1 : Hid (∀ w', RdR w' (some ⟨b, off, none⟩) c1 rows → Calls Try.prog 38 #[.slice (some ⟨b, off, none⟩) n c1] w' fun e w'' => ∃ A c, e = .returned (.slice A M c) ∧ Own w'' w'.heap.size A c (mpL (rows.take n)) ∧ Below w'.heap.size w' w'') := Lib.hid (fun w' h' => by
        have := MostPairPrices_any (some ⟨b, off, none⟩) c1 (rows.take n) w' (h'.take_ (c2 := c1) n (by omega)) (by omega) (fun r hr => HL6.out r (List.mem_of_mem_take hr))
        rw [hlt] at this; unfold NewL at this; rwa [l3] at this)
      have HM2 : Hid (∀ w', RdR w' (some ⟨b, off, none⟩) c1 rows → Calls Try.prog 38 #[.slice (some ⟨b, off, none⟩) rows.length c1] w' fun e w'' => ∃ A c, e = .returned (.slice A M c) ∧ Own w'' w'.heap.size A c (mpL rows) ∧ Below w'.heap.size w' w'') := Lib.hid (fun w' h' => by
        have := HM.out w' h'; unfold NewL at this; rwa [l4] at this)
      have HA1 := Lib.hid (fun (A B : Option Addr) (c d : Nat) (w' : World) (h1 : Rd w' A c (pcL (rows.take n))) (h2 : Rd w' B d (pcL rows)) => atMost_any A B c d M _ _ w' h1 h2 l1 l2 (by omega) hle1)
      have HA2 := Lib.hid (fun (A B : Option Addr) (c d : Nat) (w' : World) (h1 : Rd w' A c (mpL (rows.take n))) (h2 : Rd w' B d (mpL rows)) => atMost_any A B c d M _ _ w' h1 h2 l3 l4 (by omega) hle2)
      have hmi : (rows.length : Int) - 1 = (n : Int) := by omega
      have hmc : (n : Int) ≤ (c1 : Int) := by omega
      have hwm : IntKind.i64.wrap (n : Int) = (n : Int) := IntWalk.i64_in _ (by omega)
      have hn1' : ¬ (n : Int) < 1 := by omega
      clear hn1 hn hlt l1 l2 l3 l4 hle1 hle2 hv HI HM HV hM
      go_wp2_with fail
      refine HVY.out.mono ?_
      rintro e w5 ⟨rfl, b5⟩
      have HB5 := Lib.hid (HB4.out.trans (b5.mono HB4.out.size))
      have HR5 := Lib.hid (HR4.out.below b5)
      clear b5
      go_wp2_with fail
      refine (HP1.out w5 HR5.out).mono ?_
      rintro e w6 ⟨A6, c6, rfl, o6, b6⟩
      have HB6 := Lib.hid (HB5.out.trans (b6.mono HB5.out.size))
      have HR6 := Lib.hid (HR5.out.below b6)
      go_wp2_with fail
      refine (HP2.out w6 HR6.out).mono ?_
      rintro e w7 ⟨A7, c7, rfl, o7, b7⟩
      have HB7 := Lib.hid (HB6.out.trans (b7.mono HB6.out.size))
      have HR7 := Lib.hid (HR6.out.below b7)
      have HC1 := Lib.hid (HA1.out A6 A7 c6 c7 w7 (o6.below b7).rd o7.rd)
      clear b6 b7 o6 o7
      go_wp2_with fail
      refine HC1.out.mono ?_
      rintro e w8 ⟨rfl, q8, hw8⟩
      have b8 : Below w7.heap.size w7 w8 := by rw [hw8]; exact below_drewN' (Below.refl _ _) q8
      have HB8 := Lib.hid (HB7.out.trans (b8.mono HB7.out.size))
      have HR8 := Lib.hid (HR7.out.below b8)
      clear hw8 b8
      go_wp2_with fail
      refine (HM1.out w8 HR8.out).mono ?_
      rintro e w9 ⟨A9, c9, rfl, o9, b9⟩
      have HB9 := Lib.hid (HB8.out.trans (b9.mono HB8.out.size))
      have HR9 := Lib.hid (HR8.out.below b9)
      go_wp2_with fail
      refine (HM2.out w9 HR9.out).mono ?_
      rintro e wa ⟨Aa, ca, rfl, oa, ba⟩
      have HBa := Lib.hid (HB9.out.trans (ba.mono HB9.out.size))
      have HC2 := Lib.hid (HA2.out A9 Aa c9 ca wa (o9.below ba).rd oa.rd)
      clear b9 ba o9 oa
      go_wp2_with fail
      refine HC2.out.mono ?_
      rintro e wb ⟨rfl, qb, rfl⟩
      go_wp2
      go_ret
      exact ⟨rfl, below_drewN' HBa.out qb⟩
    · have HVN := Lib.hid (HV.out w4 HR4.out)
      rw [vr_false hv] at HVN
      clear hv hn
      go_wp2_with fail
      refine HVN.out.mono ?_
      rintro e w5 ⟨rfl, b5⟩
      have B5 := HB4.out.trans (b5.mono HB4.out.size)
      go_wp2
      go_ret
      exact ⟨rfl, B5⟩
end Go.Proofs.Ytkhpheebjkbihab
