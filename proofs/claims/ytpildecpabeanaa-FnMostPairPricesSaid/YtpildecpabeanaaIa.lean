/-
  Chapter 8, the program: the best pairs, and where they lie.
-/
import Derived.Test.YtpildecpabeanaaOj
namespace Go.Proofs.Ytpildecpabeanaa
open Go.RowKit

/-- Pairs in memory, all from the block N on. -/
def PLn (N : Nat) (w : World) : Value → List (Int × Int) → Prop
  | v, [] => v = .pointer none
  | v, t :: ts => ∃ b rest, v = .pointer (some ⟨b, 0, none⟩) ∧ N ≤ b ∧ w.cell? ⟨b, 0, none⟩ = some (.int .i64 t.1) ∧ w.cell? ⟨b, 1, none⟩ = some (.int .i64 t.2) ∧ w.cell? ⟨b, 2, none⟩ = some rest ∧ PLn N w rest ts
theorem PLn.below {N : Nat} {w w' : World} : ∀ {ts : List (Int × Int)} {v : Value}, PLn N w v ts → Below w.heap.size w w' → PLn N w' v ts := by
  intro ts
  induction ts with
  | nil => intro v h _; exact h
  | cons t ts ih =>
    intro v h hb
    obtain ⟨b, rest, hv, hN, h0, h1, h2, hr⟩ := h
    have k := fun (j : Nat) (u : Value) (hc : w.cell? ⟨b, j, none⟩ = some u) => (hb.cell (p := ⟨b, j, none⟩) (World.block_lt_of_cell? w _ hc)).trans hc
    exact ⟨b, rest, hv, hN, k 0 _ h0, k 1 _ h1, k 2 _ h2, ih hr hb⟩
theorem PLn.base {N N' : Nat} {w : World} : ∀ {ts : List (Int × Int)} {v : Value}, PLn N w v ts → N' ≤ N → PLn N' w v ts := by
  intro ts
  induction ts with
  | nil => intro v h _; exact h
  | cons t ts ih =>
    intro v h hN
    obtain ⟨b, rest, hv, hb, h0, h1, h2, hr⟩ := h
    exact ⟨b, rest, hv, Nat.le_trans hN hb, h0, h1, h2, ih hr hN⟩
theorem PLn.pls {N : Nat} {w : World} : ∀ {ts : List (Int × Int)} {v : Value}, PLn N w v ts → PLs w v ts := by
  intro ts
  induction ts with
  | nil => intro v h; exact h
  | cons t ts ih =>
    intro v h
    obtain ⟨b, rest, hv, hb, h0, h1, h2, hr⟩ := h
    exact ⟨b, rest, hv, h0, h1, h2, ih hr⟩
/-- A pointer to new pairs, all in new blocks. -/
def Ptr2Is (w : World) (ts : List (Int × Int)) (e : Ending) (w' : World) : Prop := ∃ v, e = .returned v ∧ PLn w.heap.size w' v ts ∧ Below w.heap.size w w'

set_option maxRecDepth 100000 in
set_option maxHeartbeats 4000000 in
theorem bestFrom2_any (m : Nat) (hm : m ≤ 4) (hm1 : 1 ≤ m) : ∀ (rows : List (List Int)), Rk m rows → R12 rows → rows.length ≤ 4 → ∀ (A : Option Addr) (c u : Nat) (w : World), u < 2 ^ m → RdR w A c rows →
    Calls Try.prog 99 #[.slice A rows.length c, .int .i64 (u : Int)] w (Ptr2Is w (prs rows (pb rows u).2)) := by
  intro rows
  induction rows with
  | nil =>
    intro _ _ _ A c u w hu hR
    go_enter Try.func99, Try.ntmps99
    go_wp2
    go_ret
    exact ⟨_, rfl, rfl, Below.refl _ _⟩
  | cons r rs ih =>
    intro hk h12 hl A c u w hu hR
    obtain ⟨b, off, r', A', c', rfl, hr, hc, hcap, hrd⟩ := hR.at_ (k := 0) (by simp)
    obtain rfl : r = r' := by have := hr.out; simpa using this
    have hrm := hk.head.1
    have hlc : (r :: rs).length = rs.length + 1 := List.length_cons
    have hnz : (((rs.length : Nat) : Int) + 1 == 0) = false := by simp; omega
    rw [hlc]
    rw [Nat.add_zero] at hc
    clear hr
    have hwn : Calls Try.prog 108 #[.slice A' m c'] w fun e w' => ∃ A1 c1, e = .returned (.slice A1 (m + 1) c1) ∧ Own w' w.heap.size A1 c1 (r ++ [0]) ∧ Below w.heap.size w w' := by
      have := withNone_any A' c' r w hrd.out (by omega) hcap.out (by omega)
      rw [hrm] at this
      refine this.mono ?_
      rintro e w' ⟨A1, c1, he, o, b⟩
      exact ⟨A1, c1, by rw [he]; simp [hrm], o, b⟩
    have HWN := Lib.hid hwn
    clear hwn
    have HR0 := Lib.hid hR
    have HK := Lib.hid hk
    have H12 := Lib.hid h12
    have HV12 : Hid (∀ r' ∈ r :: rs, ∀ j, 0 ≤ r'.getD j 0 ∧ r'.getD j 0 ≤ 12) := Lib.hid (fun r' hr' j => ⟨(hk r' hr').2 j, h12 r' hr' j⟩)
    have hlc2 : rs.length + 1 ≤ 4 := by omega
    have hcl : rs.length + 1 ≤ c := by have := hR.1; rw [List.length_cons] at this; exact this
    clear hR hk h12 hrd hcap hl
    go_enter Try.func99, Try.ntmps99
    by_cases hcc : c = 1
    · subst hcc
      have HRS0 : Hid (rs = []) := Lib.hid (List.eq_nil_of_length_eq_zero (by omega))

      have H12T : Hid (R12 rs) := Lib.hid (fun x hx => H12.out x (List.mem_cons_of_mem _ hx))
      have hrl3 : rs.length ≤ 4 := by omega
      have HIH : Hid (∀ (v : Nat) (w3 : World), v < 2 ^ m → RdR w3 (some ⟨b, off, none⟩) 0 rs → Calls Try.prog 99 #[.slice (some ⟨b, off, none⟩) rs.length 0, .int .i64 (v : Int)] w3 (Ptr2Is w3 (prs rs (pb rs v).2))) := Lib.hid (fun v w3 hv h3 => ih HK.out.tail H12T.out hrl3 (some ⟨b, off, none⟩) 0 v w3 hv h3)
      have HVL := Lib.hid (fun k => pbTo_vl HK.out u k)
      clear ih hrl3
      go_wp2_with fail
      refine HWN.out.mono ?_
      rintro e w1 ⟨A1, c1, rfl, o1, b1⟩
      clear HWN
      have HO1 := Lib.hid o1
      have HB1 := Lib.hid b1
      clear o1 b1
      go_wp2_with fail
      go_loopw [5, 23] (fun best i wr => ∃ k : Nat, k ≤ m + 1 ∧ i = .int .i64 k ∧ Hid (PLn w.heap.size wr best (prs (r :: rs) (pbTo (pb rs) r u k).2)) ∧ Hid (Below w1.heap.size w1 wr)) (fun _ i _ => m + 1 - (intOf i).toNat)
      case atStart => exact ⟨0, Nat.zero_le _, rfl, Lib.hid rfl, Lib.hid (Below.refl _ _)⟩
      case round =>
        obtain ⟨k, hk1, rfl, HP, HB⟩ := hrel
        have HO := Lib.hid (HO1.out.below HB.out)
        have HR := Lib.hid (HR0.out.below (HB1.out.trans (HB.out.mono HB1.out.size)))
        have HVL := Lib.hid (HVL.out k)
        by_cases hkm : k < m + 1
        · obtain ⟨b2, o2, x, hA1, _, hx, hcx⟩ := HO.out.rd.at_ (k := k) (by simp [hrm]; omega)
          subst hA1
          have HX : Hid (r.getD k 0 = x) := Lib.hid (by
            have h1 := hx.out
            rw [List.getD_eq_getElem?_getD]
            rcases Nat.lt_or_ge k r.length with h2 | h2
            · rw [List.getElem?_append_left h2] at h1; rw [h1]; rfl
            · rw [List.getElem?_append_right h2] at h1
              have : k - r.length = 0 := by omega
              rw [this] at h1
              rw [List.getElem?_eq_none h2]
              simpa using h1)
          have hx0 := HK.out.head.2 k
          have hx1 := H12.out r (by simp) k
          rw [HX.out] at hx0 hx1
          obtain ⟨p, hp⟩ : ∃ p, p = 2 ^ k := ⟨_, rfl⟩
          have hsh : wrap64 ((2 : Int) ^ k) = (p : Int) := by rw [hp]; exact sh_pow (by omega)
          have hp1 : 1 ≤ p := by rw [hp]; exact Nat.two_pow_pos k
          have hand := and_pow5 (u := u) (k := k) (by have := Nat.pow_le_pow_right (n := 2) (by omega) hm; omega) (by omega)
          have hpz := pos_ne hp1
          have hk1' : k ≤ m := by omega
          by_cases hb : u / 2 ^ k % 2 = 1
          · have hkm' : k < m := by
              rcases Nat.lt_or_ge k m with h | h
              · exact h
              · have : k = m := by omega
                rw [this, Nat.div_eq_of_lt hu] at hb
                simp at hb
            have HE := Lib.hid (pbTo_skip (rest := pb rs) (r := r) (u := u) (k := k) (by omega) hb)
            have hand2 : bits .and .i64 (u : Int) ((2 ^ k : Nat) : Int) = ((2 ^ k : Nat) : Int) := by rw [hand, hb, Nat.one_mul]
            rw [← hp] at hand2
            clear hand hb hp
            go_wp2
            go_roundw
            case rel => exact ⟨k + 1, by omega, by go_num, Lib.hid (by rw [HE.out]; exact HP.out), HB⟩
            case measure => simp [intOf]; omega
          · have hand2 : bits .and .i64 (u : Int) ((2 ^ k : Nat) : Int) = 0 := by rw [hand, show u / 2 ^ k % 2 = 0 by omega, Nat.zero_mul]; rfl
            rw [← hp] at hand2
            have HF : Hid (isTk r.length u k = false) := Lib.hid (by simp [isTk, hb])
            have hub : u < 16 := by have := Nat.pow_le_pow_right (n := 2) (by omega) hm; omega
            by_cases hkl : k < m
            · have hv16 : u + 2 ^ k < 2 ^ m := nx_lt hm hu hkl (by omega)
              rw [← hp] at hv16
              have hup := up_in hm hv16
              have HV : Hid (nxU r.length u k = u + p) := Lib.hid (by unfold nxU; rw [if_pos (by omega), hp])
              clear hand hb hp

              obtain ⟨y, js, hyj⟩ : ∃ y js, pb rs (u + p) = (y, js) := ⟨_, _, rfl⟩
              have hjv := (pb_mt HK.out.tail (u + p)).2
              have hy0 := pb_nonneg HK.out.tail (u + p)
              have hjl := pb_len HK.out.tail (u + p)
              have HC' := HIH.out (u + p) wr hv16 ((by rw [HRS0.out]; exact ⟨Nat.zero_le _, .inl ⟨rfl, fun e => by cases e⟩⟩))
              rw [hyj] at hjv hy0 hjl HC'
              simp only at hjv hy0 hjl HC'
              have hcast : (((u + p : Nat)) : Int) = (u : Int) + (p : Int) := by omega
              rw [hcast] at HC'
              have HC : Hid (Calls Try.prog 99 #[.slice (some ⟨b, off, none⟩) 0 0, .int .i64 ((u : Int) + (p : Int))] wr (Ptr2Is wr (prs rs js))) := Lib.hid (by have h9 := HC'; rw [show rs.length = 0 by rw [HRS0.out]; rfl] at h9; exact h9)
              have HJV := Lib.hid hjv
              have HOPT : Hid (optP (pb rs) r u k = (x + y, k :: js)) := Lib.hid (by rw [optP, HX.out, HV.out, hyj])
              clear HC' hjv hyj hjl
              go_wp2_with fail

              refine HC.out.mono ?_
              rintro e w2 ⟨v0, rfl, hv2, b2'⟩
              obtain ⟨ao, rfl⟩ := pls_ptr hv2.pls
              have HB2 := Lib.hid (HB.out.trans (b2'.mono HB.out.size))
              have hal := (Below.refl w2.heap.size w2).alloc (Nat.le_refl _) (.cells #[.int .i64 (k : Int), .int .i64 x, .pointer ao] 93)
              have HB3 := Lib.hid (HB2.out.trans (hal.mono HB2.out.size))
              have HPN : Hid (PLn w.heap.size (w2.alloc (.cells #[.int .i64 (k : Int), .int .i64 x, .pointer ao] 93)) (.pointer (some ⟨w2.heap.size, 0, none⟩)) (prs (r :: rs) (k :: js))) := Lib.hid (by
                refine ⟨w2.heap.size, .pointer ao, rfl, Nat.le_trans HB1.out.size HB2.out.size, ?_, ?_, ?_, (hv2.base (Nat.le_trans HB1.out.size HB.out.size)).below hal⟩
                · rw [World.cell?_alloc_new]; rfl
                · rw [World.cell?_alloc_new, HX.out]; rfl
                · rw [World.cell?_alloc_new]; rfl)
              have HPO := Lib.hid (HP.out.below (b2'.trans (hal.mono b2'.size)))
              have HBD2 := Lib.hid (prs_bd HV12.out (k :: js))
              have HBDO := Lib.hid (prs_bd HV12.out (pbTo (pb rs) r u k).2)
              clear b2' hal hv2
              rcases HVL.out with hnone | ⟨hvl, hz0, j0, js0, hcons⟩
              · have HE := Lib.hid (pbTo_new (rest := pb rs) (r := r) (u := u) (k := k) HF.out (by rw [hnone, HOPT.out]; show (-1 : Int) < x + y; omega))
                have hu5 : u5 = .pointer none := by have := HP.out; rw [hnone] at this; exact this
                subst hu5
                clear hnone
                go_wp2
                go_roundw
                case rel => exact ⟨k + 1, by omega, by go_num, Lib.hid (by rw [HE.out, HOPT.out]; exact HPN.out), HB3⟩
                case measure => simp [intOf]; omega
              · have hu5 : ∃ bb, u5 = .pointer (some ⟨bb, 0, none⟩) := by
                  have := HP.out; rw [hcons] at this
                  obtain ⟨bb, _, e, _⟩ := this
                  exact ⟨bb, e⟩
                obtain ⟨bb, rfl⟩ := hu5
                have hl1 : (prs (r :: rs) (k :: js)).length ≤ 4 := by have := HBD2.out.1; rw [List.length_cons] at this; omega
                have hl2 : (prs (r :: rs) (pbTo (pb rs) r u k).2).length ≤ 4 := by have := HBDO.out.1; rw [List.length_cons] at this; omega
                have e1 : smP (prs (r :: rs) (k :: js)) = x + y := by rw [smP_prs]; simp only [vl]; rw [HX.out, HJV.out]
                have e2 : smP (prs (r :: rs) (pbTo (pb rs) r u k).2) = (pbTo (pb rs) r u k).1 := by rw [smP_prs, hvl]
                have HS1 : Hid (Calls Try.prog 101 #[.pointer (some ⟨w2.heap.size, 0, none⟩)] (w2.alloc (.cells #[.int .i64 (k : Int), .int .i64 x, .pointer ao] 93)) fun e w' => e = .returned (.int .i64 (x + y)) ∧ ∃ q, w' = (w2.alloc (.cells #[.int .i64 (k : Int), .int .i64 x, .pointer ao] 93)).drewN q) := Lib.hid (by have := sum_any _ _ _ HPN.out.pls hl1 HBD2.out.2; rw [e1] at this; exact this)
                have HS2 : Hid (∀ n, Calls Try.prog 101 #[.pointer (some ⟨bb, 0, none⟩)] ((w2.alloc (.cells #[.int .i64 (k : Int), .int .i64 x, .pointer ao] 93)).drewN n) fun e w' => e = .returned (.int .i64 (pbTo (pb rs) r u k).1) ∧ ∃ q, w' = ((w2.alloc (.cells #[.int .i64 (k : Int), .int .i64 x, .pointer ao] 93)).drewN n).drewN q) := Lib.hid (fun n => by have := sum_any _ _ _ (PLs.below (w' := (w2.alloc (.cells #[.int .i64 (k : Int), .int .i64 x, .pointer ao] 93)).drewN n) (below_drewN' (Below.refl _ _) n) HPO.out.pls) hl2 HBDO.out.2; rw [e2] at this; exact this)
                clear e1 e2 hl1 hl2
                obtain ⟨z, hz⟩ : ∃ z, z = (pbTo (pb rs) r u k).1 := ⟨_, rfl⟩
                rw [← hz] at HS2 hz0 hvl
                by_cases hgt : z < x + y
                · have HE := Lib.hid (pbTo_new (rest := pb rs) (r := r) (u := u) (k := k) HF.out (by rw [← hz, HOPT.out]; exact hgt))
                  have hgtb : decide (x + y > z) = true := by simp; omega
                  clear hgt hz hcons hvl hz0
                  go_wp2_with fail
                  refine HS1.out.mono ?_
                  rintro e w5 ⟨rfl, q1, rfl⟩
                  go_wp2_with fail
                  refine (HS2.out q1).mono ?_
                  rintro e w5 ⟨rfl, q2, rfl⟩
                  go_wp2
                  go_roundw
                  case rel => exact ⟨k + 1, by omega, by go_num, Lib.hid (by rw [HE.out, HOPT.out]; exact HPN.out.below (below_drewN' (Below.refl _ _) (q1 + q2))), Lib.hid (below_drewN' HB3.out (q1 + q2))⟩
                  case measure => simp [intOf]; omega
                · have HE := Lib.hid (pbTo_old (rest := pb rs) (r := r) (u := u) (k := k) HF.out (by rw [← hz, HOPT.out]; exact hgt))
                  have hgtb : decide (x + y > z) = false := by simp; omega
                  clear hgt hz hcons hvl hz0
                  go_wp2_with fail
                  refine HS1.out.mono ?_
                  rintro e w5 ⟨rfl, q1, rfl⟩
                  go_wp2_with fail
                  refine (HS2.out q1).mono ?_
                  rintro e w5 ⟨rfl, q2, rfl⟩
                  go_wp2
                  go_roundw
                  case rel => exact ⟨k + 1, by omega, by go_num, Lib.hid (by rw [HE.out]; exact HPO.out.below (below_drewN' (Below.refl _ _) (q1 + q2))), Lib.hid (below_drewN' HB3.out (q1 + q2))⟩
                  case measure => simp [intOf]; omega

            · have hkl' : k = m := by omega
              have HV : Hid (nxU r.length u k = u) := Lib.hid (by unfold nxU; rw [if_neg (by omega)])
              have hkn : ¬ (k : Int) < (m : Int) := by omega
              clear hand hb hp hkl' hkl

              obtain ⟨y, js, hyj⟩ : ∃ y js, pb rs (u) = (y, js) := ⟨_, _, rfl⟩
              have hjv := (pb_mt HK.out.tail (u)).2
              have hy0 := pb_nonneg HK.out.tail (u)
              have hjl := pb_len HK.out.tail (u)
              have HC' := HIH.out (u) wr hu ((by rw [HRS0.out]; exact ⟨Nat.zero_le _, .inl ⟨rfl, fun e => by cases e⟩⟩))
              rw [hyj] at hjv hy0 hjl HC'
              simp only at hjv hy0 hjl HC'
              skip
              have HC : Hid (Calls Try.prog 99 #[.slice (some ⟨b, off, none⟩) 0 0, .int .i64 ((u : Int))] wr (Ptr2Is wr (prs rs js))) := Lib.hid (by have h9 := HC'; rw [show rs.length = 0 by rw [HRS0.out]; rfl] at h9; exact h9)
              have HJV := Lib.hid hjv
              have HOPT : Hid (optP (pb rs) r u k = (x + y, k :: js)) := Lib.hid (by rw [optP, HX.out, HV.out, hyj])
              clear HC' hjv hyj hjl
              go_wp2_with fail

              refine HC.out.mono ?_
              rintro e w2 ⟨v0, rfl, hv2, b2'⟩
              obtain ⟨ao, rfl⟩ := pls_ptr hv2.pls
              have HB2 := Lib.hid (HB.out.trans (b2'.mono HB.out.size))
              have hal := (Below.refl w2.heap.size w2).alloc (Nat.le_refl _) (.cells #[.int .i64 (k : Int), .int .i64 x, .pointer ao] 93)
              have HB3 := Lib.hid (HB2.out.trans (hal.mono HB2.out.size))
              have HPN : Hid (PLn w.heap.size (w2.alloc (.cells #[.int .i64 (k : Int), .int .i64 x, .pointer ao] 93)) (.pointer (some ⟨w2.heap.size, 0, none⟩)) (prs (r :: rs) (k :: js))) := Lib.hid (by
                refine ⟨w2.heap.size, .pointer ao, rfl, Nat.le_trans HB1.out.size HB2.out.size, ?_, ?_, ?_, (hv2.base (Nat.le_trans HB1.out.size HB.out.size)).below hal⟩
                · rw [World.cell?_alloc_new]; rfl
                · rw [World.cell?_alloc_new, HX.out]; rfl
                · rw [World.cell?_alloc_new]; rfl)
              have HPO := Lib.hid (HP.out.below (b2'.trans (hal.mono b2'.size)))
              have HBD2 := Lib.hid (prs_bd HV12.out (k :: js))
              have HBDO := Lib.hid (prs_bd HV12.out (pbTo (pb rs) r u k).2)
              clear b2' hal hv2
              rcases HVL.out with hnone | ⟨hvl, hz0, j0, js0, hcons⟩
              · have HE := Lib.hid (pbTo_new (rest := pb rs) (r := r) (u := u) (k := k) HF.out (by rw [hnone, HOPT.out]; show (-1 : Int) < x + y; omega))
                have hu5 : u5 = .pointer none := by have := HP.out; rw [hnone] at this; exact this
                subst hu5
                clear hnone
                go_wp2
                go_roundw
                case rel => exact ⟨k + 1, by omega, by go_num, Lib.hid (by rw [HE.out, HOPT.out]; exact HPN.out), HB3⟩
                case measure => simp [intOf]; omega
              · have hu5 : ∃ bb, u5 = .pointer (some ⟨bb, 0, none⟩) := by
                  have := HP.out; rw [hcons] at this
                  obtain ⟨bb, _, e, _⟩ := this
                  exact ⟨bb, e⟩
                obtain ⟨bb, rfl⟩ := hu5
                have hl1 : (prs (r :: rs) (k :: js)).length ≤ 4 := by have := HBD2.out.1; rw [List.length_cons] at this; omega
                have hl2 : (prs (r :: rs) (pbTo (pb rs) r u k).2).length ≤ 4 := by have := HBDO.out.1; rw [List.length_cons] at this; omega
                have e1 : smP (prs (r :: rs) (k :: js)) = x + y := by rw [smP_prs]; simp only [vl]; rw [HX.out, HJV.out]
                have e2 : smP (prs (r :: rs) (pbTo (pb rs) r u k).2) = (pbTo (pb rs) r u k).1 := by rw [smP_prs, hvl]
                have HS1 : Hid (Calls Try.prog 101 #[.pointer (some ⟨w2.heap.size, 0, none⟩)] (w2.alloc (.cells #[.int .i64 (k : Int), .int .i64 x, .pointer ao] 93)) fun e w' => e = .returned (.int .i64 (x + y)) ∧ ∃ q, w' = (w2.alloc (.cells #[.int .i64 (k : Int), .int .i64 x, .pointer ao] 93)).drewN q) := Lib.hid (by have := sum_any _ _ _ HPN.out.pls hl1 HBD2.out.2; rw [e1] at this; exact this)
                have HS2 : Hid (∀ n, Calls Try.prog 101 #[.pointer (some ⟨bb, 0, none⟩)] ((w2.alloc (.cells #[.int .i64 (k : Int), .int .i64 x, .pointer ao] 93)).drewN n) fun e w' => e = .returned (.int .i64 (pbTo (pb rs) r u k).1) ∧ ∃ q, w' = ((w2.alloc (.cells #[.int .i64 (k : Int), .int .i64 x, .pointer ao] 93)).drewN n).drewN q) := Lib.hid (fun n => by have := sum_any _ _ _ (PLs.below (w' := (w2.alloc (.cells #[.int .i64 (k : Int), .int .i64 x, .pointer ao] 93)).drewN n) (below_drewN' (Below.refl _ _) n) HPO.out.pls) hl2 HBDO.out.2; rw [e2] at this; exact this)
                clear e1 e2 hl1 hl2
                obtain ⟨z, hz⟩ : ∃ z, z = (pbTo (pb rs) r u k).1 := ⟨_, rfl⟩
                rw [← hz] at HS2 hz0 hvl
                by_cases hgt : z < x + y
                · have HE := Lib.hid (pbTo_new (rest := pb rs) (r := r) (u := u) (k := k) HF.out (by rw [← hz, HOPT.out]; exact hgt))
                  have hgtb : decide (x + y > z) = true := by simp; omega
                  clear hgt hz hcons hvl hz0
                  go_wp2_with fail
                  refine HS1.out.mono ?_
                  rintro e w5 ⟨rfl, q1, rfl⟩
                  go_wp2_with fail
                  refine (HS2.out q1).mono ?_
                  rintro e w5 ⟨rfl, q2, rfl⟩
                  go_wp2
                  go_roundw
                  case rel => exact ⟨k + 1, by omega, by go_num, Lib.hid (by rw [HE.out, HOPT.out]; exact HPN.out.below (below_drewN' (Below.refl _ _) (q1 + q2))), Lib.hid (below_drewN' HB3.out (q1 + q2))⟩
                  case measure => simp [intOf]; omega
                · have HE := Lib.hid (pbTo_old (rest := pb rs) (r := r) (u := u) (k := k) HF.out (by rw [← hz, HOPT.out]; exact hgt))
                  have hgtb : decide (x + y > z) = false := by simp; omega
                  clear hgt hz hcons hvl hz0
                  go_wp2_with fail
                  refine HS1.out.mono ?_
                  rintro e w5 ⟨rfl, q1, rfl⟩
                  go_wp2_with fail
                  refine (HS2.out q1).mono ?_
                  rintro e w5 ⟨rfl, q2, rfl⟩
                  go_wp2
                  go_roundw
                  case rel => exact ⟨k + 1, by omega, by go_num, Lib.hid (by rw [HE.out]; exact HPO.out.below (below_drewN' (Below.refl _ _) (q1 + q2))), Lib.hid (below_drewN' HB3.out (q1 + q2))⟩
                  case measure => simp [intOf]; omega

        · have HEND : Hid (pb (r :: rs) u = pbTo (pb rs) r u k) := Lib.hid (by rw [pb, hrm, show k = m + 1 by omega])
          have hkn : ¬ (k : Int) < (m : Int) + 1 := by omega
          clear hkm hk1
          go_wp2
          go_ret
          rw [HEND.out]
          exact ⟨_, rfl, HP.out, HB1.out.trans (HB.out.mono HB1.out.size)⟩
    · have hcc2 : c - 1 ≠ 0 := by omega

      have H12T : Hid (R12 rs) := Lib.hid (fun x hx => H12.out x (List.mem_cons_of_mem _ hx))
      have hrl3 : rs.length ≤ 4 := by omega
      have HIH : Hid (∀ (v : Nat) (w3 : World), v < 2 ^ m → RdR w3 (some ⟨b, off + 1, none⟩) (c - 1) rs → Calls Try.prog 99 #[.slice (some ⟨b, off + 1, none⟩) rs.length (c - 1), .int .i64 (v : Int)] w3 (Ptr2Is w3 (prs rs (pb rs v).2))) := Lib.hid (fun v w3 hv h3 => ih HK.out.tail H12T.out hrl3 (some ⟨b, off + 1, none⟩) (c - 1) v w3 hv h3)
      have HVL := Lib.hid (fun k => pbTo_vl HK.out u k)
      clear ih hrl3
      go_wp2_with fail
      refine HWN.out.mono ?_
      rintro e w1 ⟨A1, c1, rfl, o1, b1⟩
      clear HWN
      have HO1 := Lib.hid o1
      have HB1 := Lib.hid b1
      clear o1 b1
      go_wp2_with fail
      go_loopw [5, 23] (fun best i wr => ∃ k : Nat, k ≤ m + 1 ∧ i = .int .i64 k ∧ Hid (PLn w.heap.size wr best (prs (r :: rs) (pbTo (pb rs) r u k).2)) ∧ Hid (Below w1.heap.size w1 wr)) (fun _ i _ => m + 1 - (intOf i).toNat)
      case atStart => exact ⟨0, Nat.zero_le _, rfl, Lib.hid rfl, Lib.hid (Below.refl _ _)⟩
      case round =>
        obtain ⟨k, hk1, rfl, HP, HB⟩ := hrel
        have HO := Lib.hid (HO1.out.below HB.out)
        have HR := Lib.hid (HR0.out.below (HB1.out.trans (HB.out.mono HB1.out.size)))
        have HVL := Lib.hid (HVL.out k)
        by_cases hkm : k < m + 1
        · obtain ⟨b2, o2, x, hA1, _, hx, hcx⟩ := HO.out.rd.at_ (k := k) (by simp [hrm]; omega)
          subst hA1
          have HX : Hid (r.getD k 0 = x) := Lib.hid (by
            have h1 := hx.out
            rw [List.getD_eq_getElem?_getD]
            rcases Nat.lt_or_ge k r.length with h2 | h2
            · rw [List.getElem?_append_left h2] at h1; rw [h1]; rfl
            · rw [List.getElem?_append_right h2] at h1
              have : k - r.length = 0 := by omega
              rw [this] at h1
              rw [List.getElem?_eq_none h2]
              simpa using h1)
          have hx0 := HK.out.head.2 k
          have hx1 := H12.out r (by simp) k
          rw [HX.out] at hx0 hx1
          obtain ⟨p, hp⟩ : ∃ p, p = 2 ^ k := ⟨_, rfl⟩
          have hsh : wrap64 ((2 : Int) ^ k) = (p : Int) := by rw [hp]; exact sh_pow (by omega)
          have hp1 : 1 ≤ p := by rw [hp]; exact Nat.two_pow_pos k
          have hand := and_pow5 (u := u) (k := k) (by have := Nat.pow_le_pow_right (n := 2) (by omega) hm; omega) (by omega)
          have hpz := pos_ne hp1
          have hk1' : k ≤ m := by omega
          by_cases hb : u / 2 ^ k % 2 = 1
          · have hkm' : k < m := by
              rcases Nat.lt_or_ge k m with h | h
              · exact h
              · have : k = m := by omega
                rw [this, Nat.div_eq_of_lt hu] at hb
                simp at hb
            have HE := Lib.hid (pbTo_skip (rest := pb rs) (r := r) (u := u) (k := k) (by omega) hb)
            have hand2 : bits .and .i64 (u : Int) ((2 ^ k : Nat) : Int) = ((2 ^ k : Nat) : Int) := by rw [hand, hb, Nat.one_mul]
            rw [← hp] at hand2
            clear hand hb hp
            go_wp2
            go_roundw
            case rel => exact ⟨k + 1, by omega, by go_num, Lib.hid (by rw [HE.out]; exact HP.out), HB⟩
            case measure => simp [intOf]; omega
          · have hand2 : bits .and .i64 (u : Int) ((2 ^ k : Nat) : Int) = 0 := by rw [hand, show u / 2 ^ k % 2 = 0 by omega, Nat.zero_mul]; rfl
            rw [← hp] at hand2
            have HF : Hid (isTk r.length u k = false) := Lib.hid (by simp [isTk, hb])
            have hub : u < 16 := by have := Nat.pow_le_pow_right (n := 2) (by omega) hm; omega
            by_cases hkl : k < m
            · have hv16 : u + 2 ^ k < 2 ^ m := nx_lt hm hu hkl (by omega)
              rw [← hp] at hv16
              have hup := up_in hm hv16
              have HV : Hid (nxU r.length u k = u + p) := Lib.hid (by unfold nxU; rw [if_pos (by omega), hp])
              clear hand hb hp

              obtain ⟨y, js, hyj⟩ : ∃ y js, pb rs (u + p) = (y, js) := ⟨_, _, rfl⟩
              have hjv := (pb_mt HK.out.tail (u + p)).2
              have hy0 := pb_nonneg HK.out.tail (u + p)
              have hjl := pb_len HK.out.tail (u + p)
              have HC' := HIH.out (u + p) wr hv16 ((HR.out.drop_ 1 (by rw [List.length_cons]; omega)))
              rw [hyj] at hjv hy0 hjl HC'
              simp only at hjv hy0 hjl HC'
              have hcast : (((u + p : Nat)) : Int) = (u : Int) + (p : Int) := by omega
              rw [hcast] at HC'
              have HC : Hid (Calls Try.prog 99 #[.slice (some ⟨b, off + 1, none⟩) rs.length (c - 1), .int .i64 ((u : Int) + (p : Int))] wr (Ptr2Is wr (prs rs js))) := Lib.hid (by exact HC')
              have HJV := Lib.hid hjv
              have HOPT : Hid (optP (pb rs) r u k = (x + y, k :: js)) := Lib.hid (by rw [optP, HX.out, HV.out, hyj])
              clear HC' hjv hyj hjl
              go_wp2_with fail

              refine HC.out.mono ?_
              rintro e w2 ⟨v0, rfl, hv2, b2'⟩
              obtain ⟨ao, rfl⟩ := pls_ptr hv2.pls
              have HB2 := Lib.hid (HB.out.trans (b2'.mono HB.out.size))
              have hal := (Below.refl w2.heap.size w2).alloc (Nat.le_refl _) (.cells #[.int .i64 (k : Int), .int .i64 x, .pointer ao] 93)
              have HB3 := Lib.hid (HB2.out.trans (hal.mono HB2.out.size))
              have HPN : Hid (PLn w.heap.size (w2.alloc (.cells #[.int .i64 (k : Int), .int .i64 x, .pointer ao] 93)) (.pointer (some ⟨w2.heap.size, 0, none⟩)) (prs (r :: rs) (k :: js))) := Lib.hid (by
                refine ⟨w2.heap.size, .pointer ao, rfl, Nat.le_trans HB1.out.size HB2.out.size, ?_, ?_, ?_, (hv2.base (Nat.le_trans HB1.out.size HB.out.size)).below hal⟩
                · rw [World.cell?_alloc_new]; rfl
                · rw [World.cell?_alloc_new, HX.out]; rfl
                · rw [World.cell?_alloc_new]; rfl)
              have HPO := Lib.hid (HP.out.below (b2'.trans (hal.mono b2'.size)))
              have HBD2 := Lib.hid (prs_bd HV12.out (k :: js))
              have HBDO := Lib.hid (prs_bd HV12.out (pbTo (pb rs) r u k).2)
              clear b2' hal hv2
              rcases HVL.out with hnone | ⟨hvl, hz0, j0, js0, hcons⟩
              · have HE := Lib.hid (pbTo_new (rest := pb rs) (r := r) (u := u) (k := k) HF.out (by rw [hnone, HOPT.out]; show (-1 : Int) < x + y; omega))
                have hu5 : u5 = .pointer none := by have := HP.out; rw [hnone] at this; exact this
                subst hu5
                clear hnone
                go_wp2
                go_roundw
                case rel => exact ⟨k + 1, by omega, by go_num, Lib.hid (by rw [HE.out, HOPT.out]; exact HPN.out), HB3⟩
                case measure => simp [intOf]; omega
              · have hu5 : ∃ bb, u5 = .pointer (some ⟨bb, 0, none⟩) := by
                  have := HP.out; rw [hcons] at this
                  obtain ⟨bb, _, e, _⟩ := this
                  exact ⟨bb, e⟩
                obtain ⟨bb, rfl⟩ := hu5
                have hl1 : (prs (r :: rs) (k :: js)).length ≤ 4 := by have := HBD2.out.1; rw [List.length_cons] at this; omega
                have hl2 : (prs (r :: rs) (pbTo (pb rs) r u k).2).length ≤ 4 := by have := HBDO.out.1; rw [List.length_cons] at this; omega
                have e1 : smP (prs (r :: rs) (k :: js)) = x + y := by rw [smP_prs]; simp only [vl]; rw [HX.out, HJV.out]
                have e2 : smP (prs (r :: rs) (pbTo (pb rs) r u k).2) = (pbTo (pb rs) r u k).1 := by rw [smP_prs, hvl]
                have HS1 : Hid (Calls Try.prog 101 #[.pointer (some ⟨w2.heap.size, 0, none⟩)] (w2.alloc (.cells #[.int .i64 (k : Int), .int .i64 x, .pointer ao] 93)) fun e w' => e = .returned (.int .i64 (x + y)) ∧ ∃ q, w' = (w2.alloc (.cells #[.int .i64 (k : Int), .int .i64 x, .pointer ao] 93)).drewN q) := Lib.hid (by have := sum_any _ _ _ HPN.out.pls hl1 HBD2.out.2; rw [e1] at this; exact this)
                have HS2 : Hid (∀ n, Calls Try.prog 101 #[.pointer (some ⟨bb, 0, none⟩)] ((w2.alloc (.cells #[.int .i64 (k : Int), .int .i64 x, .pointer ao] 93)).drewN n) fun e w' => e = .returned (.int .i64 (pbTo (pb rs) r u k).1) ∧ ∃ q, w' = ((w2.alloc (.cells #[.int .i64 (k : Int), .int .i64 x, .pointer ao] 93)).drewN n).drewN q) := Lib.hid (fun n => by have := sum_any _ _ _ (PLs.below (w' := (w2.alloc (.cells #[.int .i64 (k : Int), .int .i64 x, .pointer ao] 93)).drewN n) (below_drewN' (Below.refl _ _) n) HPO.out.pls) hl2 HBDO.out.2; rw [e2] at this; exact this)
                clear e1 e2 hl1 hl2
                obtain ⟨z, hz⟩ : ∃ z, z = (pbTo (pb rs) r u k).1 := ⟨_, rfl⟩
                rw [← hz] at HS2 hz0 hvl
                by_cases hgt : z < x + y
                · have HE := Lib.hid (pbTo_new (rest := pb rs) (r := r) (u := u) (k := k) HF.out (by rw [← hz, HOPT.out]; exact hgt))
                  have hgtb : decide (x + y > z) = true := by simp; omega
                  clear hgt hz hcons hvl hz0
                  go_wp2_with fail
                  refine HS1.out.mono ?_
                  rintro e w5 ⟨rfl, q1, rfl⟩
                  go_wp2_with fail
                  refine (HS2.out q1).mono ?_
                  rintro e w5 ⟨rfl, q2, rfl⟩
                  go_wp2
                  go_roundw
                  case rel => exact ⟨k + 1, by omega, by go_num, Lib.hid (by rw [HE.out, HOPT.out]; exact HPN.out.below (below_drewN' (Below.refl _ _) (q1 + q2))), Lib.hid (below_drewN' HB3.out (q1 + q2))⟩
                  case measure => simp [intOf]; omega
                · have HE := Lib.hid (pbTo_old (rest := pb rs) (r := r) (u := u) (k := k) HF.out (by rw [← hz, HOPT.out]; exact hgt))
                  have hgtb : decide (x + y > z) = false := by simp; omega
                  clear hgt hz hcons hvl hz0
                  go_wp2_with fail
                  refine HS1.out.mono ?_
                  rintro e w5 ⟨rfl, q1, rfl⟩
                  go_wp2_with fail
                  refine (HS2.out q1).mono ?_
                  rintro e w5 ⟨rfl, q2, rfl⟩
                  go_wp2
                  go_roundw
                  case rel => exact ⟨k + 1, by omega, by go_num, Lib.hid (by rw [HE.out]; exact HPO.out.below (below_drewN' (Below.refl _ _) (q1 + q2))), Lib.hid (below_drewN' HB3.out (q1 + q2))⟩
                  case measure => simp [intOf]; omega

            · have hkl' : k = m := by omega
              have HV : Hid (nxU r.length u k = u) := Lib.hid (by unfold nxU; rw [if_neg (by omega)])
              have hkn : ¬ (k : Int) < (m : Int) := by omega
              clear hand hb hp hkl' hkl

              obtain ⟨y, js, hyj⟩ : ∃ y js, pb rs (u) = (y, js) := ⟨_, _, rfl⟩
              have hjv := (pb_mt HK.out.tail (u)).2
              have hy0 := pb_nonneg HK.out.tail (u)
              have hjl := pb_len HK.out.tail (u)
              have HC' := HIH.out (u) wr hu ((HR.out.drop_ 1 (by rw [List.length_cons]; omega)))
              rw [hyj] at hjv hy0 hjl HC'
              simp only at hjv hy0 hjl HC'
              skip
              have HC : Hid (Calls Try.prog 99 #[.slice (some ⟨b, off + 1, none⟩) rs.length (c - 1), .int .i64 ((u : Int))] wr (Ptr2Is wr (prs rs js))) := Lib.hid (by exact HC')
              have HJV := Lib.hid hjv
              have HOPT : Hid (optP (pb rs) r u k = (x + y, k :: js)) := Lib.hid (by rw [optP, HX.out, HV.out, hyj])
              clear HC' hjv hyj hjl
              go_wp2_with fail

              refine HC.out.mono ?_
              rintro e w2 ⟨v0, rfl, hv2, b2'⟩
              obtain ⟨ao, rfl⟩ := pls_ptr hv2.pls
              have HB2 := Lib.hid (HB.out.trans (b2'.mono HB.out.size))
              have hal := (Below.refl w2.heap.size w2).alloc (Nat.le_refl _) (.cells #[.int .i64 (k : Int), .int .i64 x, .pointer ao] 93)
              have HB3 := Lib.hid (HB2.out.trans (hal.mono HB2.out.size))
              have HPN : Hid (PLn w.heap.size (w2.alloc (.cells #[.int .i64 (k : Int), .int .i64 x, .pointer ao] 93)) (.pointer (some ⟨w2.heap.size, 0, none⟩)) (prs (r :: rs) (k :: js))) := Lib.hid (by
                refine ⟨w2.heap.size, .pointer ao, rfl, Nat.le_trans HB1.out.size HB2.out.size, ?_, ?_, ?_, (hv2.base (Nat.le_trans HB1.out.size HB.out.size)).below hal⟩
                · rw [World.cell?_alloc_new]; rfl
                · rw [World.cell?_alloc_new, HX.out]; rfl
                · rw [World.cell?_alloc_new]; rfl)
              have HPO := Lib.hid (HP.out.below (b2'.trans (hal.mono b2'.size)))
              have HBD2 := Lib.hid (prs_bd HV12.out (k :: js))
              have HBDO := Lib.hid (prs_bd HV12.out (pbTo (pb rs) r u k).2)
              clear b2' hal hv2
              rcases HVL.out with hnone | ⟨hvl, hz0, j0, js0, hcons⟩
              · have HE := Lib.hid (pbTo_new (rest := pb rs) (r := r) (u := u) (k := k) HF.out (by rw [hnone, HOPT.out]; show (-1 : Int) < x + y; omega))
                have hu5 : u5 = .pointer none := by have := HP.out; rw [hnone] at this; exact this
                subst hu5
                clear hnone
                go_wp2
                go_roundw
                case rel => exact ⟨k + 1, by omega, by go_num, Lib.hid (by rw [HE.out, HOPT.out]; exact HPN.out), HB3⟩
                case measure => simp [intOf]; omega
              · have hu5 : ∃ bb, u5 = .pointer (some ⟨bb, 0, none⟩) := by
                  have := HP.out; rw [hcons] at this
                  obtain ⟨bb, _, e, _⟩ := this
                  exact ⟨bb, e⟩
                obtain ⟨bb, rfl⟩ := hu5
                have hl1 : (prs (r :: rs) (k :: js)).length ≤ 4 := by have := HBD2.out.1; rw [List.length_cons] at this; omega
                have hl2 : (prs (r :: rs) (pbTo (pb rs) r u k).2).length ≤ 4 := by have := HBDO.out.1; rw [List.length_cons] at this; omega
                have e1 : smP (prs (r :: rs) (k :: js)) = x + y := by rw [smP_prs]; simp only [vl]; rw [HX.out, HJV.out]
                have e2 : smP (prs (r :: rs) (pbTo (pb rs) r u k).2) = (pbTo (pb rs) r u k).1 := by rw [smP_prs, hvl]
                have HS1 : Hid (Calls Try.prog 101 #[.pointer (some ⟨w2.heap.size, 0, none⟩)] (w2.alloc (.cells #[.int .i64 (k : Int), .int .i64 x, .pointer ao] 93)) fun e w' => e = .returned (.int .i64 (x + y)) ∧ ∃ q, w' = (w2.alloc (.cells #[.int .i64 (k : Int), .int .i64 x, .pointer ao] 93)).drewN q) := Lib.hid (by have := sum_any _ _ _ HPN.out.pls hl1 HBD2.out.2; rw [e1] at this; exact this)
                have HS2 : Hid (∀ n, Calls Try.prog 101 #[.pointer (some ⟨bb, 0, none⟩)] ((w2.alloc (.cells #[.int .i64 (k : Int), .int .i64 x, .pointer ao] 93)).drewN n) fun e w' => e = .returned (.int .i64 (pbTo (pb rs) r u k).1) ∧ ∃ q, w' = ((w2.alloc (.cells #[.int .i64 (k : Int), .int .i64 x, .pointer ao] 93)).drewN n).drewN q) := Lib.hid (fun n => by have := sum_any _ _ _ (PLs.below (w' := (w2.alloc (.cells #[.int .i64 (k : Int), .int .i64 x, .pointer ao] 93)).drewN n) (below_drewN' (Below.refl _ _) n) HPO.out.pls) hl2 HBDO.out.2; rw [e2] at this; exact this)
                clear e1 e2 hl1 hl2
                obtain ⟨z, hz⟩ : ∃ z, z = (pbTo (pb rs) r u k).1 := ⟨_, rfl⟩
                rw [← hz] at HS2 hz0 hvl
                by_cases hgt : z < x + y
                · have HE := Lib.hid (pbTo_new (rest := pb rs) (r := r) (u := u) (k := k) HF.out (by rw [← hz, HOPT.out]; exact hgt))
                  have hgtb : decide (x + y > z) = true := by simp; omega
                  clear hgt hz hcons hvl hz0
                  go_wp2_with fail
                  refine HS1.out.mono ?_
                  rintro e w5 ⟨rfl, q1, rfl⟩
                  go_wp2_with fail
                  refine (HS2.out q1).mono ?_
                  rintro e w5 ⟨rfl, q2, rfl⟩
                  go_wp2
                  go_roundw
                  case rel => exact ⟨k + 1, by omega, by go_num, Lib.hid (by rw [HE.out, HOPT.out]; exact HPN.out.below (below_drewN' (Below.refl _ _) (q1 + q2))), Lib.hid (below_drewN' HB3.out (q1 + q2))⟩
                  case measure => simp [intOf]; omega
                · have HE := Lib.hid (pbTo_old (rest := pb rs) (r := r) (u := u) (k := k) HF.out (by rw [← hz, HOPT.out]; exact hgt))
                  have hgtb : decide (x + y > z) = false := by simp; omega
                  clear hgt hz hcons hvl hz0
                  go_wp2_with fail
                  refine HS1.out.mono ?_
                  rintro e w5 ⟨rfl, q1, rfl⟩
                  go_wp2_with fail
                  refine (HS2.out q1).mono ?_
                  rintro e w5 ⟨rfl, q2, rfl⟩
                  go_wp2
                  go_roundw
                  case rel => exact ⟨k + 1, by omega, by go_num, Lib.hid (by rw [HE.out]; exact HPO.out.below (below_drewN' (Below.refl _ _) (q1 + q2))), Lib.hid (below_drewN' HB3.out (q1 + q2))⟩
                  case measure => simp [intOf]; omega

        · have HEND : Hid (pb (r :: rs) u = pbTo (pb rs) r u k) := Lib.hid (by rw [pb, hrm, show k = m + 1 by omega])
          have hkn : ¬ (k : Int) < (m : Int) + 1 := by omega
          clear hkm hk1
          go_wp2
          go_ret
          rw [HEND.out]
          exact ⟨_, rfl, HP.out, HB1.out.trans (HB.out.mono HB1.out.size)⟩
end Go.Proofs.Ytpildecpabeanaa
