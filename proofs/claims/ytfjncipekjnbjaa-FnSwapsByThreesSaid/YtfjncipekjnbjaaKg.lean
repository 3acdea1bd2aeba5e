/-
  The laws of chapter 6: the walk of FnKeepsDemand.
-/
import Derived.Test.YtfjncipekjnbjaaKf
import Derived.Test.YtfjncipekjnbjaaGM
namespace Go.Proofs.Ytfjncipekjnbjaa
open Go.RowKit Go.Lib

theorem kd_says {t p q : List Int} (h1 : (dmB t p).length ≠ 0) (h2 : (dmB t q).length ≠ 0) : p.length = 3 ∧ q.length = 3 ∧ kdB t p p = true ∧ (mvB t = true → amB p q = kdB t p q) := by
  obtain ⟨hv, hp, _⟩ := dmB_yes h1
  obtain ⟨_, hq, _⟩ := dmB_yes h2
  refine ⟨hp.1, hq.1, kdB_true ⟨hv, hp, hp, fun k _ => Int.le_refl _, kd_same⟩, fun hm => ?_⟩
  have A := (mvB_iff.1 hm).2.mo hv
  rw [Bool.eq_iff_iff]
  constructor
  · intro h
    have hu : ∀ k, k < 3 → T p k ≤ T q k := fun k hk => amB_iff.1 h k (by rw [hp.1]; exact hk)
    exact kdB_true ⟨hv, hp, hq, hu, kd_of A hu⟩
  · intro h
    exact amB_iff.2 (fun k hk => (kdB_iff.1 h).2.2.2.1 k (by rw [hp.1] at hk; exact hk))

set_option maxHeartbeats 4000000 in
set_option maxRecDepth 100000 in
theorem fnKeepsDemand_walk {A : Option Addr} {c : Nat} {xs : List Int} {w : World} (h : Came .u8 w A c xs) :
    Calls Try.prog 7 #[.slice A xs.length c] w fun e w' => e = .returned (.bool true) ∧ Below w.heap.size w w' := by
  by_cases hlen : 1048576 < xs.length
  · go_enter Try.func7, Try.ntmps7
    go_wp2
    go_ret
    exact ⟨rfl, Below.refl _ _⟩
  have HD := Lib.hid (DrawKeepsDemand_any A c xs w h)
  have hl1 : xs.length ≤ 1048576 := by omega
  clear hlen h
  go_enter Try.func7, Try.ntmps7
  go_wp2_with fail
  refine HD.out.mono ?_
  rintro e w1 ⟨g, c1, t, g2, off, c2, p, A3, c3, q, rfl, hA, hB, hC, ht8, htc, hp3, hqp, hpb, hpc, b1⟩
  have hpl : p.length ≤ 1099511627776 := by omega
  have hql : q.length ≤ 1099511627776 := by omega
  have hI := fun w' (h : Rd w' (some ⟨g, 0, none⟩) c1 t) (h2 : Rd w' (some ⟨g2, off, none⟩) c2 p) (h3 : Rd w' A3 c3 q) => KeepsDemand_any (some ⟨g, 0, none⟩) (some ⟨g2, off, none⟩) A3 c1 c2 c3 t p q w' h h2 h3 (by omega)
  have hS := fun w' (h : Rd w' (some ⟨g, 0, none⟩) c1 t) (h2 : Rd w' (some ⟨g2, off, none⟩) c2 p) (h3 : Rd w' A3 c3 q) => SKeepsDemand_any (some ⟨g, 0, none⟩) (some ⟨g2, off, none⟩) A3 c1 c2 c3 t p q w' h h2 h3 (by omega) hpl hql
  have hD1 := fun w' (h : Rd w' (some ⟨g, 0, none⟩) c1 t) (h2 : Rd w' (some ⟨g2, off, none⟩) c2 p) => DemandAt_any (some ⟨g, 0, none⟩) (some ⟨g2, off, none⟩) c1 c2 t p w' h h2 (by omega)
  have hD2 := fun w' (h : Rd w' (some ⟨g, 0, none⟩) c1 t) (h2 : Rd w' A3 c3 q) => DemandAt_any (some ⟨g, 0, none⟩) A3 c1 c3 t q w' h h2 (by omega)
  have hI2 := fun w' (h : Rd w' (some ⟨g, 0, none⟩) c1 t) (h2 : Rd w' (some ⟨g2, off, none⟩) c2 p) => KeepsDemand_any (some ⟨g, 0, none⟩) (some ⟨g2, off, none⟩) (some ⟨g2, off, none⟩) c1 c2 c2 t p p w' h h2 h2 (by omega)
  have hM := fun w' (h : Rd w' (some ⟨g, 0, none⟩) c1 t) => SwapsByMoves_any (some ⟨g, 0, none⟩) c1 t w' h (by omega)
  have hAM := fun w' (e1 : p.length = 3) (e2 : q.length = 3) (h2 : Rd w' (some ⟨g2, off, none⟩) c2 p) (h3 : Rd w' A3 c3 q) => atMost_any (some ⟨g2, off, none⟩) A3 c2 c3 3 p q w' e1 e2 h2 h3 (by omega)
  have hsay := kd_says (t := t) (p := p) (q := q)
  obtain ⟨v, hv⟩ : ∃ v, v = kdB t p q := ⟨_, rfl⟩
  obtain ⟨d1, hd1⟩ : ∃ d1, d1 = dmB t p := ⟨_, rfl⟩
  obtain ⟨d2, hd2⟩ : ∃ d2, d2 = dmB t q := ⟨_, rfl⟩
  rw [← hv] at hI hS hsay
  rw [← hd1] at hD1 hsay
  rw [← hd2] at hD2 hsay
  have HI := Lib.hid hI
  have HS := Lib.hid hS
  have HD1 := Lib.hid hD1
  have HD2 := Lib.hid hD2
  have HSAY := Lib.hid hsay
  have hvv : (v != v) = false := by simp
  have hvt : (v == v) = true := by simp
  clear hI hS hD1 hD2 hsay hv hd1 hd2 hpb HD hl1 hqp hp3
  go_wp2_with fail
  refine (HI.out w1 hA hB hC).mono ?_
  rintro e w2 ⟨rfl, b2⟩
  have B2 := below_then b1 b2
  have hA2 := hA.below b2
  have hB2 := hB.below b2
  have hC2 := hC.below b2
  clear hA hB hC b1 b2
  go_wp2_with fail
  refine (HS.out w2 hA2 hB2 hC2).mono ?_
  rintro e w3 ⟨rfl, b3⟩
  have B3 := below_then B2 b3
  have hA3 := hA2.below b3
  have hB3 := hB2.below b3
  have hC3 := hC2.below b3
  clear hA2 hB2 hC2 b3 B2
  go_wp2_with fail
  refine (HD1.out w3 hA3 hB3).mono ?_
  rintro e w4 ⟨A4, c4, rfl, o4, b4⟩
  have B4 := below_then B3 b4
  have hA4 := hA3.below b4
  have hB4 := hB3.below b4
  have hC4 := hC3.below b4
  clear hA3 hB3 hC3 b4 B3 o4
  by_cases hz1 : d1.length = 0
  · have hzb : ((d1.length : Int) == 0) = true := by simp [hz1]
    clear hz1
    go_wp2_with fail
    refine (HS.out _ hA4 hB4 hC4).mono ?_
    rintro e w5 ⟨rfl, b5⟩
    go_wp2
    go_ret
    exact ⟨rfl, below_then B4 b5⟩
  have hzb1 : ((d1.length : Int) == 0) = false := beq_eq_false_iff_ne.2 (by omega)
  go_wp2_with fail
  refine (HD2.out w4 hA4 hC4).mono ?_
  rintro e w5 ⟨A5, c5, rfl, o5, b5⟩
  have B5 := below_then B4 b5
  have hA5 := hA4.below b5
  have hB5 := hB4.below b5
  have hC5 := hC4.below b5
  clear hA4 hB4 hC4 b5 B4 o5
  by_cases hz2 : d2.length = 0
  · have hzb : ((d2.length : Int) == 0) = true := by simp [hz2]
    clear hz2 hz1
    go_wp2_with fail
    refine (HS.out _ hA5 hB5 hC5).mono ?_
    rintro e w6 ⟨rfl, b6⟩
    go_wp2
    go_ret
    exact ⟨rfl, below_then B5 b6⟩
  have hzb2 : ((d2.length : Int) == 0) = false := beq_eq_false_iff_ne.2 (by omega)
  obtain ⟨ep, eq, hk, hmv⟩ := HSAY.out hz1 hz2
  have hAM2 := fun w' => hAM w' ep eq
  rw [hk] at hI2
  rw [ep] at hI2 ⊢
  rw [eq]
  have HI2 := Lib.hid hI2
  clear hz1 hz2 hk hI2 HI HS HD1 HD2 HSAY hAM
  go_wp2_with fail
  refine (HI2.out _ hA5 hB5).mono ?_
  rintro e w6 ⟨rfl, b6⟩
  have B6 := below_then B5 b6
  have hA6 := hA5.below b6
  have hB6 := hB5.below b6
  have hC6 := hC5.below b6
  rcases hm : mvB t with _ | _
  · rw [hm] at hM
    have HM := Lib.hid hM
    clear hm hM hAM2 hmv
    go_wp2_with fail
    refine (HM.out _ hA6).mono ?_
    rintro e w7 ⟨rfl, b7⟩
    go_wp2
    go_ret
    exact ⟨rfl, below_then B6 b7⟩
  · rw [hm] at hM
    have he := hmv hm
    rw [he] at hAM2
    have HM := Lib.hid hM
    have HAM := Lib.hid hAM2
    clear hm hM hAM2 hmv he
    go_wp2_with fail
    refine (HM.out _ hA6).mono ?_
    rintro e w7 ⟨rfl, b7⟩
    go_wp2_with fail
    refine (HAM.out _ (hB6.below b7) (hC6.below b7)).mono ?_
    rintro e w8 ⟨rfl, n8, rfl⟩
    go_wp2
    go_ret
    exact ⟨rfl, below_drewN' (below_then B6 b7) n8⟩

end Go.Proofs.Ytfjncipekjnbjaa
