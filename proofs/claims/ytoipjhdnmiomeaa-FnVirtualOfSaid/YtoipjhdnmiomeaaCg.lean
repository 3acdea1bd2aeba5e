/-
  Chapter 2: the contracts of the model's virtual and of the program's slopeOf.
-/
import Derived.Test.YtoipjhdnmiomeaaCf
import Derived.Deep.RegionWith
import Derived.StillTailTactics
namespace Go.Proofs.Ytoipjhdnmiomeaa
open Go.RowKit

/-- A region that draws, all but its last operations quiet. -/
theorem region_tail {P : Program} {id : Nat} {Q : Exit → Act → World → Prop} {a : Act} {w : World} {l : List Oper} (n : Nat) (hm : P.follows .mixedOrders = true) (hB : Region.lexTailB .any l.toArray n = true)
    (h : wpStill P l.toArray w.drew (fun a' => wpList P l.toArray Q (l.drop n) a' w.drew) (l.take n) a) : (Code.region id l.toArray true).wp P Q a w := wp_region_still_tail n hm hB h

theorem virt_parts {xs : List Int} {v : Nat} {x n d : Int} (hv : vW xs = true) (hx : xs[v]? = some x) (hq : FrIs (virtQ xs v) n d) :
    FrIs (fq (v * x - tailW xs (v + 1)) x) n d ∧ 1 ≤ x ∧ x ≤ 6 ∧ 0 ≤ (v : Int) * x ∧ (v : Int) * x ≤ 36 := by
  have hlt := (List.getElem?_eq_some_iff.1 hx).1
  have hx1 := vW_mem hv x (List.mem_of_getElem? hx)
  have hw : wt xs v = x := by unfold wt; rw [List.getD_eq_getElem?_getD, hx]; rfl
  have h6 := (vW_le hv).2
  refine ⟨?_, hx1.1, hx1.2, Int.mul_nonneg (by omega) (by omega), ?_⟩
  · unfold virtQ at hq
    rw [hw] at hq
    exact hq
  · have := Int.mul_le_mul (show (v : Int) ≤ 6 by omega) hx1.2 (by omega) (by omega)
    omega

set_option maxHeartbeats 1000000 in
theorem Svirtual_any (A : Option Addr) (c : Nat) (xs : List Int) (v : Nat) (n d : Int) (w : World) (h : Rd w A c xs) (hv : vW xs = true) (hlt : v < xs.length) (hq : FrIs (virtQ xs v) n d) :
    Calls Try.prog 57 #[.slice A xs.length c, .int .i64 v] w fun e w' => e = .returned (frV n d) ∧ Below w.heap.size w w' := by
  obtain ⟨b, off, x, rfl, hbs, hx, hc⟩ := h.at_ hlt
  obtain ⟨p1, p2, p3, p4, p5⟩ := virt_parts hv hx.out hq
  obtain ⟨l1, l2⟩ := vW_le hv
  have HT := Lib.hid (fun w h => tail_any (some ⟨b, off, none⟩) c xs (v + 1) w h (by omega) (by omega) (vW_small hv))
  obtain ⟨t1, t2⟩ := rev_b hv (v + 1)
  have hR := fun o => show Rd (w.alloc o).drew _ _ _ from h.below (below_al w o).drew
  generalize tailW xs (v + 1) = T at p1 HT t1 t2
  have HC := Lib.hid (fun w => Sfrac_any _ _ _ _ w p1 p2 (by omega) (by omega) (by omega))
  clear p1 hq hv hx
  go_enter Try.func57, Try.ntmps57
  go_wp2_with fail
  refine region_tail 15 (by kernel_rfl) (by kernel_rfl) ?_
  simp only [List.take_succ_cons, List.take_zero, List.drop_succ_cons, List.drop_zero]
  iterate 9 (refine wpStill_step (fun K hK => ?_); go_simp; (try go_bits); refine hK _ ?_; clear hK K)
  refine wpStill_step (fun K hK => ?_)
  go_simp
  refine ⟨_, (HT.out _ (hR _)).mono fun _ _ h => ⟨h.1, h.2.symm⟩, hK _ ?_⟩
  clear hK K
  iterate 5 (refine wpStill_step (fun K hK => ?_); go_simp; (try go_bits); refine hK _ ?_; clear hK K)
  refine wpStill_nil ?_
  go_wp2_with fail
  refine (HC.out _).mono ?_
  rintro e w1 ⟨rfl, hb⟩
  have hk := pair_old (B := w.heap.size) hb (pair_new w _)
  obtain ⟨c0, c1, f0, f1⟩ := pair_facts hk
  unfold frV
  go_wp2
  obtain ⟨e0, e1, _, _⟩ := pair_facts (pair_set (.int .i64 n) (.int .i64 d) hk)
  have hB := pair_below2 (a := w) (B := w.heap.size) (.int .i64 n) (.int .i64 d) hb (below_al w _).drew (Nat.le_refl _)
  refine bodyPost_ret (v := frV n d) (by simp [results, Try.results57, go_sem, frV, e0, e1]) rfl ⟨rfl, hB⟩
end Go.Proofs.Ytoipjhdnmiomeaa
