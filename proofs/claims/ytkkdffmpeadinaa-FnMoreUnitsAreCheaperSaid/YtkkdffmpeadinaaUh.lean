/-
  Chapter 3, the program: the contract of a crowd's worth.
-/
import Derived.Test.YtkkdffmpeadinaaUg
namespace Go.Proofs.Ytkkdffmpeadinaa
open Go.RowKit

/-- A crowd's value reads as the demands qs. -/
def RdC (w : World) (A : Option Addr) (c : Nat) (qs : List (Option Addr × Nat × List Int)) : Prop :=
  (∀ q ∈ qs, DemIn w q) ∧ ((qs = [] ∧ (A = none → c = 0)) ∨ ∃ g, A = some ⟨g, 0, none⟩ ∧ ∀ k q, qs[k]? = some q → w.cell? ⟨g, k, none⟩ = some (dOf q))

theorem RdC.below {w w' : World} {A : Option Addr} {c : Nat} {qs : List (Option Addr × Nat × List Int)} (h : RdC w A c qs) (hb : Below w.heap.size w w') : RdC w' A c qs := by
  refine ⟨fun q hq => ⟨(h.1 q hq).1, (h.1 q hq).2.below hb⟩, ?_⟩
  rcases h.2 with h | ⟨g, rfl, hc⟩
  · exact .inl h
  · exact .inr ⟨g, rfl, fun k q hk => (hb.cell (p := ⟨g, k, none⟩) (World.block_lt_of_cell? w _ (hc k q hk))).trans (hc k q hk)⟩
theorem CrowdIn.rdc {w : World} {B : Nat} {v : Value} {qs : List (Option Addr × Nat × List Int)} (h : CrowdIn w B v qs) : ∃ A c, v = .slice A qs.length c ∧ RdC w A c qs := by
  rcases h.shape with ⟨rfl, rfl⟩ | ⟨g, c, rfl, _, _, _, _, hc⟩
  · exact ⟨none, 0, rfl, h.each, .inl ⟨rfl, fun _ => rfl⟩⟩
  · exact ⟨_, c, rfl, h.each, .inr ⟨g, rfl, hc⟩⟩
theorem RdC.at_ {w : World} {A : Option Addr} {c k : Nat} {qs : List (Option Addr × Nat × List Int)} (h : RdC w A c qs) (hk : k < qs.length) :
    ∃ g A' c' r, A = some ⟨g, 0, none⟩ ∧ Hid (qs[k]? = some (A', c', r)) ∧ w.cell? ⟨g, k, none⟩ = some (.iface 62 (.slice A' r.length c')) ∧ Hid (r.length ≤ c') ∧ Hid (Rd w A' c' r) := by
  rcases h.2 with ⟨rfl, _⟩ | ⟨g, rfl, hc⟩
  · simp at hk
  · obtain ⟨q, hq⟩ : ∃ q, qs[k]? = some q := ⟨_, List.getElem?_eq_getElem hk⟩
    have hd := h.1 q (List.mem_of_getElem? hq)
    obtain ⟨A', c', r⟩ := q
    exact ⟨g, A', c', r, rfl, Lib.hid hq, hc k _ hq, Lib.hid hd.1, Lib.hid hd.2⟩

/-- The best up to x of the first i, for x from u on with the row too. -/
def mid (R : Nat → List Int) (i u k : Nat) : List Int := (List.range (k + 1)).map (fun x => if u ≤ x then bst R (i + 1) x else bst R i x)
theorem mid_len (R : Nat → List Int) (i u k : Nat) : (mid R i u k).length = k + 1 := by simp [mid]
theorem mid_at {R : Nat → List Int} {i u k x : Nat} (hx : x ≤ k) : (mid R i u k)[x]? = some (if u ≤ x then bst R (i + 1) x else bst R i x) := by
  simp [mid, show x < k + 1 by omega]

theorem mid_zero (R : Nat → List Int) (i k : Nat) : mid R i 0 k = mid R (i + 1) (k + 1) k := by
  unfold mid
  refine List.map_congr_left (fun x hx => ?_)
  have := List.mem_range.1 hx
  rw [if_pos (Nat.zero_le _), if_neg (by omega)]
theorem mid_set {R : Nat → List Int} {i u k : Nat} (hu : u ≤ k) : (mid R i (u + 1) k).set u (bst R (i + 1) u) = mid R i u k := by
  apply List.ext_getElem?; intro x
  rcases Nat.lt_or_ge k x with hx | hx
  · rw [List.getElem?_eq_none (by rw [List.length_set, mid_len]; omega), List.getElem?_eq_none (by rw [mid_len]; omega)]
  · rw [List.getElem?_set, mid_at hx, mid_at hx]
    by_cases h1 : u = x
    · subst h1
      rw [if_pos rfl, if_pos (by rw [mid_len]; omega), if_pos (Nat.le_refl _)]
    · rw [if_neg h1]
      by_cases h2 : u ≤ x
      · rw [if_pos (by omega), if_pos h2]
      · rw [if_neg (by omega), if_neg h2]
theorem mid_first (R : Nat → List Int) (k : Nat) : mid R 0 (k + 1) k = List.replicate (k + 1) 0 := by
  apply List.ext_getElem?; intro x
  rcases Nat.lt_or_ge k x with hx | hx
  · rw [List.getElem?_eq_none (by rw [mid_len]; omega), List.getElem?_eq_none (by simp; omega)]
  · rw [mid_at hx, if_neg (by omega)]
    simp [bst, show x < k + 1 by omega]
/-- While the own units of the new bidder are tried. -/
def acc (R : Nat → List Int) (i x o : Nat) : Int := convTo (bst R i) (R i) x (o - 1)
theorem acc_zero (R : Nat → List Int) (i x : Nat) : acc R i x 0 = bst R i x := rfl
theorem acc_step (R : Nat → List Int) (i x o : Nat) : max (acc R i x o) (bst R i (x - o) + pre (R i) o) = acc R i x (o + 1) := by
  unfold acc
  cases o with
  | zero => simp [convTo, pre_zero]
  | succ o => rfl
theorem acc_all (R : Nat → List Int) (i x : Nat) : acc R i x (x + 1) = bst R (i + 1) x := rfl
theorem convTo_mono {f : Nat → Int} {r : List Int} {x : Nat} {m m' : Nat} (h : m ≤ m') : convTo f r x m ≤ convTo f r x m' := by
  induction m' with
  | zero => obtain rfl : m = 0 := by omega
            exact Int.le_refl _
  | succ m' ih =>
    rcases Nat.lt_or_ge m (m' + 1) with h1 | h1
    · have := ih (by omega); rw [convTo]; omega
    · obtain rfl : m = m' + 1 := by omega
      exact Int.le_refl _
theorem acc_bd {R : Nat → List Int} {i x o n : Nat} (hg : Good R n) (hi : i < n) (hn : n ≤ 4) (ho : o ≤ x + 1) : 0 ≤ acc R i x o ∧ acc R i x o ≤ 600 := by
  have h1 := bst_nn (R := R) i x
  have h2 : bst R i x ≤ acc R i x o := convTo_mono (m := 0) (Nat.zero_le _)
  have h3 : acc R i x o ≤ bst R (i + 1) x := convTo_mono (m' := x) (by omega)
  have h4 := bst_le600 (R := R) (n := i + 1) (fun j hj => hg j (by omega)) x
  omega
theorem bst_bd {R : Nat → List Int} {i x n : Nat} (hg : Good R n) (hi : i ≤ n) (hn : n ≤ 4) : 0 ≤ bst R i x ∧ bst R i x ≤ 600 := by
  have h1 := bst_nn (R := R) i x
  have h4 := bst_le600 (R := R) (n := i) (fun j hj => hg j (by omega)) x
  omega

set_option maxRecDepth 100000 in
set_option maxHeartbeats 4000000 in
theorem crowdWorth_any (A : Option Addr) (c k : Nat) (qs : List (Option Addr × Nat × List Int)) (w : World) (hC : RdC w A c qs) (hl : qs.length ≤ 4) (hg : Good (RW (qs.map (·.2.2))) qs.length) (hk : k ≤ 5) :
    Calls Try.prog 56 #[.slice A qs.length c, .int .i64 k] w fun e w' => e = .returned (.int .i64 (bst (RW (qs.map (·.2.2))) qs.length k)) ∧ Below w.heap.size w w' := by
  have hm : ∀ (q : Nat) (w : World) (a : Option Addr) (n c : Nat), (method (q + 1) 62 (.slice a n c) "loop.example/salesbybids/impl.worth").run Try.prog w = .ok (85, .slice a n c) w := fun _ _ _ _ _ => by kernel_rfl
  obtain ⟨R, hRR⟩ : ∃ R, R = RW (qs.map (·.2.2)) := ⟨_, rfl⟩
  have HR := Lib.hid hRR
  rw [← hRR] at hg ⊢
  clear hRR
  obtain ⟨m, hM⟩ : ∃ m, m = k + 1 := ⟨_, rfl⟩
  have hk1 : (k : Int) + 1 = (m : Int) := by omega
  have hm6 : m ≤ 6 := by omega
  have HM := Lib.hid hM
  clear hM
  have HG := Lib.hid hg
  clear hg
  go_enter Try.func56, Try.ntmps56
  go_wp2_with (at_make; refine wpList_make_ints rfl _ _ rfl w.heap.size m rfl rfl (by omega) (by simp) ?_; intro w2 ho hb)
  have HO : Hid (Own w2 w.heap.size (some ⟨w.heap.size, 0, none⟩) m (mid R 0 (k + 1) k)) := Lib.hid (by rw [mid_first, ← HM.out]; exact ho)
  clear ho
  obtain ⟨g, hgg⟩ : ∃ g, g = w.heap.size := ⟨_, rfl⟩
  rw [← hgg] at HO
  rw [← hgg]
  have HGG := Lib.hid hgg
  clear hgg
  go_loopw [15] (fun i wr => ∃ j : Nat, j ≤ qs.length ∧ i = .int .i64 j ∧ Hid (Own wr g (some ⟨g, 0, none⟩) m (mid R j (k + 1) k)) ∧ Below w.heap.size w wr) (fun i _ => qs.length - (intOf i).toNat)
  case atStart => exact ⟨0, Nat.zero_le _, rfl, HO, hb⟩
  case round =>
    obtain ⟨j, hj, rfl, HO, hb⟩ := hrel
    by_cases hlt : j < qs.length
    · obtain ⟨gc, A', c', r, rfl, hq, hc0, hcap, hrd⟩ := hC.at_ hlt
      have hc := (hb.cell (p := ⟨gc, j, none⟩) (World.block_lt_of_cell? w _ hc0)).trans hc0
      clear hc0
      have HRJ : Hid (R j = r) := Lib.hid (by rw [HR.out]; exact rw_of (by rw [List.getElem?_map, hq.out]; rfl))
      go_wp2
      go_loopw [8] (fun t wr' => ∃ u : Nat, u ≤ k + 1 ∧ t = .int .i64 ((u : Int) - 1) ∧ Hid (Own wr' g (some ⟨g, 0, none⟩) m (mid R j u k)) ∧ Below w.heap.size w wr') (fun t _ => (intOf t + 1).toNat)
      case atStart => exact ⟨k + 1, Nat.le_refl _, by go_num, HO, hb⟩
      case round =>
        obtain ⟨u, hu, rfl, HU, hb2⟩ := hrel
        by_cases hu0 : u = 0
        · subst hu0
          have hm1 : (((0 : Nat) : Int) - 1) = -1 := by omega
          rw [hm1]
          have HO2 : Hid (Own wr g (some ⟨g, 0, none⟩) m (mid R (j + 1) (k + 1) k)) := Lib.hid (by rw [← mid_zero]; exact HU.out)
          clear hm1
          go_wp2
          go_roundw
          case rel => exact ⟨j + 1, by omega, by go_num, HO2, hb2⟩
          case measure => simp [intOf]; omega
        · obtain ⟨x, rfl⟩ : ∃ x, u = x + 1 := ⟨u - 1, by omega⟩
          have hx1 : (((x + 1 : Nat) : Int) - 1) = (x : Int) := by omega
          rw [hx1]
          have hxk : x ≤ k := by omega
          have hxm : x < m := by have := HM.out; omega
          clear hu0 hx1
          go_wp2
          go_loopw [26] (fun t wr2 => ∃ o : Nat, o ≤ x + 1 ∧ t = .int .i64 o ∧ Hid (Own wr2 g (some ⟨g, 0, none⟩) m ((mid R j (x + 1) k).set x (acc R j x o))) ∧ Below w.heap.size w wr2) (fun t _ => x + 1 - (intOf t).toNat)
          case atStart =>
            refine ⟨0, by omega, by go_num, Lib.hid ?_, hb2⟩
            rw [acc_zero]
            have e : (mid R j (x + 1) k).set x (bst R j x) = mid R j (x + 1) k := by
              apply List.ext_getElem?; intro y
              rw [List.getElem?_set]
              split
              · subst_vars
                rw [if_pos (by rw [mid_len]; omega), mid_at hxk, if_neg (by omega)]
              · rfl
            rw [e]
            exact HU.out
          case round =>
            obtain ⟨o, ho, rfl, HV, hb3⟩ := hrel
            by_cases hox : o < x + 1
            · obtain ⟨d, hd⟩ : ∃ d, d = x - o := ⟨_, rfl⟩
              have hxo : (x : Int) - (o : Int) = (d : Int) := by omega
              have hxw : IntKind.i64.wrap (d : Int) = (d : Int) := IntWalk.i64_in _ (by omega)
              have hdm : d < m := by omega
              have hdm2 : (d : Int) < (m : Int) := by omega
              have hdm3 : (0 : Int) ≤ (d : Int) := by omega
              have hxm2 : (x : Int) < (m : Int) := by omega
              have hxm3 : (0 : Int) ≤ (x : Int) := by omega
              obtain ⟨a1, ha1⟩ : ∃ a1, a1 = acc R j x o := ⟨_, rfl⟩
              obtain ⟨f1, hf1⟩ : ∃ f1, f1 = bst R j d := ⟨_, rfl⟩
              obtain ⟨s1, hs1⟩ : ∃ s1, s1 = pre r o := ⟨_, rfl⟩
              have hba := acc_bd (x := x) (o := o) HG.out hlt hl (by omega)
              have hbf := bst_bd (x := d) HG.out (Nat.le_of_lt hlt) hl
              have hro : RowOk r := by rw [← HRJ.out]; exact HG.out j hlt
              have hbs := pre_le150 hro o
              rw [← ha1] at hba
              rw [← hf1] at hbf
              rw [← hs1] at hbs
              have hst : Hid (max a1 (f1 + s1) = acc R j x (o + 1)) := Lib.hid (by rw [← acc_step, ha1, hf1, hs1, hd, HRJ.out])
              have hcx : wr.cell? ⟨g, x, none⟩ = some (.int .i64 a1) := HV.out.cell (by rw [List.getElem?_set_self (by rw [mid_len]; omega), ha1])
              have hcd : wr.cell? ⟨g, d, none⟩ = some (.int .i64 f1) := HV.out.cell (by
                by_cases h0 : o = 0
                · have : d = x := by omega
                  rw [this, List.getElem?_set_self (by rw [mid_len]; omega), h0, acc_zero, hf1, this]
                · rw [List.getElem?_set_ne (by omega), mid_at (by omega), if_neg (by omega), hf1])
              have hfr := HV.out.free x
              have hz : (if a1 < f1 + s1 then f1 + s1 else a1) = acc R j x (o + 1) := by rw [← hst.out]; split <;> omega
              have HST : Hid (Own ((wr.setCell ⟨g, x, none⟩ (.int .i64 (if a1 < f1 + s1 then f1 + s1 else a1))).drew) g (some ⟨g, 0, none⟩) m ((mid R j (x + 1) k).set x (acc R j x (o + 1)))) := Lib.hid (by
                have := HV.out.set_ x (if a1 < f1 + s1 then f1 + s1 else a1)
                rw [List.set_set] at this
                rw [← hz]
                exact this.drewN 1)
              have HBS : Hid (Below w.heap.size w ((wr.setCell ⟨g, x, none⟩ (.int .i64 (if a1 < f1 + s1 then f1 + s1 else a1))).drew)) := Lib.hid (below_drewN' (hb3.setCell (by rw [HGG.out]; exact Nat.le_refl _) _) 1)
              have hbd : Below w.heap.size w wr.drew := below_drewN' hb3 1
              have HW : Hid (∀ w1, Below w.heap.size w w1 → Calls Try.prog 85 #[.slice A' r.length c', .int .i64 o] w1 fun e w' => e = .returned (.int .i64 s1) ∧ w1 = w') :=
                Lib.hid (fun w1 hb => by rw [hs1]; exact rowWorth_any A' c' r o w1 (hrd.out.below hb) hcap.out hro (by omega))
              have hws : IntKind.i64.wrap (f1 + s1) = f1 + s1 := IntWalk.i64_in _ (by omega)
              clear ha1 hf1 hs1 hro hd hst hz
              go_wp2_with fail
              go_region_with (go_at_call 85; refine (HW.out _ hbd).mono ?_; rintro e w1 ⟨rfl, rfl⟩)
              all_goals
                clear hcx hcd hfr hws hxw
                go_wp2
                go_roundw
                case rel => exact ⟨o + 1, by omega, by go_num, HST, HBS.out⟩
                case measure => simp [intOf]; omega
            · obtain rfl : o = x + 1 := by omega
              have HO3 : Hid (Own wr g (some ⟨g, 0, none⟩) m (mid R j x k)) := Lib.hid (by rw [← mid_set hxk, ← acc_all]; exact HV.out)
              clear hox
              go_wp2
              go_roundw
              case rel => exact ⟨x, by omega, by go_num, HO3, hb3⟩
              case measure => simp [intOf] <;> omega
    · obtain rfl : j = qs.length := by omega
      have hck : wr.cell? ⟨g, k, none⟩ = some (.int .i64 (bst R qs.length k)) := HO.out.cell (by rw [mid_at (Nat.le_refl _), if_neg (by omega)])
      have hkm : (k : Int) < (m : Int) := by omega
      go_wp2
      go_ret
      exact ⟨rfl, hb⟩

end Go.Proofs.Ytkkdffmpeadinaa
