/-
  Chapter 3, the model: the contract of bestWorth.
-/
import Derived.Test.YtkkdffmpeadinaaUh
namespace Go.Proofs.Ytkkdffmpeadinaa
open Go.RowKit

theorem convTo_over {f : Nat → Int} {r : List Int} {x : Nat} (hf : ∀ a b, a ≤ b → f a ≤ f b) : ∀ m, r.length ≤ m → m ≤ x → convTo f r x m = convTo f r x r.length
  | 0, h, _ => by rw [show r.length = 0 by omega]
  | m + 1, h, hx => by
    rcases Nat.lt_or_ge m r.length with h1 | h1
    · rw [show r.length = m + 1 by omega]
    · have h2 := convTo_over hf m h1 (by omega) (x := x) (r := r)
      have h3 := convTo_ge (f := f) (r := r) (x := x) (own := r.length) r.length (Nat.le_refl _)
      have h4 := hf (x - (m + 1)) (x - r.length) (by omega)
      have h5 := pre_end (r := r) (k := m + 1) (by omega)
      rw [convTo, h2, h5]
      omega
theorem bst_few {R : Nat → List Int} {i x : Nat} (hg : Good R (i + 1)) : convTo (bst R i) (R i) x (min (R i).length x) = bst R (i + 1) x := by
  show _ = convTo (bst R i) (R i) x x
  rcases Nat.le_total (R i).length x with h | h
  · rw [Nat.min_eq_left h, convTo_over (fun a b hab => bst_mono hab (fun j hj => hg j (by omega))) x h (Nat.le_refl _)]
  · rw [Nat.min_eq_right h]

/-- While more is made: n units of the row tried up to u, n - 1 from there on. -/
def mo (R : Nat → List Int) (i n u k : Nat) : List Int := (List.range (k + 1)).map (fun x => convTo (bst R i) (R i) x (min (if x < u then n else n - 1) x))
theorem mo_len (R : Nat → List Int) (i n u k : Nat) : (mo R i n u k).length = k + 1 := by simp [mo]
theorem mo_at {R : Nat → List Int} {i n u k x : Nat} (hx : x ≤ k) : (mo R i n u k)[x]? = some (convTo (bst R i) (R i) x (min (if x < u then n else n - 1) x)) := by
  simp [mo, show x < k + 1 by omega]
theorem mo_first (R : Nat → List Int) (i k : Nat) : mo R i 0 0 k = mid R i (k + 1) k := by
  unfold mo mid
  refine List.map_congr_left (fun x hx => ?_)
  have := List.mem_range.1 hx
  rw [if_neg (by omega), if_neg (by omega)]
  simp [convTo]
theorem mo_next (R : Nat → List Int) (i n k : Nat) : mo R i n (k + 1) k = mo R i (n + 1) (n + 1) k := by
  unfold mo
  refine List.map_congr_left (fun x hx => ?_)
  have := List.mem_range.1 hx
  rw [if_pos (by omega)]
  congr 1
  split <;> omega
theorem mo_start (R : Nat → List Int) (i k : Nat) : mid R i (k + 1) k = mo R i 1 1 k := by
  rw [← mo_first]
  unfold mo
  refine List.map_congr_left (fun x hx => ?_)
  congr 1
  split <;> split <;> omega
theorem mo_end {R : Nat → List Int} {i k : Nat} (hg : Good R (i + 1)) : mo R i ((R i).length + 1) ((R i).length + 1) k = mid R (i + 1) (k + 1) k := by
  unfold mo mid
  refine List.map_congr_left (fun x hx => ?_)
  have h := List.mem_range.1 hx
  rw [if_neg (show ¬ k + 1 ≤ x by omega), ← bst_few hg]
  congr 1
  split <;> omega
theorem mo_set {R : Nat → List Int} {i n u k : Nat} (hu : u ≤ k) (hn : n + 1 ≤ u) :
    (mo R i (n + 1) u k).set u (max (convTo (bst R i) (R i) u n) (bst R i (u - (n + 1)) + pre (R i) (n + 1))) = mo R i (n + 1) (u + 1) k := by
  apply List.ext_getElem?; intro x
  rcases Nat.lt_or_ge k x with hx | hx
  · rw [List.getElem?_eq_none (by rw [List.length_set, mo_len]; omega), List.getElem?_eq_none (by rw [mo_len]; omega)]
  · rw [List.getElem?_set, mo_at hx, mo_at hx]
    by_cases h1 : u = x
    · subst h1
      rw [if_pos rfl, if_pos (by rw [mo_len]; omega), if_pos (by omega), Nat.min_eq_left hn]
      rfl
    · rw [if_neg h1]
      congr 2
      congr 1
      split <;> split <;> omega
theorem mo_big {R : Nat → List Int} {i n u k : Nat} (hu : k + 1 ≤ u) : mo R i n u k = mo R i (n + 1) (n + 1) k := by
  rw [← mo_next]
  unfold mo
  refine List.map_congr_left (fun x hx => ?_)
  have := List.mem_range.1 hx
  rw [if_pos (by omega), if_pos (by omega)]
theorem convTo_bd {R : Nat → List Int} {i x m n : Nat} (hg : Good R n) (hi : i < n) (hn : n ≤ 4) (hm : m ≤ x) : 0 ≤ convTo (bst R i) (R i) x m ∧ convTo (bst R i) (R i) x m ≤ 600 := by
  have := acc_bd (x := x) (o := m + 1) hg hi hn (by omega)
  exact this

set_option maxHeartbeats 4000000 in
theorem bestWorth_any (A : Option Addr) (c k : Nat) (rows : List (List Int)) (w : World) (hR : RdR w A c rows) (hl : rows.length ≤ 4) (hg : Good (RW rows) rows.length) (hk : k ≤ 5) :
    Calls Try.prog 57 #[.slice A rows.length c, .int .i64 k] w fun e w' => e = .returned (.int .i64 (bst (RW rows) rows.length k)) ∧ Below w.heap.size w w' := by
  obtain ⟨R, hRR⟩ : ∃ R, R = RW rows := ⟨_, rfl⟩
  have HR := Lib.hid hRR
  rw [← hRR] at hg ⊢
  clear hRR
  obtain ⟨m, hM⟩ : ∃ m, m = k + 1 := ⟨_, rfl⟩
  have hk1 : (k : Int) + 1 = (m : Int) := by omega
  have hm6 : m ≤ 6 := by omega
  have HM := Lib.hid hM
  clear hM
  have HG := Lib.hid hg
  clear hg
  go_enter Try.func57, Try.ntmps57
  go_wp2_with (at_make; refine wpList_make_ints rfl _ _ rfl w.heap.size m rfl rfl (by omega) (by simp) ?_; intro w2 ho hb)
  have HO : Hid (Own w2 w.heap.size (some ⟨w.heap.size, 0, none⟩) m (mid R 0 (k + 1) k)) := Lib.hid (by rw [mid_first, ← HM.out]; exact ho)
  clear ho
  go_loopw [5, 6] (fun now i wr => ∃ (j gn cn : Nat), j ≤ rows.length ∧ i = .int .i64 j ∧ now = .slice (some ⟨gn, 0, none⟩) m cn ∧ Hid (Own wr w.heap.size (some ⟨gn, 0, none⟩) cn (mid R j (k + 1) k)) ∧ Below w.heap.size w wr) (fun _ i _ => rows.length - (intOf i).toNat)
  case atStart => exact ⟨0, w.heap.size, m, Nat.zero_le _, rfl, rfl, HO, hb⟩
  case round =>
    obtain ⟨j, gn, cn, hj, rfl, rfl, HO, hb⟩ := hrel
    by_cases hlt : j < rows.length
    · obtain ⟨b, off, r, A', c', rfl, hr, hc0, hcap, hrd⟩ := hR.at_ hlt
      have hbl : b < w.heap.size := World.block_lt_of_cell? w _ hc0
      have HC0 := Lib.hid hc0
      have HRJ : Hid (R j = r) := Lib.hid (by rw [HR.out]; exact rw_of hr.out)
      have hr5 : r.length ≤ 5 := by rw [← HRJ.out]; exact (HG.out j hlt).1
      have hb1 := (Below.refl wr.heap.size wr).alloc (Nat.le_refl _) (.cells #[] 3)
      have HRN := Lib.hid (HO.out.rd.below hb1)
      have hml : (mid R j (k + 1) k).length = m := by rw [mid_len, HM.out]
      have HML := Lib.hid hml
      clear hc0 hml
      go_wp2_with (at_builtin; refine wpList_clone rfl _ _ rfl wr.heap.size wr.heap.size rfl (own_empty wr) _ _ (mid R j (k + 1) k) (by rw [HML.out]; rfl) HRN.out (by rw [HML.out]; omega) (by simp) ?_; rw [HML.out]; intro gm cm wm om bm)
      have HBm : Hid (Below w.heap.size w wm) := Lib.hid (hb.trans ((hb1.trans bm).mono hb.size))
      have HOm : Hid (Own wm wr.heap.size (some ⟨gm, 0, none⟩) cm (mo R j 1 1 k)) := Lib.hid (by rw [← mo_start]; exact om)
      have HOn : Hid (Own wm w.heap.size (some ⟨gn, 0, none⟩) cn (mid R j (k + 1) k)) := Lib.hid (HO.out.below (hb1.trans bm))
      have hgn : gn < wr.heap.size := HO.out.lt
      have hgm : wr.heap.size ≤ gm := om.ge
      have hne : gn ≠ gm := by omega
      have hws : w.heap.size ≤ gm := Nat.le_trans hb.size hgm
      obtain ⟨S, hS⟩ : ∃ S, S = wr.heap.size := ⟨_, rfl⟩
      have hS0 : Hid (w.heap.size ≤ S) := Lib.hid (by rw [hS]; exact hb.size)
      have hws0 : Hid (w.heap.size ≤ gm) := Lib.hid hws
      rw [← hS] at HOm hgn hgm
      clear om bm hb1 HRN hS
      go_loopw [8, 9] (fun sm i wr => ∃ n : Nat, n ≤ r.length ∧ i = .int .i64 ((n : Int) + 1) ∧ (∃ t, sm = .int .i64 t ∧ Hid (t = pre r n)) ∧ Hid (Own wr S (some ⟨gm, 0, none⟩) cm (mo R j (n + 1) (n + 1) k)) ∧ Hid (Own wr w.heap.size (some ⟨gn, 0, none⟩) cn (mid R j (k + 1) k)) ∧ Below w.heap.size w wr) (fun _ i _ => r.length + 1 - (intOf i).toNat)
      case atStart => exact ⟨0, Nat.zero_le _, by go_num, ⟨0, rfl, Lib.hid (by rw [pre_zero])⟩, HOm, HOn, HBm.out⟩
      case round =>
        obtain ⟨n, hn, rfl, ⟨t, rfl, HT⟩, HOm, HOn, hb2⟩ := hrel
        have hc := (hb2.cell (p := ⟨b, off + j, none⟩) hbl).trans HC0.out
        by_cases hnl : n < r.length
        · obtain ⟨b3, o3, y, rfl, hbl3, hy, hcy0⟩ := hrd.out.at_ hnl
          have hcy := (hb2.cell (p := ⟨b3, o3 + n, none⟩) hbl3).trans hcy0
          have hro : RowOk r := by rw [← HRJ.out]; exact HG.out j hlt
          have hyb := hro.2 n y hy.out
          have hpb := pre_le150 hro n
          have hpb2 := pre_le150 hro (n + 1)
          have hps := pre_step hy.out
          obtain ⟨s1, hs1⟩ : ∃ s1, s1 = pre r (n + 1) := ⟨_, rfl⟩
          have hts : t + y = s1 := by rw [hs1, hps, HT.out]
          rw [← hs1] at hpb2
          rw [← HT.out] at hpb
          have hy0 := hyb.1
          have hy1 := hyb.2.1
          have hwn : IntKind.i64.wrap (n : Int) = (n : Int) := IntWalk.i64_in _ (by omega)
          have hwt : IntKind.i64.wrap (t + y) = t + y := IntWalk.i64_in _ (by omega)
          have hwt2 : IntKind.i64.wrap s1 = s1 := IntWalk.i64_in _ (by omega)
          have hnn : (n : Int) + 1 - 1 = (n : Int) := by omega
          have HS1 := Lib.hid hs1
          have hle : (n : Int) + 1 ≤ (r.length : Int) := by omega
          clear hcy0 hyb hps hs1 hro
          go_wp2
          go_loopw [10] (fun i wr => ∃ u : Nat, n + 1 ≤ u ∧ u ≤ max (n + 1) (k + 1) ∧ i = .int .i64 u ∧ Hid (Own wr S (some ⟨gm, 0, none⟩) cm (mo R j (n + 1) u k)) ∧ Hid (Own wr w.heap.size (some ⟨gn, 0, none⟩) cn (mid R j (k + 1) k)) ∧ Below w.heap.size w wr) (fun i _ => k + 1 - (intOf i).toNat)
          case atStart => exact ⟨n + 1, Nat.le_refl _, by omega, by go_num, HOm, HOn, hb2⟩
          case round =>
            obtain ⟨u, hu1, hu2, rfl, HU, HN, hb3⟩ := hrel
            by_cases huk : u ≤ k
            · obtain ⟨d, hd⟩ : ∃ d, d = u - (n + 1) := ⟨_, rfl⟩
              have hud : (u : Int) - ((n : Int) + 1) = (d : Int) := by omega
              have hwd : IntKind.i64.wrap (d : Int) = (d : Int) := IntWalk.i64_in _ (by omega)
              obtain ⟨a1, ha1⟩ : ∃ a1, a1 = convTo (bst R j) (R j) u n := ⟨_, rfl⟩
              obtain ⟨f1, hf1⟩ : ∃ f1, f1 = bst R j d := ⟨_, rfl⟩
              have hba := convTo_bd (x := u) (m := n) HG.out hlt hl (by omega)
              have hbf := bst_bd (x := d) HG.out (Nat.le_of_lt hlt) hl
              rw [← ha1] at hba
              rw [← hf1] at hbf
              have hcx : wr.cell? ⟨gm, u, none⟩ = some (.int .i64 a1) := HU.out.cell (by rw [mo_at huk, if_neg (by omega), Nat.add_sub_cancel, Nat.min_eq_left (by omega), ha1])
              have hcd : wr.cell? ⟨gn, d, none⟩ = some (.int .i64 f1) := HN.out.cell (by rw [mid_at (by omega), if_neg (by omega), hf1])
              have hfr := HU.out.free u
              have hum : (u : Int) < (m : Int) := by omega
              have hdm : (d : Int) < (m : Int) := by omega
              have hws : IntKind.i64.wrap (f1 + s1) = f1 + s1 := IntWalk.i64_in _ (by omega)
              have hset : Hid (∀ z, z = max a1 (f1 + s1) → (mo R j (n + 1) u k).set u z = mo R j (n + 1) (u + 1) k) := Lib.hid (fun z hz => by
                rw [hz, ← mo_set huk hu1, ha1, hf1, HS1.out, HRJ.out, hd])
              have HST : Hid (Own ((wr.setCell ⟨gm, u, none⟩ (.int .i64 (if a1 < f1 + s1 then f1 + s1 else a1))).drew) S (some ⟨gm, 0, none⟩) cm (mo R j (n + 1) (u + 1) k)) := Lib.hid (by
                have := HU.out.set_ u (if a1 < f1 + s1 then f1 + s1 else a1)
                rw [hset.out _ (by split <;> omega)] at this
                exact this.drewN 1)
              have HNN : Hid (Own ((wr.setCell ⟨gm, u, none⟩ (.int .i64 (if a1 < f1 + s1 then f1 + s1 else a1))).drew) w.heap.size (some ⟨gn, 0, none⟩) cn (mid R j (k + 1) k)) := Lib.hid (by
                have := HN.out.kept_ (A2 := some ⟨gm, 0, none⟩) (World.ownsRow.stored HU.out u (.int .i64 (if a1 < f1 + s1 then f1 + s1 else a1))).2 (.inr (fun e => hne (Option.some.inj e)))
                exact this.drewN 1)
              have HBS : Hid (Below w.heap.size w ((wr.setCell ⟨gm, u, none⟩ (.int .i64 (if a1 < f1 + s1 then f1 + s1 else a1))).drew)) := Lib.hid (below_drewN' (hb3.setCell hws0.out _) 1)
              clear ha1 hf1 hd hset
              go_wp2_with fail
              go_region_with (fail)
              all_goals
                clear hcx hcd hfr hws
                go_wp2
                go_roundw
                case rel => exact ⟨u + 1, by omega, by omega, by go_num, HST, HNN, HBS.out⟩
                case measure => simp [intOf] <;> omega
            · have HO3 : Hid (Own wr S (some ⟨gm, 0, none⟩) cm (mo R j (n + 1 + 1) (n + 1 + 1) k)) := Lib.hid (by rw [← mo_big (u := u) (by omega)]; exact HU.out)
              clear hnn hwn
              go_wp2
              go_roundw
              case rel => exact ⟨n + 1, by omega, by go_num, ⟨_, rfl, HS1⟩, HO3, HN, hb3⟩
              case measure => simp [intOf] <;> omega
        · obtain rfl : n = r.length := by omega
          have HO4 : Hid (Own wr w.heap.size (some ⟨gm, 0, none⟩) cm (mid R (j + 1) (k + 1) k)) := Lib.hid (by
            have := HOm.out
            rw [← HRJ.out, mo_end (fun q hq => HG.out q (by omega))] at this
            exact this.base hS0.out)
          have hgt : ¬ ((r.length : Int) + 1 ≤ (r.length : Int)) := by omega
          go_wp2
          go_roundw
          case rel => exact ⟨j + 1, gm, cm, by omega, by go_num, rfl, HO4, hb2⟩
          case measure => simp [intOf] <;> omega
    · obtain rfl : j = rows.length := by omega
      have hck : wr.cell? ⟨gn, k, none⟩ = some (.int .i64 (bst R rows.length k)) := HO.out.cell (by rw [mid_at (Nat.le_refl _), if_neg (by omega)])
      have hkm : (k : Int) < (m : Int) := by omega
      go_wp2
      go_ret
      exact ⟨rfl, hb⟩

end Go.Proofs.Ytkkdffmpeadinaa
