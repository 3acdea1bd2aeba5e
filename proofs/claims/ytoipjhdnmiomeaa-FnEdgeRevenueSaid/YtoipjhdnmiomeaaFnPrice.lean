/-
  The walk of the law of BestPrice.
-/
import Derived.Test.YtoipjhdnmiomeaaFnRev
namespace Go.Proofs.Ytoipjhdnmiomeaa
open Go.RowKit

theorem ironO_yes {xs : List Int} (hv : vW xs = true) : psOf (ironO xs) = frL (ironed xs) := by unfold ironO; rw [hv]; rfl
theorem ironO_len {xs : List Int} : (frL (ironed xs)).length = xs.length := by rw [frL_len, ironed_len]
theorem IronedOf_is (A : Option Addr) (c : Nat) (xs : List Int) (w : World) (h : Rd w A c xs) (hcc : xs.length ≤ c) (hl : xs.length ≤ 1048576) (hv : vW xs = true) :
    Calls Try.prog 22 #[.slice A xs.length c] w fun e w' => ∃ g c', e = .returned (.slice (some ⟨g, 0, none⟩) xs.length c') ∧ OwnF w' w.heap.size (some ⟨g, 0, none⟩) c' (frL (ironed xs)) ∧ Below w.heap.size w w' := by
  refine (IronedOf_any A c xs w h hcc hl).mono fun e w' ho => ?_
  obtain ⟨hb, ⟨h1, _⟩ | ⟨qs, g, c', h1, rfl, ho⟩⟩ := ho
  · unfold ironO at h1; rw [hv] at h1; cases h1
  · unfold ironO at h1; rw [hv] at h1
    obtain rfl : ironed xs = qs := by injection h1
    exact ⟨g, c', by rw [ironO_len], ho, hb⟩

/-- The price that brings in most is the least of which the ironed value is not below 0. -/
theorem best_iron {xs : List Int} (hv : vW xs = true) : bestG xs xs.length < xs.length ∧ 0 ≤ ironAt xs (bestG xs xs.length) ∧ (∀ u, u < bestG xs xs.length → ironAt xs u < 0) ∧ ∀ u, revW xs u ≤ revW xs (bestG xs xs.length) := by
  have hw := vW_valid hv
  obtain ⟨l1, l2⟩ := vW_le hv
  obtain ⟨a1, a2, a3⟩ := leastIron_is hw (xs.length - 1) 0 (by omega) (fun u hu => by omega)
  obtain ⟨_, b2, b3⟩ := least_best hw a1 a2 a3
  generalize leastIron xs (xs.length - 1) 0 = L at *
  have c1 := bestG_lt xs xs.length l1
  have c2 := bestG_max xs xs.length L a1
  have e : bestG xs xs.length = L := by
    rcases Nat.lt_trichotomy (bestG xs xs.length) L with h | h | h
    · have := b3 _ h; omega
    · exact h
    · have h1 := bestG_first xs xs.length L h
      have h2 := b2 (bestG xs xs.length); omega
  rw [e]
  exact ⟨a1, a2, a3, b2⟩

theorem FrIs.neg {q : Rat} {n d : Int} (h : FrIs q n d) : n < 0 ↔ q < 0 := by
  rw [h.1]
  have := Rat.num_nonneg (q := q)
  constructor
  · intro h1
    refine Rat.not_le.1 fun h2 => ?_
    have := this.2 h2
    omega
  · intro h1
    refine Int.not_le.1 fun h2 => ?_
    exact absurd (this.1 h2) (Rat.not_le.2 h1)

theorem ironed_get {xs : List Int} {v : Nat} (hlt : v < xs.length) : (ironed xs)[v]? = some (ironAt xs v) := by
  have h : v < (ironed xs).length := by rw [ironed_len]; exact hlt
  unfold ironAt
  rw [List.getD_eq_getElem?_getD, List.getElem?_eq_getElem h]; rfl

set_option maxRecDepth 100000 in
set_option maxHeartbeats 4000000 in
theorem fnBestPrice_walk {A : Option Addr} {c : Nat} {xs : List Int} {w : World} (h : Came .u8 w A c xs) :
    Calls Try.prog 4 #[.slice A xs.length c] w fun e w' => e = .returned (.bool true) ∧ Below w.heap.size w w' := by
  by_cases hlen : 1048576 < xs.length
  · go_enter Try.func4, Try.ntmps4
    go_wp2
    go_ret
    exact ⟨rfl, Below.refl _ _⟩
  have hl0 : xs.length ≤ 1048576 := by omega
  clear hlen
  go_enter Try.func4, Try.ntmps4
  go_wp2_with fail
  refine (DrawBestPrice_any A c xs w h).mono ?_
  rintro e w1 ⟨A1, c1, ys, rfl, hrd, hcc, hy, B1⟩
  have hy1 : ys.length ≤ 1048576 := by omega
  clear h hl0
  have HI := Lib.hid (BestPrice_any A1 c1 ys w1 hrd hcc hy1)
  have HS := Lib.hid (SBestPrice_any A1 c1 ys w1 hrd hy1)
  cases hv : vW ys with
  | false =>
    have e1 : bestP ys = -1 := by unfold bestP; rw [hv]; rfl
    rw [e1] at HI HS
    clear hv e1
    go_wp2_with fail
    refine HI.out.mono ?_
    rintro e w2 ⟨rfl, rfl⟩
    go_wp2_with fail
    refine HS.out.mono ?_
    rintro e w2 ⟨rfl, rfl⟩
    go_wp2_with fail
    refine HS.out.mono ?_
    rintro e w2 ⟨rfl, rfl⟩
    go_wp2
    go_ret
    exact ⟨rfl, B1⟩
  | true =>
    have HV := Lib.hid hv
    have e1 : bestP ys = bestG ys ys.length := by unfold bestP; rw [hv]; rfl
    rw [e1] at HI HS
    obtain ⟨l1, l2⟩ := vW_le hv
    obtain ⟨q1, q2, q3, q4⟩ := best_iron hv
    generalize bestG ys ys.length = P at *
    have HVI := Lib.hid (IronedOf_is A1 c1 ys w1 hrd hcc hy1 hv)
    have HQ2 := Lib.hid q2
    have HQ3 := Lib.hid q3
    have HQ4 := Lib.hid q4
    have hne : ((P : Int) != (P : Int)) = false := by simp
    have hlt0 : decide ((P : Int) < 0) = false := by simp
    have hq6 : P ≤ 6 := by omega
    clear hv e1 q2 q3 q4
    go_wp2_with fail
    refine HI.out.mono ?_
    rintro e w2 ⟨rfl, rfl⟩
    go_wp2_with fail
    refine HS.out.mono ?_
    rintro e w2 ⟨rfl, rfl⟩
    go_wp2_with fail
    refine HVI.out.mono ?_
    rintro e w2 ⟨g, c2, rfl, ho, hb2⟩
    have hr2 := hrd.below hb2
    have B2 := B1.trans (hb2.mono B1.size)
    clear HI HS HVI hb2 B1 hrd hne hlt0
    go_wp2
    go_loopw [6] (fun i wr => ∃ k : Nat, k ≤ P ∧ i = .int .i64 k ∧ Below w2.heap.size w2 wr) (fun i _ => P - (intOf i).toNat)
    case atStart => exact ⟨0, Nat.zero_le _, rfl, Below.refl _ _⟩
    case round =>
      obtain ⟨k, hk, rfl, hb⟩ := hrel
      have hkl : k < ys.length := by omega
      obtain ⟨n, hn⟩ : ∃ n, n = (ironAt ys k).num := ⟨_, rfl⟩
      obtain ⟨d, hd⟩ : ∃ d, d = ((ironAt ys k).den : Int) := ⟨_, rfl⟩
      have hq : FrIs (ironAt ys k) n d := ⟨hn, hd⟩
      have hg := frL_get (ironed_get hkl) hq
      obtain ⟨hc1, hc2⟩ := (ho.below hb).cell hg
      by_cases hlt : k < P
      · have hneg : n < 0 := hq.neg.2 (HQ3.out k hlt)
        clear hn hd hq hg
        go_wp2
        go_roundw
        case rel => exact ⟨k + 1, by omega, by go_num, hb⟩
        case measure => simp [intOf] <;> omega
      · obtain rfl : k = P := by omega
        have hneg : ¬ n < 0 := fun h => absurd (hq.neg.1 h) (Rat.not_lt.2 HQ2.out)
        clear hn hd hq hg hlt
        rename World => w9
        go_wp2
        go_loopw [7] (fun i wr => ∃ j : Nat, j ≤ 7 ∧ i = .int .i64 j ∧ Below w9.heap.size w9 wr) (fun i _ => 7 - (intOf i).toNat)
        case atStart => exact ⟨0, Nat.zero_le _, rfl, Below.refl _ _⟩
        case round =>
          obtain ⟨j, hj, rfl, hbj⟩ := hrel
          have hr3 := (hr2.below hb).below hbj
          by_cases hj7 : j < 7
          · have HA := Lib.hid (RevenueAt_any A1 c1 ys j _ hr3 hcc hy1)
            have HB := Lib.hid (RevenueAt_any A1 c1 ys k _ hr3 hcc hy1)
            rw [revF_yes HV.out (show j ≤ 6 by omega)] at HA
            rw [revF_yes HV.out (show k ≤ 6 by omega)] at HB
            have hle := HQ4.out j
            generalize revW ys j = R1 at *
            generalize revW ys k = R2 at *
            have hgt : decide (R2 < R1) = false := by simp; omega
            go_wp2_with fail
            refine HA.out.mono ?_
            rintro e w3 ⟨rfl, rfl⟩
            go_wp2_with fail
            refine HB.out.mono ?_
            rintro e w3 ⟨rfl, rfl⟩
            go_wp2
            go_roundw
            case rel => exact ⟨j + 1, by omega, by go_num, hbj⟩
            case measure => simp [intOf] <;> omega
          · obtain rfl : j = 7 := by omega
            have hee : ((k : Int) == (k : Int)) = true := by simp
            go_wp2
            go_ret
            exact ⟨rfl, (B2.trans (hb.mono B2.size)).trans (hbj.mono (Nat.le_trans B2.size hb.size))⟩

end Go.Proofs.Ytoipjhdnmiomeaa
