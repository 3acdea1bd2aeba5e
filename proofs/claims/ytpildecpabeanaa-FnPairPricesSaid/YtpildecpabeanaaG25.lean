/-
  Rows that came in as an argument; what the exact laws' walks of chapter 3 have in common.
-/
import Derived.Test.YtpildecpabeanaaG24
import Derived.Test.YtpildecpabeanaaG20
import Derived.Test.YtpildecpabeanaaG23
import Derived.Test.YtpildecpabeanaaG05
namespace Go.Proofs.Ytpildecpabeanaa
open Go.RowKit

/-- The slice (A, as long as rows) came in with capacity c and reads as rows of ints. -/
def CameR (w : World) (A : Option Addr) (c : Nat) (rows : List (List Int)) : Prop := RdR w A c rows ∧ rows.length ≤ maxLen ∧ ∀ r ∈ rows, r.length ≤ maxLen

theorem CameR.nil (w : World) : CameR w none 0 [] := ⟨RdR.nil w, by simp, fun _ h => absurd h (by simp)⟩
theorem addr_addR (b off j : Nat) : (⟨b, off, none⟩ : Addr).add j = ⟨b, off + j, none⟩ := by unfold Addr.add; split <;> simp_all
theorem CameR.of {w : World} {x : Addr} {len cap base : Nat} {Af : Nat → Option Addr} {L C : Nat → Nat} {Z : Nat → List Int} (hl : len ≤ cap) (hm : cap ≤ maxLen)
    (h : ∀ r, r < cap → w.cell? (x.add r) = some (.slice (Af r) (L r) (C r)) ∧ L r ≤ C r ∧ C r ≤ maxLen ∧ (Z r).length = C r ∧ (∀ n ∈ Z r, (Lit.int .i64 n).wf = true) ∧ (Af r = none → C r = 0) ∧
      ∀ a', Af r = some a' → base ≤ a'.block ∧ ∀ c, c < C r → w.cell? (a'.add c) = some (.int .i64 ((Z r).getD c 0))) :
    ∃ rows, len = rows.length ∧ CameR w (some x) cap rows := by
  refine ⟨(List.range len).map (fun r => (Z r).take (L r)), by simp, ⟨by simpa using hl, ?_⟩, by simp; omega, ?_⟩
  · rcases Nat.eq_zero_or_pos len with h0 | h0
    · subst h0
      exact .inl ⟨by simp, fun h => by cases h⟩
    · obtain ⟨b, off, spot⟩ := x
      have hs : spot = none := by have := (h 0 (by omega)).1; simpa [Addr.add] using World.cell?_spot this
      subst hs
      refine .inr ⟨b, off, rfl, fun k r hk => ?_⟩
      have hkl : k < len := by have := (List.getElem?_eq_some_iff.1 hk).1; simpa using this
      have hr : r = (Z k).take (L k) := by simp [hkl] at hk; exact hk.symm
      obtain ⟨h1, h2, h3, h4, _, h6, h7⟩ := h k (by omega)
      rw [addr_addR] at h1
      have hrl : r.length = L k := by rw [hr, List.length_take]; omega
      refine ⟨_, h1, Af k, C k, by rw [hrl], by omega, ?_⟩
      cases hA : Af k with
      | none =>
        have := h6 hA
        exact .inl ⟨List.eq_nil_of_length_eq_zero (by omega), fun _ => this⟩
      | some a' =>
        obtain ⟨_, h8⟩ := h7 a' hA
        rcases Nat.eq_zero_or_pos (L k) with hz | hz
        · exact .inl ⟨List.eq_nil_of_length_eq_zero (by omega), fun h => by cases h⟩
        · obtain ⟨b', off', spot'⟩ := a'
          have hs' : spot' = none := by simpa [Addr.add] using World.cell?_spot (h8 0 (by omega))
          subst hs'
          refine .inr ⟨b', off', rfl, fun j hj => ?_⟩
          have := h8 j (by omega)
          rw [addr_addR] at this
          rw [this, hr]
          simp [show j < L k by omega]
  · intro r hr
    obtain ⟨k, hk, rfl⟩ := List.mem_map.1 hr
    have hk := List.mem_range.1 hk
    have := h k (by omega)
    rw [List.length_take]
    omega

theorem szR_len {rows : List (List Int)} (h : szR rows ≤ 1048576) : rows.length ≤ 1048576 := by unfold szR at h; omega
theorem szR_each {rows : List (List Int)} (h : szR rows ≤ 1048576) : ∀ r ∈ rows, r.length ≤ 1099511627776 := by
  intro r hr
  obtain ⟨k, hk, rfl⟩ := List.getElem_of_mem hr
  have h1 := flat_take (List.getElem?_eq_getElem hk)
  have h2 := flat_le (rows := rows) (k + 1)
  unfold szR at h
  omega
theorem nums_sz {ps : List (Nat × Nat × List Int)} {rows : List (List Int)} (hm : ps.map (·.2.2) = rows) (h : szR rows ≤ 1048576) : ps.length ≤ 1048576 ∧ numsU ps ≤ 1048576 ∧ ∀ p ∈ ps, p.2.2.length ≤ 1099511627776 := by
  have h1 := numsU_flat ps
  have h2 := congrArg List.length hm
  rw [List.length_map] at h2
  unfold szR at h
  rw [hm] at h1
  refine ⟨by omega, by omega, fun p hp => ?_⟩
  have := numsU_mem hp
  omega
theorem own_bk {w : World} {B k : Nat} {A : Option Addr} {c : Nat} {xs : List Int} (h : Own w B A c xs) (hk : ofA A = some k) : B ≤ k ∧ k < w.heap.size :=
  World.ownsRow.lt h k (by rw [own_block]; exact hk)

end Go.Proofs.Ytpildecpabeanaa

/-
  Chapter 8: MostPairPrices of the model and of the program.
-/
namespace Go.Proofs.Ytpildecpabeanaa
open Go.RowKit

open Classical in
/-- What each thing takes when it is missing, nil for others. -/
noncomputable def mpL (rows : List (List Int)) : List Int := if VR rows then (List.range (RW rows 0).length).map (mpP rows) else []
theorem mp_yes {rows : List (List Int)} (h : VR rows) : mpL rows = (List.range (RW rows 0).length).map (mpP rows) := by simp [mpL, h]
theorem mp_no {rows : List (List Int)} (h : ¬ VR rows) : mpL rows = [] := by simp [mpL, h]
theorem row_head {rows : List (List Int)} {w : World} {A : Option Addr} {c : Nat} (h : RdR w A c rows) (hv : VR rows) : ∃ b off A' c', A = some ⟨b, off, none⟩ ∧ w.cell? ⟨b, off, none⟩ = some (.slice A' (RW rows 0).length c') := by
  obtain ⟨b, off, r, A', c', rfl, hr, hc, _, _⟩ := h.at_ (k := 0) (by have := hv.1; omega)
  rw [rw_of hr.out]
  exact ⟨b, off, A', c', rfl, by simpa using hc⟩

set_option maxRecDepth 100000 in
set_option maxHeartbeats 2000000 in
theorem SMostPairPrices_any (A : Option Addr) (c : Nat) (rows : List (List Int)) (w : World) (h : RdR w A c rows) (hl : rows.length ≤ 1099511627776) (hl2 : ∀ r ∈ rows, r.length ≤ 1099511627776) :
    Calls Try.prog 53 #[.slice A rows.length c] w (NewL w (mpL rows)) := by
  have HV := Lib.hid (validRows_any A c rows w h hl hl2)
  by_cases hv : VR rows
  · obtain ⟨hk, h12, hm1, hm4⟩ := hv.rk
    obtain ⟨b, off, A', c', rfl, hc⟩ := row_head h hv
    rw [vr_true hv] at HV
    have HP : Hid (∀ (u : Nat) (w1 : World), u < 16 → Below w.heap.size w w1 → Calls Try.prog 111 #[.slice (some ⟨b, off, none⟩) rows.length c, .int .i64 0, .int .i64 (u : Int)] w1 (PwIs w1 (pb rows u))) := Lib.hid (fun u w1 hu hb => by
      have := pairWorth_any (some ⟨b, off, none⟩) c _ rows hm4 hk h12 hv.1.2 rows.length 0 u w1 (by omega) hu (h.below hb)
      exact this)
    have HC := Lib.hid hc
    have E1 := Lib.hid (mp_yes hv)
    have HBD := Lib.hid (fun u => (⟨pb_nonneg hk u, pb_top hk h12 u⟩ : _ ∧ _))
    have hn4 := hv.1.2
    have hn1 := hv.1.1
    clear hv hk h12 h hc
    generalize (RW rows 0).length = m at *
    obtain ⟨zs, hzs⟩ : ∃ zs, zs = (List.range m).map (mpP rows) := ⟨_, rfl⟩
    have hzl : zs.length = m := by rw [hzs]; simp
    have HZA : Hid (∀ k, k < m → zs.take (k + 1) = zs.take k ++ [(pb rows 0).1 - (pb rows (2 ^ k)).1]) := Lib.hid (fun k hk => by
      rw [List.take_add_one, hzs]
      simp [hk, mpP])
    rw [← hzs] at E1
    have HZL := Lib.hid hzl
    have H0 := HBD.out 0
    have hz0 : ((0 : Nat) : Int) = 0 := rfl
    have HP0 : Hid (∀ n, Calls Try.prog 111 #[.slice (some ⟨b, off, none⟩) rows.length c, .int .i64 0, .int .i64 0] (w.drewN n) (PwIs (w.drewN n) (pb rows 0))) := Lib.hid (fun n => HP.out 0 _ (by omega) (below_drewN' (Below.refl _ _) n))
    clear hzs hzl hz0
    go_enter Try.func53, Try.ntmps53
    go_wp2_with fail
    refine HV.out.mono ?_
    rintro e w1 ⟨rfl, n, rfl⟩
    go_wp2_with fail
    refine (HP0.out n).mono ?_
    rintro e w2 ⟨A2, c2, rfl, o2, b2⟩
    have HB2 := Lib.hid ((below_drewN' (Below.refl w.heap.size w) n).trans b2)
    clear b2 o2 HP0 HV
    generalize (pb rows 0).1 = s at *
    have HO0 : Hid (Own (w2.alloc (.cells #[] 3)) w.heap.size (some ⟨w2.heap.size, 0, none⟩) 0 (zs.take 0)) := Lib.hid ((own_empty w2).base HB2.out.size)
    have HB3 := Lib.hid (HB2.out.trans (((Below.refl w2.heap.size w2).alloc (Nat.le_refl _) (.cells #[] 3)).mono HB2.out.size))
    go_wp2
    go_loopw [5, 6] (fun out j wr => ∃ (k : Nat) (A1 : Option Addr) (c1 : Nat), k ≤ m ∧ j = .int .i64 k ∧ out = .slice A1 k c1 ∧ Hid (Own wr w.heap.size A1 c1 (zs.take k)) ∧ Hid (Below w.heap.size w wr)) (fun _ j _ => m - (intOf j).toNat)
    case atStart => exact ⟨0, _, _, Nat.zero_le _, rfl, rfl, HO0, HB3⟩
    case round =>
      obtain ⟨k, A1, c1, hk, rfl, rfl, HO, HB⟩ := hrel
      have hcr := (HB.out.cell (p := ⟨b, off, none⟩) (World.block_lt_of_cell? w _ HC.out)).trans HC.out
      have h1l : 1 ≤ rows.length := hn1
      by_cases hlt : k < m
      · have hza := HZA.out k hlt
        have hbd := HBD.out (2 ^ k)
        have h16 : 2 ^ k < 16 := by
          have : 2 ^ k ≤ 2 ^ 3 := Nat.pow_le_pow_right (by omega) (by omega)
          omega
        have HPW := Lib.hid (HP.out (2 ^ k) wr h16 HB.out)
        have HPO := Lib.hid (fun w1 => Spow4_any k (by omega) w1)
        obtain ⟨p, hp⟩ : ∃ p, p = 2 ^ k := ⟨_, rfl⟩
        rw [← hp] at hza hbd HPW HPO
        obtain ⟨y, js, hyj⟩ : ∃ y js, pb rows p = (y, js) := ⟨_, _, rfl⟩
        rw [hyj] at hza hbd HPW
        simp only at hza hbd
        have hsy : IntKind.i64.wrap (s - y) = s - y := IntWalk.i64_in _ (by omega)
        have HZ := Lib.hid hza
        have htk : (zs.take k).length = k := by rw [List.length_take, HZL.out]; omega
        have HTK := Lib.hid htk
        have hk1 : k + 1 ≤ 1099511627776 := by omega
        have HK1 := Lib.hid hk1
        clear hp hyj hza htk hk1 h16 HP HBD
        go_wp2_with fail
        refine (HPO.out _).mono ?_
        rintro e w4 ⟨rfl, rfl⟩
        go_wp2_with fail
        refine HPW.out.mono ?_
        rintro e w5 ⟨A5, c5, rfl, o5, b5⟩
        have HB5 := Lib.hid (HB.out.trans (b5.mono HB.out.size))
        have HO5 := Lib.hid ((HO.out.below b5).below ((Below.refl w5.heap.size w5).alloc (Nat.le_refl _) (.cells #[.int .i64 (s - y)] 3)))
        have HL5 := Lib.hid (own_lit w5 [s - y] (by simp)).rd
        have hsz : w.heap.size ≤ (w5.alloc (.cells #[.int .i64 (s - y)] 3)).heap.size := Nat.le_trans HB5.out.size ((Below.refl _ w5).alloc (Nat.le_refl _) (.cells #[.int .i64 (s - y)] 3)).size
        have HSZ := Lib.hid hsz
        clear b5 o5 hsz
        go_wp2_with (at_builtin; refine wpList_append_any rfl _ _ 23 Try.underlying23 rfl w.heap.size A1 c1 (zs.take k) k HTK.out rfl HO5.out (some ⟨w5.heap.size, 0, none⟩) 1 [s - y] 1 rfl rfl HL5.out HK1.out HSZ.out ?_; intro A6 c6 w6 ho6 hg6)
        have HB6 := Lib.hid (((HB5.out.trans ((((Below.refl _ w5).alloc (Nat.le_refl _) (.cells #[.int .i64 (s - y)] 3))).mono HB5.out.size))).grown hg6 HSZ.out (fun q e => (own_bk HO.out e).1))
        rw [← HZ.out] at ho6
        go_roundw
        case rel => exact ⟨k + 1, A6, c6, hlt, by go_num, rfl, Lib.hid ho6, HB6⟩
        case measure => simp [intOf]; omega
      · obtain rfl : k = m := by omega
        go_wp2
        go_ret
        rw [E1.out]
        have ho := HO.out
        rw [List.take_of_length_le (by rw [HZL.out]; exact Nat.le_refl _)] at ho
        exact ⟨A1, c1, by rw [HZL.out]; rfl, ho, HB.out⟩
  · rw [vr_false hv] at HV
    have E1 := Lib.hid (mp_no hv)
    go_enter Try.func53, Try.ntmps53
    go_wp2_with fail
    refine HV.out.mono ?_
    rintro e w1 ⟨rfl, n, rfl⟩
    go_wp2
    go_ret
    rw [E1.out]
    exact ⟨none, 0, rfl, own_none _ _, below_drewN' (Below.refl _ _) n⟩

set_option maxRecDepth 100000 in
set_option maxHeartbeats 2000000 in
theorem MostPairPrices_any (A : Option Addr) (c : Nat) (rows : List (List Int)) (w : World) (h : RdR w A c rows) (hl : rows.length ≤ 1099511627776) (hl2 : ∀ r ∈ rows, r.length ≤ 1099511627776) :
    Calls Try.prog 49 #[.slice A rows.length c] w (NewL w (mpL rows)) := by
  have HV := Lib.hid (ValidRows_any A c rows w h hl hl2)
  by_cases hv : VR rows
  · obtain ⟨hk, h12, hm1, hm4⟩ := hv.rk
    obtain ⟨b, off, A', c', rfl, hc⟩ := row_head h hv
    rw [vr_true hv] at HV
    have HF := Lib.hid (fun (u : Nat) w1 (hu : u < 2 ^ (RW rows 0).length) (b1 : Below w.heap.size w w1) => bestFrom_any _ hm4 hm1 rows hk h12 hv.1.2 (some ⟨b, off, none⟩) c u w1 hu (h.below b1))
    have HS : Hid (∀ (u : Nat) (v : Value) (w1 : World), PLs w1 v (prs rows (pb rows u).2) → Calls Try.prog 101 #[v] w1 fun e w' => e = .returned (.int .i64 (pb rows u).1) ∧ ∃ n, w' = w1.drewN n) := Lib.hid (fun u v w1 hp => by
      have hb := prs_bd (fun r hr j => ⟨(hk r hr).2 j, h12 r hr j⟩) (pb rows u).2
      have := sum_any _ v w1 hp (by have := hb.1; have := hv.1.2; omega) hb.2
      rwa [smP_prs, (pb_mt hk u).2] at this)
    have HC := Lib.hid hc
    have E1 := Lib.hid (mp_yes hv)
    have HBD := Lib.hid (fun u => (⟨pb_nonneg hk u, pb_top hk h12 u⟩ : _ ∧ _))
    have hn4 := hv.1.2
    have hn1 := hv.1.1
    clear hv hk h12 h hc
    generalize (RW rows 0).length = m at *
    obtain ⟨zs, hzs⟩ : ∃ zs, zs = (List.range m).map (mpP rows) := ⟨_, rfl⟩
    have hzl : zs.length = m := by rw [hzs]; simp
    have HZA : Hid (∀ k, k < m → zs[k]? = some ((pb rows 0).1 - (pb rows (2 ^ k)).1)) := Lib.hid (fun k hk => by
      rw [hzs]
      simp [hk, mpP])
    rw [← hzs] at E1
    have HZL := Lib.hid hzl
    have H0 := HBD.out 0
    have HF0 : Hid (∀ w1, Below w.heap.size w w1 → Calls Try.prog 99 #[.slice (some ⟨b, off, none⟩) rows.length c, .int .i64 0] w1 (PtrIs w1 (prs rows (pb rows 0).2))) := Lib.hid (fun w1 b1 => HF.out 0 w1 (Nat.two_pow_pos _) b1)
    clear hzs hzl
    go_enter Try.func49, Try.ntmps49
    go_wp2_with fail
    refine HV.out.mono ?_
    rintro e w1 ⟨rfl, b1⟩
    go_wp2_with fail
    refine (HF0.out w1 b1).mono ?_
    rintro e w2 ⟨v2, rfl, hp2, b2⟩
    go_wp2_with fail
    refine (HS.out 0 v2 w2 hp2).mono ?_
    rintro e w3 ⟨rfl, n3, hw3⟩
    have HB3 : Hid (Below w.heap.size w w3) := Lib.hid (by rw [hw3]; exact below_drewN' (b1.trans (b2.mono b1.size)) n3)
    clear hw3
    have hcr := (HB3.out.cell (p := ⟨b, off, none⟩) (World.block_lt_of_cell? w _ HC.out)).trans HC.out
    clear b1 b2 hp2 HF0 HV
    have h1l : 1 ≤ rows.length := hn1
    generalize (pb rows 0).1 = s at *
    go_wp2_with (at_make; refine wpList_make_ints rfl _ _ rfl w.heap.size m rfl rfl (by omega) HB3.out.size ?_; intro w4 ho4 hb4)
    have HO4 : Hid (Own w4 w.heap.size (some ⟨w3.heap.size, 0, none⟩) m (filled zs 0)) := Lib.hid (by rw [filled_zero, HZL.out]; exact ho4)
    have HB4 : Hid (Below w.heap.size w w4) := Lib.hid (HB3.out.trans hb4)
    clear ho4 hb4
    go_loopw [19] (fun i wr => ∃ k : Nat, k ≤ m ∧ i = .int .i64 k ∧ Hid (Own wr w.heap.size (some ⟨w3.heap.size, 0, none⟩) m (filled zs k)) ∧ Hid (Below w.heap.size w wr)) (fun i _ => m - (intOf i).toNat)
    case atStart => exact ⟨0, Nat.zero_le _, rfl, HO4, HB4⟩
    case round =>
      obtain ⟨k, hk, rfl, HO, HB⟩ := hrel
      by_cases hlt : k < m
      · have hza := HZA.out k hlt
        have hbd := HBD.out (2 ^ k)
        have hpm : 2 ^ k < 2 ^ m := Nat.pow_lt_pow_right (by omega) hlt
        have HFW := Lib.hid (HF.out (2 ^ k) wr hpm HB.out)
        have HSW := Lib.hid (HS.out (2 ^ k))
        have hsh := sh_pow (k := k) (by omega)
        obtain ⟨p, hp⟩ : ∃ p, p = 2 ^ k := ⟨_, rfl⟩
        rw [← hp] at hza hbd HFW HSW hsh
        obtain ⟨y, js, hyj⟩ : ∃ y js, pb rows p = (y, js) := ⟨_, _, rfl⟩
        rw [hyj] at hza hbd HFW HSW
        simp only at hza hbd
        have hsy : IntKind.i64.wrap (s - y) = s - y := IntWalk.i64_in _ (by omega)
        have HZ := Lib.hid hza
        clear hp hyj hza hpm HF HS HBD
        go_wp2_with fail
        refine HFW.out.mono ?_
        rintro e w5 ⟨v5, rfl, hp5, b5⟩
        have HS5 := Lib.hid (HSW.out v5 w5 hp5)
        have HB5 := Lib.hid (HB.out.trans (b5.mono HB.out.size))
        have HO5 := Lib.hid (HO.out.below b5)
        clear b5 hp5 HSW HFW
        go_wp2_with fail
        refine HS5.out.mono ?_
        rintro e w6 ⟨rfl, n6, rfl⟩
        have HO6 := Lib.hid (HO5.out.drewN n6)
        have hcg : ∃ z, (w5.drewN n6).cell? ⟨w3.heap.size, k, none⟩ = some (.int .i64 z) := by
          have hy : (filled zs k)[k]? = some ((filled zs k)[k]'(by rw [filled_len zs k (by rw [HZL.out]; exact hk), HZL.out]; exact hlt)) := List.getElem?_eq_getElem _
          exact ⟨_, HO6.out.cell hy⟩
        obtain ⟨z, hcg⟩ := hcg
        have hfr := HO6.out.free k
        have HO' : Hid (Own ((w5.drewN n6).setCell ⟨w3.heap.size, k, none⟩ (.int .i64 (s - y))) w.heap.size (some ⟨w3.heap.size, 0, none⟩) m (filled zs (k + 1))) := Lib.hid (by have := HO6.out.set_ k (s - y); rwa [filled_set zs k _ HZ.out] at this)
        have HB' := Lib.hid ((below_drewN' HB5.out n6).setCell (p := ⟨w3.heap.size, k, none⟩) HO.out.ge (.int .i64 (s - y)))
        go_wp2
        go_roundw
        case rel => exact ⟨k + 1, hlt, by go_num, HO', HB'⟩
        case measure => simp [intOf]; omega
      · obtain rfl : k = m := by omega
        go_wp2
        go_ret
        rw [E1.out]
        have ho := HO.out
        rw [← HZL.out, filled_all] at ho
        exact ⟨some ⟨w3.heap.size, 0, none⟩, zs.length, by rw [HZL.out]; rfl, ho, HB.out⟩
  · rw [vr_false hv] at HV
    have E1 := Lib.hid (mp_no hv)
    go_enter Try.func49, Try.ntmps49
    go_wp2_with fail
    refine HV.out.mono ?_
    rintro e w1 ⟨rfl, b1⟩
    go_wp2
    go_ret
    rw [E1.out]
    exact ⟨none, 0, rfl, own_none _ _, b1⟩

theorem mpL_len (rows : List (List Int)) : (mpL rows).length ≤ 1000 := by
  by_cases h : VR rows
  · rw [mp_yes h]; simp; have := h.rk.2.2.2; omega
  · rw [mp_no h]; simp
theorem MostPairPrices_both (rows : List (List Int)) : ∃ zs : List Int, zs.length ≤ 1000 ∧ (rows.length ≤ 1099511627776 → (∀ r ∈ rows, r.length ≤ 1099511627776) →
    (∀ A c w, RdR w A c rows → Calls Try.prog 53 #[.slice A rows.length c] w (NewL w zs)) ∧
    (∀ A c w, RdR w A c rows → Calls Try.prog 49 #[.slice A rows.length c] w (NewL w zs))) :=
  ⟨mpL rows, mpL_len rows, fun hl hl2 => ⟨fun A c w h => SMostPairPrices_any A c rows w h hl hl2, fun A c w h => MostPairPrices_any A c rows w h hl hl2⟩⟩
end Go.Proofs.Ytpildecpabeanaa

/-
  Chapter 8: prices of a market, of the program and of the model.
-/
namespace Go.Proofs.Ytpildecpabeanaa
open Go.RowKit

/-- Prices of up to four things. -/
def gB (xs : List Int) : Bool := inR xs.length 1 4 && xs.all (fun x => inR x 0 40)
theorem gB_bad {xs : List Int} (h : xs.all (fun x => inR x 0 40) = false) : gB xs = false := by simp only [gB, h, Bool.and_false]
theorem gB_all {xs : List Int} (h : (xs.take xs.length).all (fun x => inR x 0 40) = true) : gB xs = inR xs.length 1 4 := by
  rw [List.take_length] at h; simp only [gB, h, Bool.and_true]
theorem gB_len {xs : List Int} (h : inR xs.length 1 4 = false) : gB xs = false := by simp only [gB, h, Bool.false_and]

theorem isPriceG_any (n : Int) (w : World) :
    Calls Try.prog 107 #[.int .i64 n] w fun e w' => e = .returned (.bool (inR n 0 40)) ∧ w = w' := by
  by_cases h1 : 0 ≤ n
  · by_cases h2 : n ≤ 40
    · have HE := Lib.hid (inR_true.2 ⟨h1, h2⟩)
      go_enter Try.func107, Try.ntmps107
      go_wp2
      go_ret
      exact ⟨by rw [HE.out]; rfl, rfl⟩
    · have HE := Lib.hid (inR_false.2 (fun h : 0 ≤ n ∧ n ≤ 40 => h2 h.2))
      go_enter Try.func107, Try.ntmps107
      go_wp2
      go_ret
      exact ⟨by rw [HE.out]; rfl, rfl⟩
  · have HE := Lib.hid (inR_false.2 (fun h : 0 ≤ n ∧ n ≤ 40 => h1 h.1))
    go_enter Try.func107, Try.ntmps107
    go_wp2
    go_ret
    exact ⟨by rw [HE.out]; rfl, rfl⟩

set_option maxHeartbeats 400000 in
/-- areAll at prices. -/
theorem areGoods_any (A : Option Addr) (c : Nat) (xs : List Int) (w : World) (h : Rd w A c xs) (hl : xs.length ≤ 1099511627776) :
    Calls Try.prog 78 #[.slice A xs.length c, .int .i64 4, .func (.func 107) #[] #[]] w fun e w' => e = .returned (.bool (gB xs)) ∧ w = w' := by
  by_cases h1 : 1 ≤ xs.length
  · by_cases h2 : xs.length ≤ 4
    · have HR := Lib.hid (inR_true (n := (xs.length : Int)) (lo := 1) (hi := 4) |>.2 ⟨by omega, by omega⟩)
      go_enter Try.func78, Try.ntmps78
      go_wp2
      go_loop [20] (fun i => ∃ k : Nat, k ≤ xs.length ∧ i = .int .i64 k ∧ Hid ((xs.take k).all (fun x => inR x 0 40) = true)) (fun i => xs.length - (intOf i).toNat)
      case atStart => exact ⟨0, Nat.zero_le _, rfl, Lib.hid rfl⟩
      case round =>
        obtain ⟨k, hk, rfl, HT⟩ := hrel
        by_cases hlt : k < xs.length
        · obtain ⟨b, off, x, rfl, _, hx, hc⟩ := h.at_ hlt
          go_wp2_with fail
          refine (isPriceG_any _ _).mono ?_
          rintro e w' ⟨rfl, rfl⟩
          cases hb : inR x 0 40 with
          | true =>
            have HT' := Lib.hid (all_step hx.out hb HT.out)
            clear hb
            go_wp2
            go_round
            case rel => exact ⟨k + 1, by omega, by go_num, HT'⟩
            case measure => simp [intOf]; omega
          | false =>
            have HE := Lib.hid (gB_bad (all_at (p := fun x => inR x 0 40) hx.out hb))
            clear hb
            go_wp2
            go_ret
            exact ⟨by rw [HE.out]; rfl, rfl⟩
        · obtain rfl : k = xs.length := by omega
          have HE := Lib.hid (gB_all HT.out)
          go_wp2
          go_ret
          exact ⟨by rw [HE.out, HR.out]; rfl, rfl⟩
    · have HE := Lib.hid (gB_len (inR_false (n := (xs.length : Int)) (lo := 1) (hi := 4) |>.2 (by omega)))
      go_enter Try.func78, Try.ntmps78
      go_wp2
      go_ret
      exact ⟨by rw [HE.out]; rfl, rfl⟩
  · have HE := Lib.hid (gB_len (inR_false (n := (xs.length : Int)) (lo := 1) (hi := 4) |>.2 (by omega)))
    go_enter Try.func78, Try.ntmps78
    go_wp2
    go_ret
    exact ⟨by rw [HE.out]; rfl, rfl⟩

end Go.Proofs.Ytpildecpabeanaa
