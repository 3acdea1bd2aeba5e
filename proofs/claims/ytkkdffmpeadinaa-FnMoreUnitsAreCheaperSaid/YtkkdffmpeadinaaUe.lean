/-
  Chapter 3: the contracts of nextToHave and AwardUnits, of the program, and of award and AwardUnits, of the model.
-/
import Derived.Test.YtkkdffmpeadinaaUd
namespace Go.Proofs.Ytkkdffmpeadinaa
open Go.RowKit

/-- How many each of n has, as ints. -/
def lst (h : Nat → Nat) (n : Nat) : List Int := (List.range n).map (fun i => (h i : Int))
theorem lst_len (h : Nat → Nat) (n : Nat) : (lst h n).length = n := by simp [lst]
theorem lst_at {h : Nat → Nat} {n i : Nat} (hi : i < n) : (lst h n)[i]? = some (h i : Int) := by simp [lst, hi]
theorem lst_zero (n : Nat) : lst (fun _ => 0) n = List.replicate n 0 := by
  apply List.ext_getElem?; intro i
  rcases Nat.lt_or_ge i n with h | h
  · rw [lst_at h]; simp [h]
  · rw [List.getElem?_eq_none (by simpa [lst_len] using h), List.getElem?_eq_none (by simpa using h)]
theorem lst_set {h : Nat → Nat} {n a : Nat} (ha : a < n) : (lst h n).set a ((h a : Int) + 1) = lst (fun i => if i = a then h i + 1 else h i) n := by
  apply List.ext_getElem?; intro i
  rcases Nat.lt_or_ge i n with hi | hi
  · rw [lst_at hi]
    by_cases hia : i = a
    · subst hia
      rw [List.getElem?_set_self (by rw [lst_len]; exact hi)]
      simp
    · rw [List.getElem?_set_ne (fun e => hia e.symm), lst_at hi, if_neg hia]
  · rw [List.getElem?_eq_none (by rw [List.length_set, lst_len]; exact hi), List.getElem?_eq_none (by simpa [lst_len] using hi)]

/-- A number of a list of counts. -/
theorem Rd.has {w : World} {B : Option Addr} {d n : Nat} {h : Nat → Nat} (hB : Rd w B d (lst h n)) {i : Nat} (hi : i < n) : ∃ b off, B = some ⟨b, off, none⟩ ∧ w.cell? ⟨b, off + i, none⟩ = some (.int .i64 (h i : Int)) := by
  obtain ⟨b, off, hb, hc⟩ := hB.open_ (by rw [lst_len]; omega)
  exact ⟨b, off, hb, hc i _ (lst_at hi)⟩

theorem nx_over {R : Nat → List Int} {h : Nat → Nat} {k : Nat} (hk : ¬ h k < (R k).length) : nx R h (k + 1) = nx R h k := by rw [nx, if_neg (fun x => hk x.1)]
theorem nx_first {R : Nat → List Int} {h : Nat → Nat} {k : Nat} (hk : h k < (R k).length) (e : nx R h k = -1) : nx R h (k + 1) = k := by rw [nx, if_pos ⟨hk, .inl (by omega)⟩]
theorem nx_more {R : Nat → List Int} {h : Nat → Nat} {k a : Nat} {x y : Int} (hx : (R k)[h k]? = some x) (e : nx R h k = (a : Int)) (hy : (R a)[h a]? = some y) (hxy : y < x) : nx R h (k + 1) = k := by
  rw [nx, if_pos ⟨(List.getElem?_eq_some_iff.1 hx).1, .inr (by rw [e, Int.toNat_natCast, nxv_of hy, nxv_of hx]; exact hxy)⟩]
theorem nx_less {R : Nat → List Int} {h : Nat → Nat} {k a : Nat} {x y : Int} (hx : (R k)[h k]? = some x) (e : nx R h k = (a : Int)) (hy : (R a)[h a]? = some y) (hxy : ¬ y < x) : nx R h (k + 1) = nx R h k := by
  rw [nx, if_neg (fun c => ?_)]
  rcases c.2 with c | c
  · omega
  · rw [e, Int.toNat_natCast, nxv_of hy, nxv_of hx] at c; exact hxy c

set_option maxHeartbeats 1000000 in
theorem next_any' (A B : Option Addr) (c d : Nat) (rows : List (List Int)) (h : Nat → Nat) (w : World) (hR : RdR w A c rows) (hB : Rd w B d (lst h rows.length)) (hl : rows.length ≤ 4) :
    Calls Try.prog 52 #[.slice A rows.length c, .slice B rows.length d] w fun e w' => e = .returned (.int .i64 (nx (RW rows) h rows.length)) ∧ ∃ n, w' = w.drewN n := by
  go_enter Try.func52, Try.ntmps52
  go_wp2
  go_loopw [5, 10] (fun t i wr => ∃ k n : Nat, k ≤ rows.length ∧ i = .int .i64 k ∧ wr = w.drewN n ∧ ∃ z, t = .int .i64 z ∧ Hid (z = nx (RW rows) h k)) (fun _ i _ => rows.length - (intOf i).toNat)
  case atStart => exact ⟨0, 0, Nat.zero_le _, rfl, rfl, -1, rfl, Lib.hid rfl⟩
  case round =>
    obtain ⟨k, n, hk, rfl, rfl, z, rfl, HZ⟩ := hrel
    by_cases hlt : k < rows.length
    · obtain ⟨b, off, r, A', c', rfl, hr, hc, hcap, hrd⟩ := hR.at_ hlt
      obtain ⟨b2, o2, rfl, hch⟩ := hB.has hlt
      have HRW := Lib.hid (rw_of hr.out)
      by_cases hx : h k < r.length
      · obtain ⟨b3, o3, x, rfl, _, hxx, hcx⟩ := hrd.out.at_ hx
        have HXK : Hid ((RW rows k)[h k]? = some x) := Lib.hid (by rw [HRW.out]; exact hxx.out)
        have hx' : (h k : Int) < (r.length : Int) := by omega
        rcases nx_is (RW rows) h k with ⟨e, _⟩ | ⟨a, ha, e, hca, _⟩
        · have HT := Lib.hid (nx_first (by rw [HRW.out]; exact hx) e)
          obtain rfl : z = -1 := HZ.out.trans e
          clear e HZ
          go_wp2_with fail
          go_quiet (fail)
          go_wp2
          go_roundw
          case rel => exact ⟨k + 1, _, by omega, by go_num, rfl, _, rfl, Lib.hid HT.out.symm⟩
          case measure => simp [intOf]; omega
        · have hal : a < rows.length := by omega
          obtain ⟨b4, o4, r2, A2, c2, hA, hr2, hc2, _, hrd2⟩ := hR.at_ hal
          cases hA
          obtain ⟨b5, o5, hA, hch2⟩ := hB.has hal
          cases hA
          have HRW2 := Lib.hid (rw_of hr2.out)
          rw [HRW2.out] at hca
          obtain ⟨b6, o6, y, rfl, _, hyy, hcy⟩ := hrd2.out.at_ hca
          have HYK : Hid ((RW rows a)[h a]? = some y) := Lib.hid (by rw [HRW2.out]; exact hyy.out)
          obtain rfl : z = (a : Int) := HZ.out.trans e
          have hca' : (h a : Int) < (r2.length : Int) := by omega
          have hz0 : ¬ ((a : Int) < 0) := by omega
          by_cases hxy : y < x
          · have HT := Lib.hid (nx_more HXK.out e HYK.out hxy)
            clear e HZ
            go_wp2_with fail
            go_quiet (fail)
            go_wp2
            go_roundw
            case rel => exact ⟨k + 1, _, by omega, by go_num, rfl, _, rfl, Lib.hid HT.out.symm⟩
            case measure => simp [intOf]; omega
          · have HT := Lib.hid (nx_less HXK.out e HYK.out hxy)
            have HT' : Hid ((a : Int) = nx (RW rows) h (k + 1)) := Lib.hid (by rw [HT.out]; exact e.symm)
            clear e HZ
            go_wp2_with fail
            go_quiet (fail)
            go_wp2
            go_roundw
            case rel => exact ⟨k + 1, _, by omega, by go_num, rfl, _, rfl, HT'⟩
            case measure => simp [intOf]; omega
      · have HT : Hid (z = nx (RW rows) h (k + 1)) := Lib.hid (by rw [nx_over (by rw [HRW.out]; exact hx)]; exact HZ.out)
        have hx' : ¬ (h k : Int) < (r.length : Int) := by omega
        clear HZ
        go_wp2_with fail
        go_quiet (fail)
        go_wp2
        go_roundw
        case rel => exact ⟨k + 1, _, by omega, by go_num, rfl, _, rfl, HT⟩
        case measure => simp [intOf]; omega
    · obtain rfl : k = rows.length := by omega
      go_wp2
      go_ret
      exact ⟨by rw [← HZ.out]; rfl, _, rfl⟩

/-- What a call hands back: how many each has, in a block of its own; what was there is as it was. -/
def HasIs (w : World) (h : Nat → Nat) (n : Nat) (e : Ending) (w' : World) : Prop :=
  ∃ g c, e = .returned (.slice (some ⟨g, 0, none⟩) n c) ∧ Own w' w.heap.size (some ⟨g, 0, none⟩) c (lst h n) ∧ Below w.heap.size w w'

theorem fuB_yes {rows : List (List Int)} {k : Nat} (h : VD rows) (hk : k ≤ 5) : fuB rows k = true := by
  unfold fuB; rw [vdB_true h, inR_true.2 (by omega)]; rfl
theorem VD.lens {rows : List (List Int)} (h : VD rows) : ∀ r ∈ rows, r.length ≤ 1099511627776 := fun r hr => by have := (h.2 r hr).1; omega

set_option maxHeartbeats 1000000 in
theorem AwardUnits_yes (A : Option Addr) (c : Nat) (rows : List (List Int)) (k : Nat) (w : World) (hR : RdR w A c rows) (hv : VD rows) (hk : k ≤ 5) :
    Calls Try.prog 19 #[.slice A rows.length c, .int .i64 k] w (HasIs w (aw (RW rows) rows.length k) rows.length) := by
  have HC := Lib.hid (areForUnits_any A c rows k w hR (by have := hv.1; omega) hv.lens)
  rw [fuB_yes hv hk] at HC
  have hl : rows.length ≤ 4 := hv.1.2
  have hl1 : 1 ≤ rows.length := hv.1.1
  have HG := Lib.hid hv.good
  have HL0 := Lib.hid (lst_zero rows.length)
  clear hv
  go_enter Try.func19, Try.ntmps19
  go_wp2_with (first
    | (go_at_call 51; refine HC.out.mono ?_; rintro e w1 ⟨rfl, m, rfl⟩)
    | (at_make; refine wpList_make_ints rfl _ _ rfl w.heap.size rows.length rfl rfl (by omega) (by simp) ?_; intro w2 ho hb))
  have HO : Hid (Own w2 w.heap.size (some ⟨w.heap.size, 0, none⟩) rows.length (lst (aw (RW rows) rows.length 0) rows.length)) := Lib.hid (by show Own _ _ _ _ (lst (fun _ => 0) _); rw [HL0.out]; exact ho)
  clear ho HL0
  go_loopw [15] (fun i wr => ∃ j : Nat, j ≤ k ∧ i = .int .i64 j ∧ Hid (Own wr w.heap.size (some ⟨w.heap.size, 0, none⟩) rows.length (lst (aw (RW rows) rows.length j) rows.length)) ∧ Below w.heap.size w wr) (fun i _ => k - (intOf i).toNat)
  case atStart => exact ⟨0, Nat.zero_le _, rfl, HO, (below_drewN' (Below.refl _ w) m).trans hb⟩
  case round =>
    obtain ⟨j, hj, rfl, HO, hb⟩ := hrel
    by_cases hlt : j < k
    · have HN := Lib.hid (next_any' A (some ⟨w.heap.size, 0, none⟩) c rows.length rows (aw (RW rows) rows.length j) wr (hR.below hb) HO.out.rd hl)
      rcases nx_is (RW rows) (aw (RW rows) rows.length j) rows.length with ⟨e, _⟩ | ⟨a, ha, e, hca, _⟩
      · rw [e] at HN
        have HE : Hid (aw (RW rows) rows.length k = aw (RW rows) rows.length j) := Lib.hid (by
          have := aw_still e (k - j)
          rwa [show j + (k - j) = k by omega] at this)
        clear e
        go_wp2_with (go_at_call 52; refine HN.out.mono ?_; rintro e w1 ⟨rfl, m, rfl⟩)
        go_ret
        exact ⟨_, _, rfl, by rw [HE.out]; exact HO.out.drewN m, below_drewN' hb m⟩
      · rw [e] at HN
        have HS : Hid (lst (aw (RW rows) rows.length (j + 1)) rows.length = (lst (aw (RW rows) rows.length j) rows.length).set a ((aw (RW rows) rows.length j a : Int) + 1)) := Lib.hid (by
          rw [lst_set ha]; show lst (stp _ _ _) _ = _; rw [stp_some e])
        have hac : aw (RW rows) rows.length j a ≤ 5 := by have := (HG.out a ha).1; omega
        obtain ⟨t, ht⟩ : ∃ t, t = aw (RW rows) rows.length j a := ⟨_, rfl⟩
        have hcell := HO.out.cell (lst_at ha)
        have hfr := HO.out.free a
        have hst := HO.out.set_ a ((t : Int) + 1)
        rw [← ht] at HS hac hcell
        rw [← HS.out] at hst
        have HST := Lib.hid hst
        clear e hst hca ht
        go_wp2_with (go_at_call 52; refine HN.out.mono ?_; rintro e w1 ⟨rfl, m, rfl⟩)
        go_roundw
        case rel => exact ⟨j + 1, by omega, by go_num, HST, (below_drewN' hb m).setCell (Nat.le_refl _) _⟩
        case measure => simp [intOf]; omega
    · obtain rfl : j = k := by omega
      go_wp2
      go_ret
      exact ⟨_, _, rfl, HO.out, hb⟩

set_option maxHeartbeats 2000000 in
theorem award_yes (A : Option Addr) (c : Nat) (rows : List (List Int)) (k : Nat) (w : World) (hR : RdR w A c rows) (hv : VD rows) (hk : k ≤ 5) :
    Calls Try.prog 54 #[.slice A rows.length c, .int .i64 k] w (HasIs w (aw (RW rows) rows.length k) rows.length) := by
  have hl : rows.length ≤ 4 := hv.1.2
  have hl1 : 1 ≤ rows.length := hv.1.1
  have HG := Lib.hid hv.good
  have HL0 := Lib.hid (lst_zero rows.length)
  clear hv
  go_enter Try.func54, Try.ntmps54
  go_wp2_with (at_make; refine wpList_make_ints rfl _ _ rfl w.heap.size rows.length rfl rfl (by omega) (by simp) ?_; intro w2 ho hb)
  have HO : Hid (Own w2 w.heap.size (some ⟨w.heap.size, 0, none⟩) rows.length (lst (aw (RW rows) rows.length 0) rows.length)) := Lib.hid (by show Own _ _ _ _ (lst (fun _ => 0) _); rw [HL0.out]; exact ho)
  clear ho HL0
  have hb : Below w.heap.size w w2 := hb
  go_loopw [6] (fun i wr => ∃ j : Nat, j ≤ k ∧ i = .int .i64 j ∧ Hid (Own wr w.heap.size (some ⟨w.heap.size, 0, none⟩) rows.length (lst (aw (RW rows) rows.length j) rows.length)) ∧ Below w.heap.size w wr) (fun i _ => k - (intOf i).toNat)
  case atStart => exact ⟨0, Nat.zero_le _, rfl, HO, hb⟩
  case round =>
    obtain ⟨j, hj, rfl, HO, hb⟩ := hrel
    by_cases hlt : j < k
    · obtain ⟨h, hh⟩ : ∃ h, h = aw (RW rows) rows.length j := ⟨_, rfl⟩
      have HH := Lib.hid hh
      have HO' := HO
      rw [← hh] at HO'
      clear hh
      go_wp2
      go_loopw [7, 8] (fun t i wr' => ∃ q n : Nat, q ≤ rows.length ∧ i = .int .i64 q ∧ wr' = wr.drewN n ∧ ∃ z, t = .int .i64 z ∧ Hid (z = nx (RW rows) h q)) (fun _ i _ => rows.length - (intOf i).toNat)
      case atStart => exact ⟨0, 0, Nat.zero_le _, rfl, rfl, -1, rfl, Lib.hid rfl⟩
      case round =>
        obtain ⟨q, n, hq, rfl, rfl, z, rfl, HZ⟩ := hrel
        have hRb := hR.below hb
        by_cases hql : q < rows.length
        · obtain ⟨b, off, r, A', c', rfl, hr, hc, hcap, hrd⟩ := hRb.at_ hql
          have hch := HO'.out.cell (lst_at hql)
          have HRW := Lib.hid (rw_of hr.out)
          by_cases hx : h q < r.length
          · obtain ⟨b3, o3, x, rfl, _, hxx, hcx⟩ := hrd.out.at_ hx
            have HXK : Hid ((RW rows q)[h q]? = some x) := Lib.hid (by rw [HRW.out]; exact hxx.out)
            have hx' : (h q : Int) < (r.length : Int) := by omega
            rcases nx_is (RW rows) h q with ⟨e, _⟩ | ⟨a, ha, e, hca, _⟩
            · have HT := Lib.hid (nx_first (by rw [HRW.out]; exact hx) e)
              obtain rfl : z = -1 := HZ.out.trans e
              clear e HZ
              go_wp2_with fail
              go_quiet (fail)
              go_wp2
              go_roundw
              case rel => exact ⟨q + 1, _, by omega, by go_num, rfl, _, rfl, Lib.hid HT.out.symm⟩
              case measure => simp [intOf]; omega
            · have hal : a < rows.length := by omega
              obtain ⟨b4, o4, r2, A2, c2, hA, hr2, hc2, _, hrd2⟩ := hRb.at_ hal
              cases hA
              have hch2 := HO'.out.cell (lst_at hal)
              have HRW2 := Lib.hid (rw_of hr2.out)
              rw [HRW2.out] at hca
              obtain ⟨b6, o6, y, rfl, _, hyy, hcy⟩ := hrd2.out.at_ hca
              have HYK : Hid ((RW rows a)[h a]? = some y) := Lib.hid (by rw [HRW2.out]; exact hyy.out)
              obtain rfl : z = (a : Int) := HZ.out.trans e
              have hca' : (h a : Int) < (r2.length : Int) := by omega
              have hz0 : ¬ ((a : Int) < 0) := by omega
              by_cases hxy : y < x
              · have HT := Lib.hid (nx_more HXK.out e HYK.out hxy)
                clear e HZ
                go_wp2_with fail
                go_quiet (fail)
                go_wp2
                go_roundw
                case rel => exact ⟨q + 1, _, by omega, by go_num, rfl, _, rfl, Lib.hid HT.out.symm⟩
                case measure => simp [intOf]; omega
              · have HT := Lib.hid (nx_less HXK.out e HYK.out hxy)
                have HT' : Hid ((a : Int) = nx (RW rows) h (q + 1)) := Lib.hid (by rw [HT.out]; exact e.symm)
                clear e HZ
                go_wp2_with fail
                go_quiet (fail)
                go_wp2
                go_roundw
                case rel => exact ⟨q + 1, _, by omega, by go_num, rfl, _, rfl, HT'⟩
                case measure => simp [intOf]; omega
          · have HT : Hid (z = nx (RW rows) h (q + 1)) := Lib.hid (by rw [nx_over (by rw [HRW.out]; exact hx)]; exact HZ.out)
            have hx' : ¬ (h q : Int) < (r.length : Int) := by omega
            clear HZ
            go_wp2_with fail
            go_quiet (fail)
            go_wp2
            go_roundw
            case rel => exact ⟨q + 1, _, by omega, by go_num, rfl, _, rfl, HT⟩
            case measure => simp [intOf]; omega
        · obtain rfl : q = rows.length := by omega
          rcases nx_is (RW rows) h rows.length with ⟨e, _⟩ | ⟨a, ha, e, hca, _⟩
          · obtain rfl : z = -1 := HZ.out.trans e
            have HE : Hid (aw (RW rows) rows.length k = h) := Lib.hid (by
              rw [HH.out] at e
              have := aw_still e (k - j)
              rw [show j + (k - j) = k by omega] at this
              rw [this, HH.out])
            clear e HZ
            go_wp2
            go_ret
            exact ⟨_, _, rfl, by rw [HE.out]; exact HO'.out.drewN n, below_drewN' hb n⟩
          · obtain rfl : z = (a : Int) := HZ.out.trans e
            have HS : Hid (lst (aw (RW rows) rows.length (j + 1)) rows.length = (lst h rows.length).set a ((h a : Int) + 1)) := Lib.hid (by
              rw [lst_set ha]; show lst (stp _ _ _) _ = _; rw [← HH.out, stp_some e])
            have hac : h a ≤ 5 := by have := (HG.out a ha).1; omega
            obtain ⟨t, ht⟩ : ∃ t, t = h a := ⟨_, rfl⟩
            have hcell := HO'.out.cell (lst_at ha)
            have hfr := HO'.out.free a
            have hst := HO'.out.set_ a ((t : Int) + 1)
            rw [← ht] at HS hac hcell
            rw [← HS.out] at hst
            have HST := Lib.hid hst
            have hz0 : ¬ ((a : Int) < 0) := by omega
            clear e hst hca ht HZ
            go_wp2
            go_roundw
            case rel => exact ⟨j + 1, by omega, by go_num, HST, (below_drewN' hb n).setCell (Nat.le_refl _) _⟩
            case measure => simp [intOf]; omega
    · obtain rfl : j = k := by omega
      go_wp2
      go_ret
      exact ⟨_, _, rfl, HO.out, hb⟩

/-- What a call hands back: ints in a block of its own, or nil; what was there is as it was. -/
def AnsIs (w : World) (zs : List Int) (e : Ending) (w' : World) : Prop := ∃ A c, e = .returned (.slice A zs.length c) ∧ Own w' w.heap.size A c zs ∧ Below w.heap.size w w'

theorem AwardUnits_no (A : Option Addr) (c : Nat) (rows : List (List Int)) (k : Int) (w : World) (hR : RdR w A c rows) (hl : rows.length ≤ 1099511627776) (hl2 : ∀ r ∈ rows, r.length ≤ 1099511627776) (hf : fuB rows k = false) :
    Calls Try.prog 19 #[.slice A rows.length c, .int .i64 k] w (AnsIs w []) := by
  have HC := Lib.hid (areForUnits_any A c rows k w hR hl hl2)
  rw [hf] at HC
  clear hf
  go_enter Try.func19, Try.ntmps19
  go_wp2_with (go_at_call 51; refine HC.out.mono ?_; rintro e w1 ⟨rfl, m, rfl⟩)
  go_ret
  exact ⟨none, 0, rfl, own_none _ _, below_drewN' (Below.refl _ _) _⟩

theorem SAwardUnits_no (A : Option Addr) (c : Nat) (rows : List (List Int)) (k : Int) (w : World) (hR : RdR w A c rows) (hl : rows.length ≤ 1099511627776) (hl2 : ∀ r ∈ rows, r.length ≤ 1099511627776) (hf : fuB rows k = false) :
    Calls Try.prog 21 #[.slice A rows.length c, .int .i64 k] w (AnsIs w []) := by
  have HC := Lib.hid (validUnits_any A c rows k w hR hl hl2)
  rw [hf] at HC
  clear hf
  go_enter Try.func21, Try.ntmps21
  go_wp2_with (go_at_call 53; refine HC.out.mono ?_; rintro e w1 ⟨rfl, m, rfl⟩)
  go_ret
  exact ⟨none, 0, rfl, own_none _ _, below_drewN' (Below.refl _ _) _⟩

theorem SAwardUnits_yes (A : Option Addr) (c : Nat) (rows : List (List Int)) (k : Nat) (w : World) (hR : RdR w A c rows) (hv : VD rows) (hk : k ≤ 5) :
    Calls Try.prog 21 #[.slice A rows.length c, .int .i64 k] w (HasIs w (aw (RW rows) rows.length k) rows.length) := by
  have HC := Lib.hid (validUnits_any A c rows k w hR (by have := hv.1; omega) hv.lens)
  rw [fuB_yes hv hk] at HC
  have HA := Lib.hid (fun n => award_yes A c rows k (w.drewN n) (hR.drewN n) hv hk)
  clear hv hk
  go_enter Try.func21, Try.ntmps21
  go_wp2_with (first
    | (go_at_call 53; refine HC.out.mono ?_; rintro e w1 ⟨rfl, m, rfl⟩)
    | (go_at_call 54; refine (HA.out _).mono ?_; rintro e w2 ⟨g, c2, rfl, o2, b2⟩))
  go_ret
  exact ⟨g, c2, rfl, o2, (below_drewN' (Below.refl _ w) m).trans b2⟩

end Go.Proofs.Ytkkdffmpeadinaa
