/-
  Chapter 3: the contracts of OnePrice, of the program and of the model.
-/
import Derived.Test.YtkkdffmpeadinaaUk
import Derived.Test.YtkkdffmpeadinaaSpecB
namespace Go.Proofs.Ytkkdffmpeadinaa
open Go.RowKit

/-- By size, the greatest one first: the k-th is the one with k ahead. -/
theorem big_nth {xs : List Int} {k : Nat} {y : Int} (hy : ((srtU xs).reverse)[k]? = some y) : nthG k xs = y := by
  have hk : k < xs.length := by have := (List.getElem?_eq_some_iff.1 hy).1; rwa [List.length_reverse, srtU_len] at this
  have h := nth_sorted k xs (srtU xs) (srtU_asc xs) (List.mergeSort_perm xs _) hk
  rw [List.getElem?_reverse (by rw [srtU_len]; exact hk), srtU_len] at hy
  rw [h, List.getD_eq_getElem?_getD, hy]; rfl

theorem allNums_eq {qs : List (Option Addr × Nat × List Int)} {rows : List (List Int)} (h : qs.map (·.2.2) = rows) : allNums qs = rows.flatten := by unfold allNums; rw [h]
theorem mem_rows {qs : List (Option Addr × Nat × List Int)} {rows : List (List Int)} (h : qs.map (·.2.2) = rows) : ∀ q ∈ qs, q.2.2 ∈ rows := fun q hq => by rw [← h]; exact List.mem_map.2 ⟨q, hq, rfl⟩
theorem flat_len {rows : List (List Int)} {M : Nat} (h : ∀ r ∈ rows, r.length ≤ M) : rows.flatten.length ≤ rows.length * M := by
  induction rows with
  | nil => simp
  | cons r rs ih =>
    have h1 := h r (by simp)
    have h2 := ih (fun q hq => h q (by simp [hq]))
    simp only [List.flatten_cons, List.length_append, List.length_cons, Nat.add_mul]
    omega
theorem VD.flat {rows : List (List Int)} (h : VD rows) : rows.flatten.length ≤ 20 := by
  have h1 := flat_len (M := 5) (fun r hr => (h.2 r hr).1)
  have h2 := h.1.2
  omega

set_option maxHeartbeats 1000000 in
theorem OnePrice_yes (A : Option Addr) (c : Nat) (rows : List (List Int)) (k : Nat) (w : World) (hR : RdR w A c rows) (hv : VD rows) (hk : k ≤ 5) :
    Calls Try.prog 26 #[.slice A rows.length c, .int .i64 k] w fun e w' => e = .returned (.int .i64 (nthG k rows.flatten)) ∧ Below w.heap.size w w' := by
  have HC := Lib.hid (areForUnits_any A c rows k w hR (by have := hv.1; omega) hv.lens)
  rw [fuB_yes hv hk] at HC
  have hl : rows.length ≤ 4 := hv.1.2
  have HK := Lib.hid (fun n => crowdOf_any A c rows.length rows w (w.drewN n) rfl hR (below_drewN' (Below.refl _ w) n) (by omega))
  have HG := Lib.hid hv
  clear hv
  go_enter Try.func26, Try.ntmps26
  go_wp2_with fail
  refine HC.out.mono ?_
  rintro e w1 ⟨rfl, m, rfl⟩
  go_wp2_with fail
  refine (HK.out m).mono ?_
  rintro e w2 ⟨v, qs, rfl, o2, d2, e2, b2⟩
  have B2 : Below w.heap.size w w2 := (below_drewN' (Below.refl _ w) m).trans b2
  have hql : qs.length = rows.length := by have := congrArg List.length e2; simpa using this
  obtain ⟨A2, c2, rfl, hC⟩ := CrowdIn.rdc (w := w2) ⟨o2, fun q hq => ⟨(d2 q hq).1, (d2 q hq).2.below B2⟩⟩
  have hmr := mem_rows e2
  have HS := bySizeCrowd_any A2 c2 qs w2 hC (by omega) (fun q hq => by have := (HG.out.2 _ (hmr q hq)).1; omega) (by rw [allNums_eq e2]; have := HG.out.flat; omega)
  rw [allNums_eq e2, hql] at HS
  have HS := Lib.hid HS
  rw [hql]
  clear o2 d2 hC e2 hql hmr
  go_wp2_with fail
  refine HS.out.mono ?_
  rintro e w3 ⟨A3, c3, rfl, o3, b3⟩
  have B3 := B2.trans (b3.mono B2.size)
  obtain ⟨L, hL⟩ : ∃ L, L = rows.flatten.length := ⟨_, rfl⟩
  have hLL : ((srtU rows.flatten).reverse).length = L := by rw [List.length_reverse, srtU_len, hL]
  have HL := Lib.hid hLL
  have hL20 : L ≤ 20 := by rw [hL]; exact HG.out.flat
  rw [hLL]
  by_cases hkl : k < L
  · obtain ⟨y, hy⟩ := at_some (xs := (srtU rows.flatten).reverse) (k := k) (by omega)
    obtain ⟨b4, off4, rfl, hcell⟩ := o3.rd.open_ (by omega)
    have hc := hcell k y hy
    have HE := Lib.hid (big_nth hy)
    have hkl2 : ¬ ((L : Int) ≤ (k : Int)) := by omega
    clear hcell o3 hy hLL hL
    go_wp2
    go_ret
    exact ⟨by rw [HE.out]; rfl, B3⟩
  · have HE := Lib.hid (nthG_behind k rows.flatten (by omega))
    have hkl2 : (L : Int) ≤ (k : Int) := by omega
    clear o3 hLL hL
    go_wp2
    go_ret
    exact ⟨by rw [HE.out]; rfl, B3⟩

theorem OnePrice_no (A : Option Addr) (c : Nat) (rows : List (List Int)) (k : Int) (w : World) (hR : RdR w A c rows) (hl : rows.length ≤ 1099511627776) (hl2 : ∀ r ∈ rows, r.length ≤ 1099511627776) (hf : fuB rows k = false) :
    Calls Try.prog 26 #[.slice A rows.length c, .int .i64 k] w fun e w' => e = .returned (.int .i64 (-1)) ∧ Below w.heap.size w w' := by
  have HC := Lib.hid (areForUnits_any A c rows k w hR hl hl2)
  rw [hf] at HC
  clear hf
  go_enter Try.func26, Try.ntmps26
  go_wp2_with (go_at_call 51; refine HC.out.mono ?_; rintro e w1 ⟨rfl, m, rfl⟩)
  go_ret
  exact ⟨rfl, below_drewN' (Below.refl _ _) _⟩

/-- All numbers of the first j rows but those of one. -/
def allTo (rows : List (List Int)) (but : Int) : Nat → List Int
  | 0 => []
  | j + 1 => if (j : Int) = but then allTo rows but j else allTo rows but j ++ RW rows j
theorem allTo_len {rows : List (List Int)} {but : Int} {M : Nat} : ∀ j, (∀ i, i < j → (RW rows i).length ≤ M) → (allTo rows but j).length ≤ j * M
  | 0, _ => by simp [allTo]
  | j + 1, h => by
    have h1 := allTo_len (rows := rows) (but := but) j (fun i hi => h i (by omega))
    have h2 := h j (by omega)
    rw [allTo, Nat.add_mul]
    split
    · omega
    · rw [List.length_append]; omega
theorem allTo_take {rows : List (List Int)} : ∀ j, j ≤ rows.length → ∀ but : Int, (but < 0 ∨ (j : Int) ≤ but) → allTo rows but j = (rows.take j).flatten
  | 0, _, _, _ => by simp [allTo]
  | j + 1, hj, but, hb => by
    have e : rows[j]? = some rows[j] := List.getElem?_eq_getElem (by omega)
    rw [allTo, if_neg (by omega), allTo_take j (by omega) but (by omega), List.take_add_one, e, rw_of e, List.flatten_append, Option.toList_some, List.flatten_cons, List.flatten_nil, List.append_nil]
theorem allTo_all {rows : List (List Int)} : allTo rows (-1) rows.length = rows.flatten := by
  rw [allTo_take _ (Nat.le_refl _) _ (by omega), List.take_length]
theorem allTo_but {rows : List (List Int)} {i : Nat} (hi : i < rows.length) : ∀ j, i < j → j ≤ rows.length → allTo rows i j = (rows.take i).flatten ++ ((rows.take j).drop (i + 1)).flatten
  | 0, h, _ => by omega
  | j + 1, h, hj => by
    have e : rows[j]? = some rows[j] := List.getElem?_eq_getElem (by omega)
    rcases Nat.lt_or_ge i j with hij | hij
    · rw [allTo, if_neg (by omega), allTo_but hi j hij (by omega), List.take_add_one, e, rw_of e, List.drop_append_of_le_length (by rw [List.length_take]; omega), List.flatten_append, Option.toList_some, List.flatten_cons, List.flatten_nil, List.append_nil, List.append_assoc]
    · obtain rfl : i = j := by omega
      rw [allTo, if_pos rfl, allTo_take i (by omega) _ (by omega)]
      have : (rows.take (i + 1)).drop (i + 1) = [] := List.drop_eq_nil_of_le (by rw [List.length_take]; omega)
      rw [this]; simp
theorem allTo_others {rows : List (List Int)} {i : Nat} (hi : i < rows.length) : allTo rows i rows.length = (butOf rows i).flatten := by
  rw [allTo_but hi _ hi (Nat.le_refl _), List.take_length]
  unfold butOf
  rw [List.flatten_append]

set_option maxHeartbeats 1000000 in
theorem allOf_any (A : Option Addr) (c : Nat) (rows : List (List Int)) (but : Int) (w : World) (hR : RdR w A c rows) (hv : VD rows) :
    Calls Try.prog 62 #[.slice A rows.length c, .int .i64 but] w (OutIs w (allTo rows but rows.length)) := by
  have HV := Lib.hid hv
  have hl : rows.length ≤ 4 := hv.1.2
  clear hv
  have hb0 := (Below.refl w.heap.size w).alloc (Nat.le_refl _) (.cells #[] 3)
  have ho := own_empty w
  go_enter Try.func62, Try.ntmps62
  go_wp2
  go_loopw [5, 6] (fun o i wr => ∃ (k n g2 : Nat) (c2 : Nat), k ≤ rows.length ∧ i = .int .i64 k ∧ o = .slice (some ⟨g2, 0, none⟩) n c2 ∧ Hid (n = (allTo rows but k).length) ∧ n ≤ k * 5 ∧ Hid (Own wr w.heap.size (some ⟨g2, 0, none⟩) c2 (allTo rows but k)) ∧ Below w.heap.size w wr) (fun _ i _ => rows.length - (intOf i).toNat)
  case atStart => exact ⟨0, 0, w.heap.size, 0, Nat.zero_le _, rfl, rfl, Lib.hid rfl, Nat.zero_le _, Lib.hid ho, hb0⟩
  case round =>
    obtain ⟨k, n, g2, c2, hk, rfl, rfl, HN, hn, HO, hb⟩ := hrel
    by_cases hlt : k < rows.length
    · obtain ⟨b, off, r, A', c', rfl, hr, hc0, hcap, hrd⟩ := hR.at_ hlt
      have hc := (hb.cell (p := ⟨b, off + k, none⟩) (World.block_lt_of_cell? w _ hc0)).trans hc0
      have hrl : r.length ≤ 5 := (HV.out.2 _ (List.mem_of_getElem? hr.out)).1
      have HRD := Lib.hid (hrd.out.below hb)
      clear hc0
      by_cases hkb : (k : Int) = but
      · have HS : Hid (allTo rows but (k + 1) = allTo rows but k) := Lib.hid (by rw [allTo, if_pos hkb])
        have hne : ((k : Int) != but) = false := by simp [hkb]
        have HN4 : Hid (n = (allTo rows but (k + 1)).length) := Lib.hid (by rw [HS.out]; exact HN.out)
        have HO4 : Hid (Own wr w.heap.size (some ⟨g2, 0, none⟩) c2 (allTo rows but (k + 1))) := Lib.hid (by rw [HS.out]; exact HO.out)
        clear hkb
        go_wp2
        go_roundw
        case rel => exact ⟨k + 1, n, g2, c2, by omega, by go_num, rfl, HN4, by omega, HO4, hb⟩
        case measure => simp [intOf]; omega
      · have HS : Hid (allTo rows but (k + 1) = allTo rows but k ++ r) := Lib.hid (by rw [allTo, if_neg hkb, rw_of hr.out])
        have hne : ((k : Int) != but) = true := by simpa using hkb
        clear hkb
        go_wp2_with (at_builtin; refine wpList_plain rfl fun K hK => wp_append_ints _ _ rfl w.heap.size g2 c2 (allTo rows but k) n HN.out.symm rfl HO.out A' c' r r.length rfl rfl HRD.out (by omega) hb.size ?_; intro g4 c4 w4 o4 g4'; refine hK _ _ ?_; clear hK K)
        have B4 := Own.grownBelow0 hb HO.out hb.size g4'
        have HO4 : Hid (Own w4 w.heap.size (some ⟨g4, 0, none⟩) c4 (allTo rows but (k + 1))) := Lib.hid (by rw [HS.out]; exact o4)
        have HN4 : Hid (n + r.length = (allTo rows but (k + 1)).length) := Lib.hid (by rw [HS.out, List.length_append, ← HN.out])
        clear o4 g4'
        go_wp2
        go_roundw
        case rel => exact ⟨k + 1, n + r.length, g4, c4, by omega, by go_num, rfl, HN4, by omega, HO4, B4⟩
        case measure => simp [intOf]; omega
    · obtain rfl : k = rows.length := by omega
      go_wp2
      go_ret
      exact ⟨g2, c2, by rw [← HN.out]; rfl, HO.out, hb⟩

theorem nth_n (A : Option Addr) (c n : Nat) (xs : List Int) (k : Nat) (w : World) (hn : xs.length = n) (h : Rd w A c xs) (hl : n ≤ 1048576) (hk : k ≤ 1048576) :
    Calls Try.prog 63 #[.slice A n c, .int .i64 k] w fun e w' => e = .returned (.int .i64 (nthG k xs)) ∧ Below w.heap.size w w' := by
  subst hn; exact nth_any A c xs k w h hl hk

theorem SOnePrice_no (A : Option Addr) (c : Nat) (rows : List (List Int)) (k : Int) (w : World) (hR : RdR w A c rows) (hl : rows.length ≤ 1099511627776) (hl2 : ∀ r ∈ rows, r.length ≤ 1099511627776) (hf : fuB rows k = false) :
    Calls Try.prog 37 #[.slice A rows.length c, .int .i64 k] w fun e w' => e = .returned (.int .i64 (-1)) ∧ Below w.heap.size w w' := by
  have HC := Lib.hid (validUnits_any A c rows k w hR hl hl2)
  rw [hf] at HC
  clear hf
  go_enter Try.func37, Try.ntmps37
  go_wp2_with (go_at_call 53; refine HC.out.mono ?_; rintro e w1 ⟨rfl, m, rfl⟩)
  go_ret
  exact ⟨rfl, below_drewN' (Below.refl _ _) _⟩

theorem SOnePrice_yes (A : Option Addr) (c : Nat) (rows : List (List Int)) (k : Nat) (w : World) (hR : RdR w A c rows) (hv : VD rows) (hk : k ≤ 5) :
    Calls Try.prog 37 #[.slice A rows.length c, .int .i64 k] w fun e w' => e = .returned (.int .i64 (nthG k rows.flatten)) ∧ Below w.heap.size w w' := by
  have HC := Lib.hid (validUnits_any A c rows k w hR (by have := hv.1; omega) hv.lens)
  rw [fuB_yes hv hk] at HC
  have HA := Lib.hid (fun n => allOf_any A c rows (-1) (w.drewN n) (hR.drewN n) hv)
  rw [allTo_all] at HA
  have hvf := hv.flat
  obtain ⟨F, hF⟩ : ∃ F, F = rows.flatten := ⟨_, rfl⟩
  rw [← hF] at HA hvf ⊢
  have HV := Lib.hid hvf
  clear hv hvf hF
  go_enter Try.func37, Try.ntmps37
  go_wp2_with fail
  refine HC.out.mono ?_
  rintro e w1 ⟨rfl, m, rfl⟩
  go_wp2_with fail
  refine (HA.out m).mono ?_
  rintro e w2 ⟨g2, c2, rfl, o2, b2⟩
  have B2 : Below w.heap.size w w2 := (below_drewN' (Below.refl _ w) m).trans b2
  go_wp2_with fail
  refine (nth_n _ _ _ F k w2 rfl o2.rd (by have := HV.out; omega) (by omega)).mono ?_
  rintro e w3 ⟨rfl, b3⟩
  go_wp2
  go_ret
  exact ⟨rfl, B2.trans (b3.mono B2.size)⟩

/-- What OnePrice hands back. -/
noncomputable def opF (rows : List (List Int)) (k : Int) : Int := if fuB rows k = true then nthG k.toNat rows.flatten else -1

theorem OnePrice_both (rows : List (List Int)) (k : Int) (hl : rows.length ≤ 1099511627776) (hl2 : ∀ r ∈ rows, r.length ≤ 1099511627776) :
    (∀ A c w, RdR w A c rows → Calls Try.prog 37 #[.slice A rows.length c, .int .i64 k] w fun e w' => e = .returned (.int .i64 (opF rows k)) ∧ Below w.heap.size w w') ∧
    (∀ A c w, RdR w A c rows → Calls Try.prog 26 #[.slice A rows.length c, .int .i64 k] w fun e w' => e = .returned (.int .i64 (opF rows k)) ∧ Below w.heap.size w w') := by
  unfold opF
  cases hf : fuB rows k with
  | false => exact ⟨fun A c w h => SOnePrice_no A c rows k w h hl hl2 hf, fun A c w h => OnePrice_no A c rows k w h hl hl2 hf⟩
  | true =>
    obtain ⟨hv, h0, h5⟩ := fuB_iff.1 hf
    obtain ⟨n, rfl⟩ := Int.eq_ofNat_of_zero_le h0
    exact ⟨fun A c w h => SOnePrice_yes A c rows n w h hv (by omega), fun A c w h => OnePrice_yes A c rows n w h hv (by omega)⟩

end Go.Proofs.Ytkkdffmpeadinaa
