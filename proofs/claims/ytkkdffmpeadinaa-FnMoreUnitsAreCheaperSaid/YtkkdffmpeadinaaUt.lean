/-
  Chapter 3 in plain arithmetic: what both sides hand back is the same.
-/
import Derived.Test.YtkkdffmpeadinaaUs
namespace Go.Proofs.Ytkkdffmpeadinaa
open Go.RowKit

theorem sum_rows {f : List Int → Int} {rows : List (List Int)} : ∀ j, j ≤ rows.length → ((rows.take j).map f).sum = sumTo (fun i => f (RW rows i)) j
  | 0, _ => by simp [sumTo]
  | j + 1, hj => by
    have e : rows[j]? = some rows[j] := List.getElem?_eq_getElem (by omega)
    rw [List.take_add_one, e, Option.toList_some, List.map_append, List.sum_append, sum_rows j (by omega), sumTo, rw_of e]
    simp
theorem ovs_rows (t : Int) (rows : List (List Int)) : ovs t (RW rows) rows.length = (rows.map (over t)).sum := by
  have := sum_rows (f := over t) (rows := rows) rows.length (Nat.le_refl _)
  rw [List.take_length] at this
  rw [this]; rfl
theorem ovs_set {t : Int} {rows : List (List Int)} {i : Nat} (hi : i < rows.length) (r : List Int) : ovs t (RW (rows.set i r)) rows.length = ovs t (RW (butOf rows i)) (rows.length - 1) + over t r := by
  have h1 := ovs_rows t (rows.set i r)
  have h2 := ovs_rows t (butOf rows i)
  rw [List.length_set] at h1
  rw [but_len hi] at h2
  rw [h1, h2, List.set_eq_take_append_cons_drop, if_pos hi]
  unfold butOf
  rw [List.map_append, List.map_append, List.sum_append, List.sum_append, List.map_cons, List.sum_cons]
  omega
theorem bst_but {rows : List (List Int)} (hv : VD rows) {i : Nat} (hi : i < rows.length) (k : Nat) : bst (RW (rows.set i [])) rows.length k = bst (RW (butOf rows i)) (rows.length - 1) k := by
  have hg := (hv.setVD i rowOk_nil).good
  have hb := hv.butGood (i := i)
  rw [List.length_set] at hg
  rw [but_len hi] at hb
  exact bst_same hg hb (fun t _ => by rw [ovs_set hi, over_nil]; omega) k
theorem spv_piv {rows : List (List Int)} (hv : VD rows) {i : Nat} (hi : i < rows.length) (k : Nat) : spvF rows k i = pivF rows k i := by
  unfold spvF pivF
  rw [bst_but hv hi, sumBut_all _ hi]
  rfl

theorem sumTo_take (xs : List Int) : ∀ j, sumTo (fun q => xs.getD q 0) j = (xs.take j).sum
  | 0 => by simp [sumTo]
  | j + 1 => by
    rw [sumTo, sumTo_take xs j, List.take_add_one]
    cases h : xs[j]? with
    | none => rw [List.getD_eq_getElem?_getD, h]; simp
    | some x => rw [List.getD_eq_getElem?_getD, h]; simp
theorem sumTo_shift (g : Nat → Int) (a : Nat) : ∀ c, sumTo (fun n => g (a + n)) c = sumTo g (a + c) - sumTo g a
  | 0 => by simp [sumTo]
  | c + 1 => by
    rw [sumTo, sumTo_shift g a c, show a + (c + 1) = (a + c) + 1 from rfl, sumTo]; omega
theorem big_getD (F : List Int) (q : Nat) : ((srtU F).reverse).getD q 0 = nthG q F := by
  rcases Nat.lt_or_ge q F.length with h | h
  · obtain ⟨y, hy⟩ := at_some (xs := (srtU F).reverse) (k := q) (by rw [List.length_reverse, srtU_len]; exact h)
    rw [big_nth hy, List.getD_eq_getElem?_getD, hy]; rfl
  · rw [nthG_behind q F h, List.getD_eq_getElem?_getD, List.getElem?_eq_none (by rw [List.length_reverse, srtU_len]; exact h)]; rfl
theorem sum_piece (xs : List Int) (a b : Nat) (h : a ≤ b) : ((xs.take b).drop a).sum = (xs.take b).sum - (xs.take a).sum := by
  have e : xs.take b = xs.take a ++ (xs.take b).drop a := by
    conv => lhs; rw [← List.take_append_drop a (xs.take b), List.take_take, Nat.min_eq_left h]
  have h2 := congrArg List.sum e
  rw [List.sum_append] at h2
  omega
theorem take_minlen (xs : List Int) (k n : Nat) (h : xs.length = n) : xs.take (min k n) = xs.take k := by
  rcases Nat.le_total k n with h1 | h1
  · rw [Nat.min_eq_left h1]
  · rw [Nat.min_eq_right h1, List.take_of_length_le (by omega), List.take_of_length_le (by omega)]
theorem push_spu {F : List Int} {k c : Nat} (hc : c ≤ k) : pushF F k c = sumTo (fun n => nthG (k - c + n) F) c := by
  have hl : ((srtU F).reverse).length = F.length := by rw [List.length_reverse, srtU_len]
  unfold pushF
  rw [sum_piece _ _ _ (by omega), take_minlen _ _ _ hl, take_minlen _ _ _ hl, ← sumTo_take, ← sumTo_take]
  have e : (fun n => nthG (k - c + n) F) = fun n => (fun q => ((srtU F).reverse).getD q 0) (k - c + n) := by funext n; exact (big_getD F _).symm
  have h3 := sumTo_shift (fun q => ((srtU F).reverse).getD q 0) (k - c) c
  rw [show k - c + c = k by omega] at h3
  rw [e]
  exact h3.symm

/-- What the three of both sides hand back, by a function of the bidder. -/
theorem vls_congr {f g : Nat → Int} {n : Nat} (h : ∀ i, i < n → f i = g i) : vls f n = vls g n := by
  unfold vls
  exact List.map_congr_left (fun i hi => h i (List.mem_range.1 hi))
theorem ValsIs.congr {w : World} {f g : Nat → Int} {n : Nat} {e : Ending} {w' : World} (h : ValsIs w f n e w') (hfg : ∀ i, i < n → f i = g i) : ValsIs w g n e w' := by
  unfold ValsIs at h ⊢
  rw [vls_congr hfg] at h
  exact h
theorem ValsIs.ans {w : World} {f : Nat → Int} {n : Nat} {e : Ending} {w' : World} (h : ValsIs w f n e w') : AnsIs w (vls f n) e w' := by
  obtain ⟨g, c, he, ho, hb⟩ := h
  exact ⟨_, c, by rw [vls_len]; exact he, ho, hb⟩
theorem HasIs.ans {w : World} {h : Nat → Nat} {n : Nat} {e : Ending} {w' : World} (hh : HasIs w h n e w') : AnsIs w (lst h n) e w' := by
  obtain ⟨g, c, he, ho, hb⟩ := hh
  exact ⟨_, c, by rw [lst_len]; exact he, ho, hb⟩

/-- Both sides of a function of demands and units whose answer is a list. -/
def Both (S I : FuncId) (rows : List (List Int)) (k : Int) (zs : List Int) : Prop :=
  (∀ A c w, RdR w A c rows → Calls Try.prog S #[.slice A rows.length c, .int .i64 k] w (AnsIs w zs)) ∧ (∀ A c w, RdR w A c rows → Calls Try.prog I #[.slice A rows.length c, .int .i64 k] w (AnsIs w zs))

noncomputable def awL (rows : List (List Int)) (k : Int) : List Int := if fuB rows k = true then lst (aw (RW rows) rows.length k.toNat) rows.length else []
noncomputable def piL (rows : List (List Int)) (k : Int) : List Int := if fuB rows k = true then vls (pivF rows k.toNat) rows.length else []
noncomputable def puL (rows : List (List Int)) (k : Int) : List Int := if fuB rows k = true then vls (spuF rows k.toNat) rows.length else []
noncomputable def eaL (rows : List (List Int)) (k : Int) : List Int := if fuB rows k = true then vls (fun i => pre (RW rows i) (aw (RW rows) rows.length k.toNat i)) rows.length else []

theorem AwardUnits_both (rows : List (List Int)) (k : Int) (hl : rows.length ≤ 1099511627776) (hl2 : ∀ r ∈ rows, r.length ≤ 1099511627776) :
    Both 21 19 rows k (awL rows k) := by
  unfold awL
  cases hf : fuB rows k with
  | false => exact ⟨fun A c w h => SAwardUnits_no A c rows k w h hl hl2 hf, fun A c w h => AwardUnits_no A c rows k w h hl hl2 hf⟩
  | true =>
    obtain ⟨hv, h0, h5⟩ := fuB_iff.1 hf
    obtain ⟨n, rfl⟩ := Int.eq_ofNat_of_zero_le h0
    exact ⟨fun A c w h => (SAwardUnits_yes A c rows n w h hv (by omega)).mono fun _ _ h => h.ans, fun A c w h => (AwardUnits_yes A c rows n w h hv (by omega)).mono fun _ _ h => h.ans⟩
theorem PushedUnits_both (rows : List (List Int)) (k : Int) (hl : rows.length ≤ 1099511627776) (hl2 : ∀ r ∈ rows, r.length ≤ 1099511627776) :
    Both 29 28 rows k (puL rows k) := by
  unfold puL
  cases hf : fuB rows k with
  | false => exact ⟨fun A c w h => SPushedUnits_no A c rows k w h hl hl2 hf, fun A c w h => PushedUnits_no A c rows k w h hl hl2 hf⟩
  | true =>
    obtain ⟨hv, h0, h5⟩ := fuB_iff.1 hf
    obtain ⟨n, rfl⟩ := Int.eq_ofNat_of_zero_le h0
    exact ⟨fun A c w h => (SPushedUnits_yes A c n rows w h hv (by omega)).mono fun _ _ h => h.ans, fun A c w h => (PushedUnits_yes A c n rows w h hv (by omega)).mono fun _ _ h => (h.congr (fun i _ => push_spu (aw_le n i))).ans⟩
theorem EachUnits_both (rows : List (List Int)) (k : Int) (hl : rows.length ≤ 1099511627776) (hl2 : ∀ r ∈ rows, r.length ≤ 1099511627776) :
    Both 32 31 rows k (eaL rows k) := by
  unfold eaL
  cases hf : fuB rows k with
  | false => exact ⟨fun A c w h => SEachUnits_no A c rows k w h hl hl2 hf, fun A c w h => EachUnits_no A c rows k w h hl hl2 hf⟩
  | true =>
    obtain ⟨hv, h0, h5⟩ := fuB_iff.1 hf
    obtain ⟨n, rfl⟩ := Int.eq_ofNat_of_zero_le h0
    exact ⟨fun A c w h => (SEachUnits_yes A c n rows w h hv (by omega)).mono fun _ _ h => h.ans, fun A c w h => (EachUnits_yes A c n rows w h hv (by omega)).mono fun _ _ h => h.ans⟩

end Go.Proofs.Ytkkdffmpeadinaa
