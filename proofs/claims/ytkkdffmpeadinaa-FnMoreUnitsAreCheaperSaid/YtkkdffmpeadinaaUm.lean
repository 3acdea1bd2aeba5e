/-
  Chapter 3, the program: the contracts of takenBy, pushedBy, and paysOf.
-/
import Derived.Test.YtkkdffmpeadinaaUl
namespace Go.Proofs.Ytkkdffmpeadinaa
open Go.RowKit

/-- The sum of the first j terms but that of one. -/
def sumBut (f : Nat → Int) (i : Nat) : Nat → Int
  | 0 => 0
  | j + 1 => if j = i then sumBut f i j else sumBut f i j + f j
theorem sumBut_before {f : Nat → Int} {i : Nat} : ∀ j, j ≤ i → sumBut f i j = sumTo f j
  | 0, _ => rfl
  | j + 1, h => by rw [sumBut, if_neg (by omega), sumBut_before j (by omega)]; rfl
theorem sumBut_all {f : Nat → Int} {i : Nat} : ∀ j, i < j → sumBut f i j = sumTo f j - f i
  | 0, h => by omega
  | j + 1, h => by
    rcases Nat.lt_or_ge i j with h1 | h1
    · rw [sumBut, if_neg (by omega), sumBut_all j h1]; show _ = sumTo f j + f j - f i; omega
    · obtain rfl : j = i := by omega
      rw [sumBut, if_pos rfl, sumBut_before j (Nat.le_refl _)]; show _ = sumTo f j + f j - f j; omega
theorem sumBut_bd {f : Nat → Int} {i : Nat} : ∀ j, (∀ q, q < j → 0 ≤ f q ∧ f q ≤ 150) → 0 ≤ sumBut f i j ∧ sumBut f i j ≤ 150 * j
  | 0, _ => by simp [sumBut]
  | j + 1, h => by
    have h1 := sumBut_bd (f := f) (i := i) j (fun q hq => h q (by omega))
    have h2 := h j (by omega)
    rw [sumBut]
    split <;> omega

theorem but_len {rows : List (List Int)} {i : Nat} (hi : i < rows.length) : (butOf rows i).length = rows.length - 1 := by
  unfold butOf; simp; omega
theorem but_mem {rows : List (List Int)} {i : Nat} {r : List Int} (h : r ∈ butOf rows i) : r ∈ rows := by
  unfold butOf at h
  rcases List.mem_append.1 h with h | h
  · exact List.mem_of_mem_take h
  · exact List.mem_of_mem_drop h
theorem VD.butGood {rows : List (List Int)} {i : Nat} (h : VD rows) : Good (RW (butOf rows i)) (butOf rows i).length := fun _ hj => h.2 _ (but_mem (rw_mem hj))

set_option maxHeartbeats 1000000 in
theorem takenBy_any (A B : Option Addr) (c d k i : Nat) (rows : List (List Int)) (h : Nat → Nat) (w : World) (hR : RdR w A c rows) (hv : VD rows) (hk : k ≤ 5) (hB : Rd w B d (lst h rows.length)) (hh : ∀ j, h j ≤ 1000) (hi : i < rows.length) :
    Calls Try.prog 70 #[.slice A rows.length c, .int .i64 k, .slice B rows.length d, .int .i64 i] w fun e w' =>
      e = .returned (.int .i64 (bst (RW (butOf rows i)) (rows.length - 1) k - sumBut (fun j => pre (RW rows j) (h j)) i rows.length)) ∧ Below w.heap.size w w' := by
  have hl : rows.length ≤ 4 := hv.1.2
  have HO := Lib.hid (othersOf_any A c i rows w hR (by omega) hi)
  have hbg := hv.butGood (i := i)
  rw [but_len hi] at hbg
  obtain ⟨T, hT⟩ : ∃ T, T = bst (RW (butOf rows i)) (rows.length - 1) k := ⟨_, rfl⟩
  have hTb := bst_bd (x := k) hbg (Nat.le_refl _) (by omega)
  rw [← hT] at hTb ⊢
  have HT := Lib.hid hT
  have HBG := Lib.hid hbg
  have HV := Lib.hid hv
  have HH := Lib.hid hh
  clear hv hh hT hbg
  go_enter Try.func70, Try.ntmps70
  go_wp2_with fail
  refine HO.out.mono ?_
  rintro e w2 ⟨v, qs, rfl, o2, d2, e2, b2⟩
  have hql : qs.length = rows.length - 1 := by have := congrArg List.length e2; rw [but_len hi] at this; simpa using this
  obtain ⟨A2, c2, rfl, hC⟩ := CrowdIn.rdc (w := w2) ⟨o2, fun q hq => ⟨(d2 q hq).1, (d2 q hq).2.below b2⟩⟩
  have HW := Lib.hid (crowdWorth_any A2 c2 k qs w2 hC (by omega) (good_map e2 hql HBG.out) hk)
  rw [e2, hql, ← HT.out] at HW
  clear o2 d2 hC e2
  go_wp2_with fail
  refine HW.out.mono ?_
  rintro e w3 ⟨rfl, b3⟩
  have B3 := b2.trans (b3.mono b2.size)
  clear b2 b3 hql
  go_wp2
  obtain ⟨F, hF⟩ : ∃ F : Nat → Int, F = fun j => pre (RW rows j) (h j) := ⟨_, rfl⟩
  have HF : Hid (∀ q, q < rows.length → 0 ≤ F q ∧ F q ≤ 150) := Lib.hid (fun q hq => by rw [hF]; exact pre_le150 (HV.out.good q hq) _)
  have HFE := Lib.hid hF
  clear hF
  go_loopw [9, 18] (fun t i' wr => ∃ (j : Nat) (z : Int), j ≤ rows.length ∧ i' = .int .i64 j ∧ t = .int .i64 z ∧ Hid (z = T - sumBut F i j) ∧ Below w.heap.size w wr) (fun _ i' _ => rows.length - (intOf i').toNat)
  case atStart => exact ⟨0, T, Nat.zero_le _, rfl, rfl, Lib.hid (by simp [sumBut]), B3⟩
  case round =>
    obtain ⟨j, z, hj, rfl, rfl, HZ, hb⟩ := hrel
    by_cases hlt : j < rows.length
    · by_cases hji : j = i
      · have HS : Hid (z = T - sumBut F i (j + 1)) := Lib.hid (by rw [sumBut, if_pos hji]; exact HZ.out)
        have hne : ((j : Int) != (i : Int)) = false := by simp; omega
        clear hji
        go_wp2
        go_roundw
        case rel => exact ⟨j + 1, z, by omega, by go_num, rfl, HS, hb⟩
        case measure => simp [intOf]; omega
      · obtain ⟨f1, hf1⟩ : ∃ f1, f1 = F j := ⟨_, rfl⟩
        have hfb := HF.out j hlt
        have hsb := sumBut_bd (f := F) (i := i) j (fun q hq => HF.out q (by omega))
        have hz := HZ.out
        rw [← hf1] at hfb
        have HS : Hid (z - f1 = T - sumBut F i (j + 1)) := Lib.hid (by rw [sumBut, if_neg hji, hz, hf1]; omega)
        have HW := worthTo_any A B c d rows h j wr (hR.below hb) (hB.below hb) hlt (HV.out.good j hlt) (by have := HH.out j; omega)
        have e : pre (RW rows j) (h j) = f1 := by rw [hf1, HFE.out]
        rw [e] at HW
        have HW := Lib.hid HW
        have hne : ((j : Int) != (i : Int)) = true := by simp; omega
        have hzb : -600 ≤ z ∧ z ≤ 600 := by omega
        have hz1 := hzb.1
        have hz2 := hzb.2
        have hf0 := hfb.1
        have hf2 := hfb.2
        clear hji hf1 hfb hsb hz e hzb
        go_wp2_with (go_at_call 65; refine HW.out.mono ?_; rintro e w4 ⟨rfl, n, rfl⟩)
        go_roundw
        case rel => exact ⟨j + 1, _, by omega, by go_num, rfl, HS, below_drewN' hb n⟩
        case measure => simp [intOf]; omega
    · obtain rfl : j = rows.length := by omega
      have HS : Hid (z = T - sumBut (fun j => pre (RW rows j) (h j)) i rows.length) := Lib.hid (by rw [← HFE.out]; exact HZ.out)
      go_wp2
      go_ret
      exact ⟨by rw [← HS.out]; rfl, hb⟩

theorem Rd.piece {w : World} {a : Addr} {c c2 f t : Nat} {zs : List Int} {A' : Option Addr} (h : Rd w (some a) c zs) (hA : A' = some (a.add f) ∨ (A' = some a ∧ zs.length ≤ f)) : Rd w A' c2 ((zs.take t).drop f) := by
  rcases h with ⟨rfl, _⟩ | ⟨b, off, hb, hc⟩
  · exact .inl ⟨by simp, fun h => by rcases hA with rfl | ⟨rfl, _⟩ <;> cases h⟩
  · have hb := Option.some.inj hb
    subst hb
    rcases hA with rfl | ⟨rfl, hl⟩
    · have e : (⟨b, off, none⟩ : Addr).add f = ⟨b, off + f, none⟩ := by unfold Addr.add; split <;> simp_all
      rw [e]
      have h1 : Rd w (some ⟨b, off, none⟩) c (zs.take t) := Rd.take_ (c := c) (.inr ⟨b, off, rfl, hc⟩) t
      exact h1.drop_ f
    · have : (zs.take t).drop f = [] := List.drop_eq_nil_of_le (by rw [List.length_take]; omega)
      rw [this]
      exact .inl ⟨rfl, fun h => by cases h⟩

/-- The sum of the numbers of F, by size, from a to b. -/
def pushF (F : List Int) (k c : Nat) : Int := (((srtU F).reverse.take (min k F.length)).drop (min (k - c) F.length)).sum

set_option maxHeartbeats 1000000 in
theorem pushedBy_any (A B : Option Addr) (c d k i : Nat) (rows : List (List Int)) (h : Nat → Nat) (w : World) (hR : RdR w A c rows) (hv : VD rows) (hk : k ≤ 5) (hB : Rd w B d (lst h rows.length)) (hh : h i ≤ k) (hi : i < rows.length) :
    Calls Try.prog 61 #[.slice A rows.length c, .int .i64 k, .slice B rows.length d, .int .i64 i] w fun e w' =>
      e = .returned (.int .i64 (pushF (butOf rows i).flatten k (h i))) ∧ Below w.heap.size w w' := by
  have hl : rows.length ≤ 4 := hv.1.2
  have HO := Lib.hid (othersOf_any A c i rows w hR (by omega) hi)
  obtain ⟨F, hF⟩ : ∃ F, F = (butOf rows i).flatten := ⟨_, rfl⟩
  have hFL : F.length ≤ 20 := by
    rw [hF]
    have h1 := flat_len (rows := butOf rows i) (M := 5) (fun r hr => (hv.2 r (but_mem hr)).1)
    have h2 := but_len hi
    omega
  have hFM : ∀ x ∈ F, 0 ≤ x ∧ x ≤ 30 := by
    intro x hx
    rw [hF, List.mem_flatten] at hx
    obtain ⟨r, hr, hxr⟩ := hx
    obtain ⟨q, hq, rfl⟩ := List.getElem_of_mem hxr
    have := (hv.2 r (but_mem hr)).2 q _ (List.getElem?_eq_getElem hq)
    omega
  rw [← hF]
  obtain ⟨S, hS⟩ : ∃ S, S = pushF F k (h i) := ⟨_, rfl⟩
  rw [← hS]
  have HSE := Lib.hid hS
  clear hS
  have HFE := Lib.hid hF
  have HFM := Lib.hid hFM
  have HV := Lib.hid hv
  clear hv hF hFM
  go_enter Try.func61, Try.ntmps61
  go_wp2_with fail
  refine HO.out.mono ?_
  rintro e w2 ⟨v, qs, rfl, o2, d2, e2, b2⟩
  obtain ⟨A2, c2, rfl, hC⟩ := CrowdIn.rdc (w := w2) ⟨o2, fun q hq => ⟨(d2 q hq).1, (d2 q hq).2.below b2⟩⟩
  have hmr := mem_rows e2
  have hql : qs.length = rows.length - 1 := by have := congrArg List.length e2; rw [but_len hi] at this; simpa using this
  have HS := bySizeCrowd_any A2 c2 qs w2 hC (by omega) (fun q hq => by have := (HV.out.2 _ (but_mem (hmr q hq))).1; omega) (by rw [allNums_eq e2, ← HFE.out]; omega)
  rw [allNums_eq e2, ← HFE.out] at HS
  have HS := Lib.hid HS
  clear o2 d2 hC e2 hql hmr
  go_wp2_with fail
  refine HS.out.mono ?_
  rintro e w3 ⟨A3, c3, rfl, o3, b3⟩
  have B3 := b2.trans (b3.mono b2.size)
  obtain ⟨b4, o4, rfl, hch0⟩ := (hB.below B3).has hi
  obtain ⟨L, hL⟩ : ∃ L, L = F.length := ⟨_, rfl⟩
  have hLL : ((srtU F).reverse).length = L := by rw [List.length_reverse, srtU_len, hL]
  rw [hLL]
  obtain ⟨t, ht⟩ : ∃ t, t = h i := ⟨_, rfl⟩
  rw [← ht] at hch0 hh
  have HT := Lib.hid ht
  have HL := Lib.hid hL
  obtain ⟨e, he⟩ : ∃ e, e = k - t := ⟨_, rfl⟩
  have hke : (k : Int) - (t : Int) = (e : Int) := by omega
  have hwe : IntKind.i64.wrap (e : Int) = (e : Int) := IntWalk.i64_in _ (by omega)
  have HE := Lib.hid he
  have hek : e ≤ k := by omega
  have hcap : A3 ≠ none → L ≤ c3 := fun hA => by
    rcases own_shape o3 with ⟨_, ⟨hv, _⟩ | ⟨g, c', hv⟩⟩
    · injection hv with h1; exact absurd h1 hA
    · injection hv with h1 _ h3
      subst h1
      have := o3.cap.1
      omega
  have hnone : A3 = none → L = 0 ∧ c3 = 0 := fun hA => by
    rcases own_shape o3 with ⟨_, ⟨hv, hz⟩ | ⟨g, c', hv⟩⟩
    · injection hv with _ _ h3
      rw [hz] at hLL
      exact ⟨hLL.symm, h3⟩
    · injection hv with h1
      rw [hA] at h1; cases h1
  have HRD := Lib.hid o3.rd
  have HDL : Hid (((srtU F).reverse).length = L) := Lib.hid hLL
  have HPE : Hid (pushF F k (h i) = (((srtU F).reverse.take (min k L)).drop (min e L)).sum) := Lib.hid (by unfold pushF; rw [← ht, ← he, ← hL])
  have HS2 : Hid (Some2 (((srtU F).reverse.take (min k L)).drop (min e L))) := Lib.hid (fun x hx => by
    have h1 := List.mem_reverse.1 (List.mem_of_mem_take (List.mem_of_mem_drop hx))
    have h2 := HFM.out x ((List.mergeSort_perm F _).mem_iff.1 h1)
    omega)
  have HXL : Hid ((((srtU F).reverse.take (min k L)).drop (min e L)).length = min k L - min e L) := Lib.hid (by rw [List.length_drop, List.length_take, hLL]; omega)
  obtain ⟨xs, hxs⟩ : ∃ xs, xs = ((srtU F).reverse.take (min k L)).drop (min e L) := ⟨_, rfl⟩
  have HXS := Lib.hid hxs
  have HSX : Hid (S = xs.sum) := Lib.hid (by rw [HSE.out, HPE.out, hxs])
  rw [← hxs] at HS2 HXL
  clear o3 hLL ht he hL hxs
  cases A3 with
  | none =>
    obtain ⟨rfl, rfl⟩ := hnone rfl
    have hx0 : xs = [] := List.eq_nil_of_length_eq_zero (by rw [HXL.out]; omega)
    subst hx0
    clear hcap hnone
    by_cases he0 : e = 0
    all_goals by_cases hk0 : k = 0
    all_goals
      go_wp2_with fail
      refine (sumU_any none 0 _ S [] w3 (by simp <;> omega) HSX.out (Rd.nil _) (by omega) (fun x hx => by cases hx)).mono ?_
      rintro e' w4 ⟨rfl, rfl⟩
      go_wp2
      go_ret
      exact ⟨rfl, B3⟩
  | some a3 =>
    have hc3 : L ≤ c3 := hcap (by simp)
    clear hcap hnone
    go_wp2_with fail
    all_goals
      refine (sumU_any _ _ _ S xs w3 (by rw [HXL.out]; omega) HSX.out (by rw [HXS.out]; refine HRD.out.piece ?_; first | exact .inl (by congr 2; omega) | exact .inr ⟨rfl, by rw [HDL.out]; omega⟩) (by omega) HS2.out).mono ?_
      rintro e' w4 ⟨rfl, rfl⟩
      go_wp2
      go_ret
      exact ⟨rfl, B3⟩

end Go.Proofs.Ytkkdffmpeadinaa
