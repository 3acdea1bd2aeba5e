/-
  Chapter 2, the program: the contract of IronedOf.
-/
import Derived.Test.YtoipjhdnmiomeaaGF
namespace Go.Proofs.Ytoipjhdnmiomeaa
open Go.RowKit

/-- Noughts up to v, ps from there on. -/
def lateF (ps : List (Int × Int)) (v : Nat) : List (Int × Int) := List.replicate v (0, 0) ++ ps.drop v
theorem lateF_len (ps : List (Int × Int)) (v : Nat) (hv : v ≤ ps.length) : (lateF ps v).length = ps.length := by simp [lateF]; omega
theorem lateF_all (ps : List (Int × Int)) : lateF ps ps.length = List.replicate ps.length (0, 0) := by simp [lateF]
theorem lateF_zero (ps : List (Int × Int)) : lateF ps 0 = ps := by simp [lateF]
theorem lateF_set (ps : List (Int × Int)) (u : Nat) (x : Int × Int) (hx : ps[u]? = some x) : (lateF ps (u + 1)).set u x = lateF ps u := by
  obtain ⟨hu, rfl⟩ := List.getElem?_eq_some_iff.1 hx
  unfold lateF
  rw [List.replicate_succ', List.append_assoc, List.set_append, if_neg (by simp), List.length_replicate, Nat.sub_self, List.singleton_append, List.set_cons_zero, List.drop_eq_getElem_cons hu]

theorem PairAt.kept2 {w : World} {B C : Nat} {x y : Int} (h : PairAt w B x y) (hne : B ≠ C) (i j : Nat) (u v : Value) : PairAt ((w.setCell ⟨C, i, none⟩ u).setCell ⟨C, j, none⟩ v) B x y := by
  unfold PairAt at *
  rw [Below.heap_setCell _ _ _ _ (by exact hne), Below.heap_setCell _ _ _ _ (by exact hne)]
  exact h

/-- Up to v the ironed values are those of the lesser part. -/
def IronTo (xs : List Int) (v : Nat) : Prop := (ironed xs).take v = ironL xs v v
theorem IronTo.start (xs : List Int) : IronTo xs xs.length := by
  unfold IronTo; rw [List.take_of_length_le (by rw [ironed_len]; omega)]; rfl
theorem IronTo.step {xs : List Int} {v a : Nat} {s : Rat} (h : IronTo xs v) (h1 : 1 ≤ v) (ha : (steep xs v).1 = a) (hs : (steep xs v).2 = s) :
    IronTo xs a ∧ a < v ∧ ∀ u, a ≤ u → u < v → (ironed xs)[u]? = some s := by
  obtain ⟨a1, _⟩ := steep_is xs h1
  rw [ha] at a1
  have e : ironL xs v v = ironL xs (v - 1) a ++ List.replicate (v - a) s := by
    have := ironL_at (w := xs) (f := v - 1) h1
    rw [show v - 1 + 1 = v by omega, ha, hs] at this
    exact this
  have hlen := ironL_len xs (v - 1) a (by omega)
  unfold IronTo at h ⊢
  refine ⟨?_, a1, fun u hu hv => ?_⟩
  · have : (ironed xs).take a = ((ironed xs).take v).take a := by rw [List.take_take, Nat.min_eq_left (by omega)]
    rw [this, h, e, List.take_append_of_le_length (by omega), List.take_of_length_le (by omega)]
    exact ironL_fuel xs _ _ _ (by omega) (Nat.le_refl _)
  · have : (ironed xs)[u]? = ((ironed xs).take v)[u]? := by rw [List.getElem?_take_of_lt hv]
    rw [this, h, e, List.getElem?_append_right (by omega), hlen, List.getElem?_replicate, if_pos (by omega)]

def ironO (xs : List Int) : Option (List Rat) := if vW xs = true then some (ironed xs) else none

theorem steep_bd {xs : List Int} {v : Nat} {n d : Int} (hv : vW xs = true) (h1 : 1 ≤ v) (hl : v ≤ xs.length) (hq : FrIs (steep xs v).2 n d) : -216 ≤ n ∧ n ≤ 216 ∧ 1 ≤ d ∧ d ≤ 36 := by
  obtain ⟨a1, a2, _⟩ := steep_is xs h1
  rw [a2] at hq
  obtain ⟨_, _, h3⟩ := slope_parts hv a1 hl hq
  exact h3

set_option maxHeartbeats 2000000 in
theorem IronedOf_any (A : Option Addr) (c : Nat) (xs : List Int) (w : World) (h : Rd w A c xs) (hcc : xs.length ≤ c) (hl : xs.length ≤ 1048576) :
    Calls Try.prog 22 #[.slice A xs.length c] w (OutF w (ironO xs)) := by
  have HV := Lib.hid (ValidWeights_any A c xs w h (by omega))
  cases hv : vW xs with
  | false =>
    have HE := Lib.hid (show ironO xs = none by unfold ironO; rw [hv]; rfl)
    rw [hv] at HV
    clear hv
    go_enter Try.func22, Try.ntmps22
    go_wp2_with (refine HV.out.mono ?_; rintro e w1 ⟨rfl, rfl⟩)
    go_ret
    exact ⟨Below.refl _ _, .inl ⟨HE.out, rfl⟩⟩
  | true =>
    have HE := Lib.hid (show ironO xs = some (ironed xs) by unfold ironO; rw [hv]; rfl)
    rw [hv] at HV
    have HVV := Lib.hid hv
    obtain ⟨l1, l2⟩ := vW_le hv
    obtain ⟨b, off, rfl⟩ := h.open1 l1
    have HST := Lib.hid (fun v (h1 : 1 ≤ v) (hlt : v ≤ xs.length) w h => steepestFrom_any b off c xs v _ _ _ w h hcc hv h1 hlt rfl (FrIs.self _))
    clear hv
    go_enter Try.func22, Try.ntmps22
    go_wp2_with fail
    refine HV.out.mono ?_
    rintro e w1 ⟨rfl, rfl⟩
    go_wp2_with (at_make; refine wpList_make_fracs rfl _ _ rfl w.heap.size xs.length rfl rfl (by omega) (Nat.le_refl _) ?_; intro w0 ho0 hb0)
    go_loopw [4] (fun i wr => ∃ v : Nat, ∃ ps, v ≤ xs.length ∧ i = .int .i64 v ∧ ps.length = xs.length ∧ OwnF wr w.heap.size (some ⟨w.heap.size, 0, none⟩) xs.length ps ∧ Below w.heap.size w wr ∧ Hid (ps = lateF (frL (ironed xs)) v) ∧ Hid (IronTo xs v))
      (fun i _ => (intOf i).toNat)
    case atStart => exact ⟨xs.length, _, Nat.le_refl _, rfl, List.length_replicate, ho0, hb0, Lib.hid (by have := lateF_all (frL (ironed xs)); rw [frL_len, ironed_len] at this; exact this.symm), Lib.hid (IronTo.start xs)⟩
    case round =>
      obtain ⟨v, ps, hv, rfl, hpl, hown, hb, HP, HT⟩ := hrel
      by_cases hv1 : 1 ≤ v
      · have hr := h.below hb
        have HF := Lib.hid (HST.out v hv1 hv _ hr)
        obtain ⟨to, hto⟩ : ∃ to, (steep xs v).1 = to := ⟨_, rfl⟩
        obtain ⟨n, hn⟩ : ∃ n, (steep xs v).2.num = n := ⟨_, rfl⟩
        obtain ⟨d, hd⟩ : ∃ d, ((steep xs v).2.den : Int) = d := ⟨_, rfl⟩
        obtain ⟨i1, i2, i3⟩ := HT.out.step hv1 hto rfl
        have HI := Lib.hid i1
        have HG := Lib.hid (fun u (h1 : to ≤ u) (h2 : u < v) => show (frL (ironed xs))[u]? = some (n, d) from frL_get (i3 u h1 h2) ⟨hn.symm, hd.symm⟩)
        rw [hto, hn, hd] at HF
        have HPL := Lib.hid hpl
        clear hto hn hd hpl i1 i3
        go_wp2_with fail
        refine HF.out.mono ?_
        rintro e w2 ⟨rfl, hb2⟩
        have hO2 := hown.below hb2
        have hB2 := below_up hb hb2
        have hO3 := hO2.below (below_al w2 (.cells #[.int .i64 n, .int .i64 d] 30))
        have hB3 := below_up hB2 (below_al w2 (.cells #[.int .i64 n, .int .i64 d] 30))
        have hPA := PairAt.new (w := w2) (x := n) (y := d)
        have hlt2 : w.heap.size < w2.heap.size := hO2.lt
        clear hown hO2
        unfold frV
        go_wp2
        go_loopw [4] (fun i wr => ∃ u : Nat, ∃ ps', to ≤ u ∧ u ≤ v ∧ i = .int .i64 u ∧ ps'.length = xs.length ∧ OwnF wr w.heap.size (some ⟨w.heap.size, 0, none⟩) xs.length ps' ∧ Below w.heap.size w wr ∧ PairAt wr w2.heap.size n d ∧ Hid (ps' = lateF (frL (ironed xs)) u))
          (fun i _ => (intOf i).toNat - to)
        case atStart => exact ⟨v, ps, by omega, Nat.le_refl _, rfl, HPL.out, hO3, hB3, hPA, HP⟩
        case round =>
          obtain ⟨u, ps', hu1, hu2, rfl, hpl', hown', hb', hPA', HP'⟩ := hrel
          by_cases hut : to < u
          · obtain ⟨m, rfl⟩ : ∃ m, u = m + 1 := ⟨u - 1, by omega⟩
            have em : (((m + 1 : Nat) : Int) - 1) = (m : Int) := by omega
            have hm1 : m < xs.length := by omega
            have hm2 : (m : Int) < (xs.length : Int) := by omega
            have HS := Lib.hid (show ps'.set m (n, d) = lateF (frL (ironed xs)) m by rw [HP'.out]; exact lateF_set _ _ _ (HG.out m (by omega) (by omega)))
            obtain ⟨⟨x, y⟩, hx⟩ : ∃ q, ps'[m]? = some q := ⟨ps'[m]'(by omega), List.getElem?_eq_getElem (by omega)⟩
            obtain ⟨c0, c1⟩ := hown'.cell hx
            have f0 := hown'.free (m * 2)
            have f1 := hown'.free (m * 2 + 1)
            obtain ⟨c2, c3, _, _⟩ := hPA'.facts
            have HO := Lib.hid (hown'.set_ m n d)
            have HPL' := Lib.hid hpl'
            have hge := hown'.ge
            have hne : w2.heap.size ≠ w.heap.size := by omega
            have HPA := Lib.hid (hPA'.kept2 hne (m * 2) (m * 2 + 1) (.int .i64 n) (.int .i64 d))
            clear hown' hpl' hx
            go_wp2
            go_roundw
            case rel => exact ⟨m, _, by omega, by omega, rfl, by rw [List.length_set, HPL'.out], HO.out, (hb'.setCell (Nat.le_refl _) _).setCell (Nat.le_refl _) _, HPA.out, HS⟩
            case measure => simp [intOf] <;> omega
          · obtain rfl : u = to := by omega
            go_wp2
            go_roundw
            case rel => exact ⟨u, ps', by omega, rfl, hpl', hown', hb', HP', HI⟩
            case measure => simp [intOf] <;> omega
      · obtain rfl : v = 0 := by omega
        have e2 : (frL (ironed xs)).length = xs.length := by rw [frL_len, ironed_len]
        have HE2 := Lib.hid (show ps = frL (ironed xs) by rw [HP.out, lateF_zero])
        have HE3 := Lib.hid e2
        clear e2
        go_wp2
        go_ret
        exact ⟨hb, .inr ⟨_, _, _, HE.out, by rw [HE3.out]; rfl, HE2.out ▸ hown⟩⟩
end Go.Proofs.Ytoipjhdnmiomeaa

/-
  Chapter 2, the model: the contract of IronedOf.
-/
namespace Go.Proofs.Ytoipjhdnmiomeaa
open Go.RowKit

/-- P from a up to u and from h on, noughts elsewhere. -/
def MidIs (P : List (Int × Int)) (a u h : Nat) (ps : List (Int × Int)) : Prop := ps.length = P.length ∧ ∀ j, j < P.length → ps[j]? = if (a ≤ j ∧ j < u) ∨ h ≤ j then P[j]? else some (0, 0)
theorem lateF_at (P : List (Int × Int)) (h j : Nat) : (lateF P h)[j]? = if h ≤ j then P[j]? else some (0, 0) := by
  unfold lateF
  rw [List.getElem?_append, List.length_replicate]
  by_cases c : j < h
  · rw [if_pos c, if_neg (by omega), List.getElem?_replicate, if_pos c]
  · rw [if_neg c, if_pos (by omega), List.getElem?_drop]; congr 1; omega
theorem MidIs.start {P : List (Int × Int)} {a h : Nat} (hh : h ≤ P.length) : MidIs P a a h (lateF P h) := by
  refine ⟨lateF_len P h hh, fun j hj => ?_⟩
  rw [lateF_at P h j]
  by_cases c : h ≤ j
  · rw [if_pos c, if_pos (.inr c)]
  · rw [if_neg c, if_neg (by omega)]
theorem MidIs.step {P : List (Int × Int)} {a u h : Nat} {ps : List (Int × Int)} {x : Int × Int} (hm : MidIs P a u h ps) (ha : a ≤ u) (hx : P[u]? = some x) : MidIs P a (u + 1) h (ps.set u x) := by
  have hu := (List.getElem?_eq_some_iff.1 hx).1
  refine ⟨by rw [List.length_set]; exact hm.1, fun j hj => ?_⟩
  by_cases c : u = j
  · subst c
    rw [List.getElem?_set_self (by rw [hm.1]; exact hu), if_pos (.inl ⟨ha, by omega⟩), hx]
  · rw [List.getElem?_set_ne c, hm.2 j hj]
    by_cases d : (a ≤ j ∧ j < u) ∨ h ≤ j
    · rw [if_pos d, if_pos (by omega)]
    · rw [if_neg d, if_neg (by omega)]
theorem MidIs.done {P : List (Int × Int)} {a h : Nat} {ps : List (Int × Int)} (hm : MidIs P a h h ps) (ha : a ≤ h) (hh : h ≤ P.length) : ps = lateF P a := by
  apply List.ext_getElem?
  intro j
  by_cases hj : j < P.length
  · rw [hm.2 j hj, lateF_at P a j]
    by_cases d : a ≤ j
    · rw [if_pos (by omega), if_pos d]
    · rw [if_neg (by omega), if_neg d]
  · rw [List.getElem?_eq_none (by rw [hm.1]; omega), List.getElem?_eq_none (by rw [lateF_len P a (by omega)]; omega)]

set_option maxHeartbeats 4000000 in
theorem Sironed_any (A : Option Addr) (c : Nat) (xs : List Int) (w : World) (h : Rd w A c xs) (hv : vW xs = true) :
    Calls Try.prog 58 #[.slice A xs.length c] w (OutF w (some (ironed xs))) := by
  have HVV := Lib.hid hv
  obtain ⟨l1, l2⟩ := vW_le hv
  have HTL := Lib.hid (fun v (h6 : v ≤ 6) w h => tail_any A c xs v w h (by omega) (by omega) (vW_small hv))
  clear hv
  go_enter Try.func58, Try.ntmps58
  go_wp2_with (at_make; refine wpList_make_fracs rfl _ _ rfl w.heap.size xs.length rfl rfl (by omega) (Nat.le_refl _) ?_; intro w0 ho0 hb0)
  go_loopw [4] (fun i wr => ∃ v : Nat, ∃ ps, v ≤ xs.length ∧ i = .int .i64 v ∧ ps.length = xs.length ∧ OwnF wr w.heap.size (some ⟨w.heap.size, 0, none⟩) xs.length ps ∧ Below w.heap.size w wr ∧ Hid (ps = lateF (frL (ironed xs)) v) ∧ Hid (IronTo xs v))
    (fun i _ => (intOf i).toNat)
  case atStart => exact ⟨xs.length, _, Nat.le_refl _, rfl, List.length_replicate, ho0, hb0, Lib.hid (by have := lateF_all (frL (ironed xs)); rw [frL_len, ironed_len] at this; exact this.symm), Lib.hid (IronTo.start xs)⟩
  case round =>
    obtain ⟨v, ps, hv, rfl, hpl, hown, hb, HP, HT⟩ := hrel
    rename World => w9
    by_cases hv1 : 1 ≤ v
    · have hv0 : 0 < v := by omega
      have ev : ((v : Int) - 1) = ((v - 1 : Nat) : Int) := by omega
      have HPL := Lib.hid hpl
      have hlt2 : w.heap.size < w9.heap.size := hown.lt
      have hO1 := hown.below (below_al w9 (.cells #[.int .i64 0, .int .i64 0] 30))
      have hB1 := below_up hb (below_al w9 (.cells #[.int .i64 0, .int .i64 0] 30))
      have hP1 := PairAt.new (w := w9) (x := 0) (y := 0)
      clear hpl hown
      go_wp2
      go_loopw [5, 7] (fun s i w1 => ∃ (k to : Nat) (n' d' : Int), s = .int .i64 to ∧ i = .int .i64 ((k : Int) - 1) ∧ k ≤ v ∧ to < v ∧ Below w.heap.size w w1 ∧ OwnF w1 w.heap.size (some ⟨w.heap.size, 0, none⟩) xs.length ps ∧ PairAt w1 w9.heap.size n' d' ∧
          Hid ((k = v ∧ n' = 0 ∧ d' = 0) ∨ (k ≤ v - 1 ∧ -216 ≤ n' ∧ n' ≤ 216 ∧ 1 ≤ d' ∧ d' ≤ 36 ∧ ∃ q, FrIs q n' d' ∧ steepTo xs v k (to, q) = steep xs v))) (fun _ i _ => (intOf i + 1).toNat)
      case atStart => exact ⟨v, v - 1, 0, 0, rfl, by go_num, Nat.le_refl _, by omega, hB1, hO1, hP1, Lib.hid (.inl ⟨rfl, rfl, rfl⟩)⟩
      case round =>
        obtain ⟨k, to, n', d', rfl, rfl, hkv, hto, hbr, hOr, hPr, HK⟩ := hrel
        rcases Nat.eq_zero_or_pos k with rfl | hk0
        · have HK2 : Hid (-216 ≤ n' ∧ n' ≤ 216 ∧ 1 ≤ d' ∧ d' ≤ 36 ∧ ∃ q, FrIs q n' d' ∧ (to, q) = steep xs v) := Lib.hid (by
            rcases HK.out with ⟨h1, _⟩ | ⟨_, h2⟩
            · omega
            · exact h2)
          obtain ⟨_, _, _, _, q, hq, hst⟩ := HK2.out
          obtain ⟨i1, i2, i3⟩ := HT.out.step hv1 (show (steep xs v).1 = to by rw [← hst]) (show (steep xs v).2 = q by rw [← hst])
          have HI := Lib.hid i1
          have HG := Lib.hid (fun u (h1 : to ≤ u) (h2 : u < v) => show (frL (ironed xs))[u]? = some (n', d') from frL_get (i3 u h1 h2) hq)
          have HM := Lib.hid (show MidIs (frL (ironed xs)) to to v ps by rw [HP.out]; exact MidIs.start (by rw [frL_len, ironed_len]; exact hv))
          clear hq hst i1 i3 HK2
          go_wp2
          go_loopw [9] (fun i w1 => ∃ u : Nat, ∃ ps', to ≤ u ∧ u ≤ v ∧ i = .int .i64 u ∧ ps'.length = xs.length ∧ OwnF w1 w.heap.size (some ⟨w.heap.size, 0, none⟩) xs.length ps' ∧ Below w.heap.size w w1 ∧ PairAt w1 w9.heap.size n' d' ∧ Hid (MidIs (frL (ironed xs)) to u v ps'))
            (fun i _ => v - (intOf i).toNat)
          case atStart => exact ⟨to, ps, Nat.le_refl _, by omega, rfl, HPL.out, hOr, hbr, hPr, HM⟩
          case round =>
            obtain ⟨u, ps', hu1, hu2, rfl, hpl', hown', hb', hPA', HP'⟩ := hrel
            by_cases hut : u < v
            · have hm1 : u < xs.length := by omega
              have hm2 : (u : Int) < (xs.length : Int) := by omega
              have HS := Lib.hid (HP'.out.step hu1 (HG.out u hu1 hut))
              obtain ⟨⟨x, y⟩, hx⟩ : ∃ q, ps'[u]? = some q := ⟨ps'[u]'(by omega), List.getElem?_eq_getElem (by omega)⟩
              obtain ⟨c0, c1⟩ := hown'.cell hx
              have f0 := hown'.free (u * 2)
              have f1 := hown'.free (u * 2 + 1)
              obtain ⟨c2, c3, _, _⟩ := hPA'.facts
              have HO := Lib.hid (hown'.set_ u n' d')
              have HPL' := Lib.hid hpl'
              have hne : w9.heap.size ≠ w.heap.size := by omega
              have HPA := Lib.hid (hPA'.kept2 hne (u * 2) (u * 2 + 1) (.int .i64 n') (.int .i64 d'))
              clear hown' hpl' hx
              go_wp2
              go_roundw
              case rel => exact ⟨u + 1, _, by omega, by omega, by go_num, by rw [List.length_set, HPL'.out], HO.out, (hb'.setCell (Nat.le_refl _) _).setCell (Nat.le_refl _) _, HPA.out, HS⟩
              case measure => simp [intOf] <;> omega
            · obtain rfl : u = v := by omega
              have HF := Lib.hid (HP'.out.done hu1 (by rw [frL_len, ironed_len]; exact hv))
              go_wp2
              go_roundw
              case rel => exact ⟨to, ps', by omega, rfl, hpl', hown', hb', HF, HI⟩
              case measure => simp [intOf] <;> omega
        · obtain ⟨m, rfl⟩ : ∃ m, k = m + 1 := ⟨k - 1, by omega⟩
          have em : (((m + 1 : Nat) : Int) - 1) = (m : Int) := by omega
          rw [em]
          clear em
          obtain ⟨p1, p2, y1, y2, y3, y4⟩ := slope_parts HVV.out (show m < v by omega) hv (FrIs.self _)
          have hr1 := h.below hbr
          have HTm := Lib.hid (HTL.out m (by omega) _ hr1)
          have HTv := Lib.hid (HTL.out v (by omega) _ hr1)
          obtain ⟨t1, t2⟩ := rev_b HVV.out m
          obtain ⟨t3, t4⟩ := rev_b HVV.out v
          have r1 := revW_le HVV.out (show m ≤ 6 by omega)
          have r2 := revW_le HVV.out (show v ≤ 6 by omega)
          have r3 := revW_nn HVV.out m
          have r4 := revW_nn HVV.out v
          unfold revW at r1 r2 r3 r4
          generalize tailW xs m = T at p1 p2 HTm t1 t2 r1 r3
          generalize tailW xs v = S at p1 p2 HTv t3 t4 r2 r4
          have HY := Lib.hid (fun to q hh => steepTo_less (w := xs) (h := v) (u := m) (s := (to, q)) hh)
          have HN := Lib.hid (fun to q hh => steepTo_more (w := xs) (h := v) (u := m) (s := (to, q)) hh)
          generalize hx : (slopeQ xs m v).num = x at p1 y1 y2
          generalize hyy : ((slopeQ xs m v).den : Int) = yy at p1 y3 y4
          have HZ2 := Lib.hid (show FrIs (slopeQ xs m v) x yy from ⟨hx.symm, hyy.symm⟩)
          have HC := Lib.hid (fun w => Sfrac_any _ _ _ _ w p1 p2 (by omega) (by omega) (by omega))
          clear hx hyy p1
          have hl7 := hPr.lt
          have step (l : Bool) (hd : d' = 0 ∧ l = false ∨ 1 ≤ d' ∧ -216 ≤ n' ∧ n' ≤ 216 ∧ d' ≤ 36 ∧ lessF x yy n' d' = l) : True := trivial
          clear step
          by_cases hd0 : d' = 0
          · subst hd0
            have HK2 : Hid (m = v - 1) := Lib.hid (by
              rcases HK.out with ⟨h1, _⟩ | ⟨_, _, _, h2, _⟩
              · omega
              · omega)
            have HS2 : Hid ((m = v ∧ x = 0 ∧ yy = 0) ∨ (m ≤ v - 1 ∧ -216 ≤ x ∧ x ≤ 216 ∧ 1 ≤ yy ∧ yy ≤ 36 ∧ ∃ q, FrIs q x yy ∧ steepTo xs v m (m, q) = steep xs v)) :=
              Lib.hid (.inr ⟨by have := HK2.out; omega, y1, y2, y3, y4, _, HZ2.out, by rw [HK2.out]; rfl⟩)
            clear HY HN
            go_wp2_with fail
            refine HTm.out.mono ?_
            rintro e w2 ⟨rfl, rfl⟩
            go_wp2_with fail
            refine HTv.out.mono ?_
            rintro e w2 ⟨rfl, rfl⟩
            go_wp2_with fail
            refine HTm.out.mono ?_
            rintro e w2 ⟨rfl, rfl⟩
            go_wp2_with fail
            refine HTv.out.mono ?_
            rintro e w2 ⟨rfl, rfl⟩
            go_wp2_with fail
            refine (HC.out _).mono ?_
            rintro e w2 ⟨rfl, hb2⟩
            have hP2 := hPr.below hb2
            have hO2 := hOr.below hb2
            have hl72 := hP2.lt
            have hbr2 := below_up hbr hb2
            obtain ⟨c0, c1, f0, f1⟩ := hP2.facts
            have hgn : w9.heap.size ≠ w.heap.size := by omega
            unfold frV
            go_wp2
            go_roundw
            case rel => exact ⟨m, m, x, yy, rfl, by go_num, by omega, by omega, below_up (below_set2 hbr2 (by omega) _ _) (below_al _ _), (hO2.other2 hgn _ _).below (below_al _ _), (hP2.set_ x yy).old _, HS2⟩
            case measure => simp [intOf] <;> omega
          · have he : (d' == 0) = false := by simpa using hd0
            have HK2 : Hid (m + 1 ≤ v - 1 ∧ -216 ≤ n' ∧ n' ≤ 216 ∧ 1 ≤ d' ∧ d' ≤ 36 ∧ ∃ q, FrIs q n' d' ∧ steepTo xs v (m + 1) (to, q) = steep xs v) := Lib.hid (by
              rcases HK.out with ⟨_, _, h1⟩ | h2
              · exact absurd h1 hd0
              · exact h2)
            obtain ⟨hm1, m1, m2, m3, m4, q, hq, hst⟩ := HK2.out
            have HL := Lib.hid (lessF_is HZ2.out hq)
            obtain ⟨u1, u2⟩ := mul_bd y1 y2 m3 m4 (by omega)
            obtain ⟨u3, u4⟩ := mul_bd m1 m2 y3 y4 (by omega)
            have HST := Lib.hid hst
            have HQ' := Lib.hid hq
            clear hst hq HK2 hd0
            by_cases hlt3 : slopeQ xs m v < q
            · have HS2 : Hid ((m = v ∧ n' = 0 ∧ d' = 0) ∨ (m ≤ v - 1 ∧ -216 ≤ n' ∧ n' ≤ 216 ∧ 1 ≤ d' ∧ d' ≤ 36 ∧ ∃ q, FrIs q n' d' ∧ steepTo xs v m (to, q) = steep xs v)) :=
                Lib.hid (.inr ⟨by omega, m1, m2, m3, m4, q, HQ'.out, (HY.out to q hlt3).symm.trans HST.out⟩)
              have HLL := Lib.hid (show lessF x yy n' d' = true by rw [HL.out]; simpa using hlt3)
              clear HY HN hlt3
              go_wp2_with fail
              refine HTm.out.mono ?_
              rintro e w2 ⟨rfl, rfl⟩
              go_wp2_with fail
              refine HTv.out.mono ?_
              rintro e w2 ⟨rfl, rfl⟩
              go_wp2_with fail
              refine HTm.out.mono ?_
              rintro e w2 ⟨rfl, rfl⟩
              go_wp2_with fail
              refine HTv.out.mono ?_
              rintro e w2 ⟨rfl, rfl⟩
              go_wp2_with fail
              refine (HC.out _).mono ?_
              rintro e w2 ⟨rfl, hb2⟩
              have hP2 := hPr.below hb2
              have hO2 := hOr.below hb2
              have hl72 := hP2.lt
              have hbr2 := below_up hbr hb2
              obtain ⟨c0, c1, f0, f1⟩ := hP2.facts
              unfold frV
              go_wp2_with fail
              refine (Sless_any x yy n' d' _ _ HLL.out (by omega) (by omega) (by omega) (by omega)).mono ?_
              rintro e w3 ⟨rfl, hb3⟩
              have hO3 := (hO2.below (below_al w2 (.cells #[.int .i64 x, .int .i64 yy] 30))).below hb3
              have hP3 := (hP2.old (.cells #[.int .i64 x, .int .i64 yy] 30)).below hb3
              have hbr3 := below_up (below_up hbr2 (below_al _ _)) hb3
              go_wp2
              go_roundw
              case rel => exact ⟨m, to, n', d', rfl, by go_num, by omega, hto, hbr3, hO3, hP3, HS2⟩
              case measure => simp [intOf] <;> omega
            · have HS2 : Hid ((m = v ∧ x = 0 ∧ yy = 0) ∨ (m ≤ v - 1 ∧ -216 ≤ x ∧ x ≤ 216 ∧ 1 ≤ yy ∧ yy ≤ 36 ∧ ∃ q, FrIs q x yy ∧ steepTo xs v m (m, q) = steep xs v)) :=
                Lib.hid (.inr ⟨by omega, y1, y2, y3, y4, _, HZ2.out, (HN.out to q hlt3).symm.trans HST.out⟩)
              have HLL := Lib.hid (show lessF x yy n' d' = false by rw [HL.out]; simpa using hlt3)
              clear HY HN hlt3
              go_wp2_with fail
              refine HTm.out.mono ?_
              rintro e w2 ⟨rfl, rfl⟩
              go_wp2_with fail
              refine HTv.out.mono ?_
              rintro e w2 ⟨rfl, rfl⟩
              go_wp2_with fail
              refine HTm.out.mono ?_
              rintro e w2 ⟨rfl, rfl⟩
              go_wp2_with fail
              refine HTv.out.mono ?_
              rintro e w2 ⟨rfl, rfl⟩
              go_wp2_with fail
              refine (HC.out _).mono ?_
              rintro e w2 ⟨rfl, hb2⟩
              have hP2 := hPr.below hb2
              have hO2 := hOr.below hb2
              have hl72 := hP2.lt
              have hbr2 := below_up hbr hb2
              obtain ⟨c0, c1, f0, f1⟩ := hP2.facts
              unfold frV
              go_wp2_with fail
              refine (Sless_any x yy n' d' _ _ HLL.out (by omega) (by omega) (by omega) (by omega)).mono ?_
              rintro e w3 ⟨rfl, hb3⟩
              have hO3 := (hO2.below (below_al w2 (.cells #[.int .i64 x, .int .i64 yy] 30))).below hb3
              have hP3 := (hP2.old (.cells #[.int .i64 x, .int .i64 yy] 30)).below hb3
              have hP9 := (PairAt.new (w := w2) (x := x) (y := yy)).below hb3
              have hbr3 := below_up (below_up hbr2 (below_al _ _)) hb3
              have hgn : w9.heap.size ≠ w.heap.size := by omega
              obtain ⟨c2, c3, f2, f3⟩ := hP3.facts
              obtain ⟨c4, c5, f4, f5⟩ := hP9.facts
              go_wp2
              go_roundw
              case rel => exact ⟨m, m, x, yy, rfl, by go_num, by omega, by omega, below_set2 hbr3 (by omega) _ _, hO3.other2 hgn _ _, hP3.set_ x yy, HS2⟩
              case measure => simp [intOf] <;> omega
    · obtain rfl : v = 0 := by omega
      have e2 : (frL (ironed xs)).length = xs.length := by rw [frL_len, ironed_len]
      have HE2 := Lib.hid (show ps = frL (ironed xs) by rw [HP.out, lateF_zero])
      have HE3 := Lib.hid e2
      clear e2
      go_wp2
      go_ret
      exact ⟨hb, .inr ⟨_, _, _, rfl, by rw [HE3.out]; rfl, HE2.out ▸ hown⟩⟩

theorem SIronedOf_any (A : Option Addr) (c : Nat) (xs : List Int) (w : World) (h : Rd w A c xs) (hl : xs.length ≤ 1048576) :
    Calls Try.prog 30 #[.slice A xs.length c] w (OutF w (ironO xs)) := by
  have HV := Lib.hid (validWeights_any A c xs w h (by omega))
  cases hv : vW xs with
  | false =>
    have HE := Lib.hid (show ironO xs = none by unfold ironO; rw [hv]; rfl)
    rw [hv] at HV
    clear hv
    go_enter Try.func30, Try.ntmps30
    go_wp2_with (refine HV.out.mono ?_; rintro e w1 ⟨rfl, rfl⟩)
    go_ret
    exact ⟨Below.refl _ _, .inl ⟨HE.out, rfl⟩⟩
  | true =>
    have HE := Lib.hid (show ironO xs = some (ironed xs) by unfold ironO; rw [hv]; rfl)
    have HI := Lib.hid (Sironed_any A c xs w h hv)
    rw [hv] at HV
    clear hv
    go_enter Try.func30, Try.ntmps30
    go_wp2_with fail
    refine HV.out.mono ?_
    rintro e w1 ⟨rfl, rfl⟩
    go_wp2_with fail
    refine HI.out.mono ?_
    rintro e w1 ⟨hb, ⟨he, _⟩ | ⟨qs, g, c', he, rfl, ho⟩⟩
    · cases he
    · have HE2 := Lib.hid (HE.out.trans he)
      clear he
      go_wp2
      go_ret
      exact ⟨hb, .inr ⟨qs, g, c', HE2.out, rfl, ho⟩⟩
end Go.Proofs.Ytoipjhdnmiomeaa

/-
  Chapter 2: at whatever weights the program's VirtualOf and IronedOf answer as the model's.
-/
namespace Go.Proofs.Ytoipjhdnmiomeaa
open Go.RowKit

/-- The pairs of an answer, none of nil. -/
def psOf (o : Option (List Rat)) : List (Int × Int) := match o with
  | none => []
  | some qs => frL qs
theorem OutF.own {w : World} {o : Option (List Rat)} {e : Ending} {w' : World} (h : OutF w o e w') :
    ∃ A c, e = .returned (.slice A (psOf o).length c) ∧ OwnF w' w.heap.size A c (psOf o) ∧ Below w.heap.size w w' := by
  obtain ⟨hb, ⟨rfl, rfl⟩ | ⟨qs, g, c, rfl, rfl, ho⟩⟩ := h
  · exact ⟨none, 0, rfl, World.ownsRow_nil _ _ _ _, hb⟩
  · exact ⟨_, c, rfl, ho, hb⟩

theorem rows_apart {wa wb : World} {B1 B2 T1 T2 s1 s2 n1 n2 c1 c2 : Nat} {A1 A2 : Option Addr} {xs ys : List Value} (h1 : wa.ownsRow B1 T1 s1 (.slice A1 n1 c1) n1 xs) (h2 : wb.ownsRow B2 T2 s2 (.slice A2 n2 c2) n2 ys) (hlt : wa.heap.size ≤ B2) :
    (ofA A1 = none ∨ ofA A1 ≠ ofA A2) ∧ (ofA A2 = none ∨ ofA A2 ≠ ofA A1) := by
  have e : ∀ k, ofA A1 = some k → ofA A2 = some k → False := by
    intro k hk1 hk2
    have l1 := (World.ownsRow.lt h1 k (by rw [own_block]; exact hk1)).2
    have l2 := (World.ownsRow.lt h2 k (by rw [own_block]; exact hk2)).1
    omega
  constructor
  · rcases hA : ofA A1 with _ | k
    · exact .inl rfl
    · exact .inr (fun h => e k hA h.symm)
  · rcases hA : ofA A2 with _ | k
    · exact .inl rfl
    · exact .inr (fun h => e k h.symm hA)
theorem OwnF.kept_ {w w' : World} {B : Nat} {A A2 : Option Addr} {c : Nat} {ps : List (Int × Int)} (h : OwnF w B A c ps) (hg : w.grownBy w' (ofA A2)) (hne : ofA A = none ∨ ofA A ≠ ofA A2) : OwnF w' B A c ps :=
  World.ownsRow.kept h hg (by rw [own_block]; exact hne)
theorem OwnF.grownBelow {w w' wa : World} {B B2 : Nat} {A2 : Option Addr} {c2 : Nat} {ps : List (Int × Int)} (hb : Below B wa w) (h2 : OwnF w B2 A2 c2 ps) (hB : B ≤ B2) (hs : B ≤ w.heap.size) (hg : w.grownBy w' (ofA A2)) : Below B wa w' :=
  hb.grown hg hs (fun k hk => Nat.le_trans hB (World.ownsRow.lt h2 k (by rw [own_block]; exact hk)).1)

/-- Fractions in a block of the call's own. -/
def OutP (w : World) (ps : List (Int × Int)) (e : Ending) (w' : World) : Prop := ∃ A c, e = .returned (.slice A ps.length c) ∧ OwnF w' w.heap.size A c ps ∧ Below w.heap.size w w'

theorem psOf_len {xs : List Int} {qs : List Rat} (hv : vW xs = true) (h : qs.length = xs.length) : (frL qs).length ≤ 6 := by rw [frL_len, h]; exact (vW_le hv).2

theorem VirtualOf_both (xs : List Int) (hl : xs.length ≤ 1048576) : ∃ ps : List (Int × Int), ps.length ≤ 6 ∧
    (∀ A c w, Rd w A c xs → Calls Try.prog 25 #[.slice A xs.length c] w (OutP w ps)) ∧
    (∀ A c w, Rd w A c xs → xs.length ≤ c → Calls Try.prog 18 #[.slice A xs.length c] w (OutP w ps)) := by
  refine ⟨psOf (virtO xs), ?_, fun A c w h => (SVirtualOf_any A c xs w h hl).mono fun _ _ h => h.own, fun A c w h hc => (VirtualOf_any A c xs w h hc hl).mono fun _ _ h => h.own⟩
  unfold virtO
  split
  · rename_i hv; exact psOf_len hv (virtL_len xs)
  · simp [psOf]
theorem IronedOf_both (xs : List Int) (hl : xs.length ≤ 1048576) : ∃ ps : List (Int × Int), ps.length ≤ 6 ∧
    (∀ A c w, Rd w A c xs → Calls Try.prog 30 #[.slice A xs.length c] w (OutP w ps)) ∧
    (∀ A c w, Rd w A c xs → xs.length ≤ c → Calls Try.prog 22 #[.slice A xs.length c] w (OutP w ps)) := by
  refine ⟨psOf (ironO xs), ?_, fun A c w h => (SIronedOf_any A c xs w h hl).mono fun _ _ h => h.own, fun A c w h hc => (IronedOf_any A c xs w h hc hl).mono fun _ _ h => h.own⟩
  unfold ironO
  split
  · rename_i hv; exact psOf_len hv (ironed_len xs)
  · simp [psOf]
end Go.Proofs.Ytoipjhdnmiomeaa
