/-
  Chapter 2, the program: the contract of IronedOf.
-/
import Derived.Test.YtoipjhdnmiomeaaCk
namespace Go.Proofs.Ytoipjhdnmiomeaa
open Go.RowKit

/-- Noughts up to v, ps from there on. -/
def lateF (ps : List (Int × Int)) (v : Nat) : List (Int × Int) := List.replicate v (0, 0) ++ ps.drop v
theorem lateF_len (ps : List (Int × Int)) (v : Nat) (hv : v ≤ ps.length) : (lateF ps v).length = ps.length := by simp [lateF]; omega
theorem lateF_all (ps : List (Int × Int)) : lateF ps ps.length = List.replicate ps.length (0, 0) := by simp [lateF]
theorem lateF_zero (ps : List (Int × Int)) : lateF ps 0 = ps := by simp [lateF]
theorem lateF_set (ps : List (Int × Int)) (u : Nat) (x : Int × Int) (hx : ps[u]? = some x) : (lateF ps (u + 1)).set u x = lateF ps u := by
  obtain ⟨hu, rfl⟩ := List.getElem?_eq_some_iff.1 hx
  unfold lateF
  rw [List.replicate_succ', List.append_assoc, List.set_append, if_neg (by simp), List.length_replicate, Nat.sub_self, List.singleton_append, List.set_cons_zero, List.drop_eq_getElem_cons hu]

theorem PairAt.kept2 {w : World} {B C : Nat} {x y : Int} (h : PairAt w B x y) (hne : B ≠ C) (i j : Nat) (u v : Value) : PairAt ((w.setCell ⟨C, i, none⟩ u).setCell ⟨C, j, none⟩ v) B x y := by
  unfold PairAt at *
  rw [Below.heap_setCell _ _ _ _ (by exact hne), Below.heap_setCell _ _ _ _ (by exact hne)]
  exact h

/-- Up to v the ironed values are those of the lesser part. -/
def IronTo (xs : List Int) (v : Nat) : Prop := (ironed xs).take v = ironL xs v v
theorem IronTo.start (xs : List Int) : IronTo xs xs.length := by
  unfold IronTo; rw [List.take_of_length_le (by rw [ironed_len]; omega)]; rfl
theorem IronTo.step {xs : List Int} {v a : Nat} {s : Rat} (h : IronTo xs v) (h1 : 1 ≤ v) (ha : (steep xs v).1 = a) (hs : (steep xs v).2 = s) :
    IronTo xs a ∧ a < v ∧ ∀ u, a ≤ u → u < v → (ironed xs)[u]? = some s := by
  obtain ⟨a1, _⟩ := steep_is xs h1
  rw [ha] at a1
  have e : ironL xs v v = ironL xs (v - 1) a ++ List.replicate (v - a) s := by
    have := ironL_at (w := xs) (f := v - 1) h1
    rw [show v - 1 + 1 = v by omega, ha, hs] at this
    exact this
  have hlen := ironL_len xs (v - 1) a (by omega)
  unfold IronTo at h ⊢
  refine ⟨?_, a1, fun u hu hv => ?_⟩
  · have : (ironed xs).take a = ((ironed xs).take v).take a := by rw [List.take_take, Nat.min_eq_left (by omega)]
    rw [this, h, e, List.take_append_of_le_length (by omega), List.take_of_length_le (by omega)]
    exact ironL_fuel xs _ _ _ (by omega) (Nat.le_refl _)
  · have : (ironed xs)[u]? = ((ironed xs).take v)[u]? := by rw [List.getElem?_take_of_lt hv]
    rw [this, h, e, List.getElem?_append_right (by omega), hlen, List.getElem?_replicate, if_pos (by omega)]

def ironO (xs : List Int) : Option (List Rat) := if vW xs = true then some (ironed xs) else none

theorem steep_bd {xs : List Int} {v : Nat} {n d : Int} (hv : vW xs = true) (h1 : 1 ≤ v) (hl : v ≤ xs.length) (hq : FrIs (steep xs v).2 n d) : -216 ≤ n ∧ n ≤ 216 ∧ 1 ≤ d ∧ d ≤ 36 := by
  obtain ⟨a1, a2, _⟩ := steep_is xs h1
  rw [a2] at hq
  obtain ⟨_, _, h3⟩ := slope_parts hv a1 hl hq
  exact h3

set_option maxHeartbeats 2000000 in
theorem IronedOf_any (A : Option Addr) (c : Nat) (xs : List Int) (w : World) (h : Rd w A c xs) (hcc : xs.length ≤ c) (hl : xs.length ≤ 1048576) :
    Calls Try.prog 22 #[.slice A xs.length c] w (OutF w (ironO xs)) := by
  have HV := Lib.hid (ValidWeights_any A c xs w h (by omega))
  cases hv : vW xs with
  | false =>
    have HE := Lib.hid (show ironO xs = none by unfold ironO; rw [hv]; rfl)
    rw [hv] at HV
    clear hv
    go_enter Try.func22, Try.ntmps22
    go_wp2_with (refine HV.out.mono ?_; rintro e w1 ⟨rfl, rfl⟩)
    go_ret
    exact ⟨Below.refl _ _, .inl ⟨HE.out, rfl⟩⟩
  | true =>
    have HE := Lib.hid (show ironO xs = some (ironed xs) by unfold ironO; rw [hv]; rfl)
    rw [hv] at HV
    have HVV := Lib.hid hv
    obtain ⟨l1, l2⟩ := vW_le hv
    obtain ⟨b, off, rfl⟩ := h.open1 l1
    have HST := Lib.hid (fun v (h1 : 1 ≤ v) (hlt : v ≤ xs.length) w h => steepestFrom_any b off c xs v _ _ _ w h hcc hv h1 hlt rfl (FrIs.self _))
    clear hv
    go_enter Try.func22, Try.ntmps22
    go_wp2_with fail
    refine HV.out.mono ?_
    rintro e w1 ⟨rfl, rfl⟩
    go_wp2_with (at_make; refine wpList_make_fracs rfl _ _ rfl w.heap.size xs.length rfl rfl (by omega) (Nat.le_refl _) ?_; intro w0 ho0 hb0)
    go_loopw [4] (fun i wr => ∃ v : Nat, ∃ ps, v ≤ xs.length ∧ i = .int .i64 v ∧ ps.length = xs.length ∧ OwnF wr w.heap.size (some ⟨w.heap.size, 0, none⟩) xs.length ps ∧ Below w.heap.size w wr ∧ Hid (ps = lateF (frL (ironed xs)) v) ∧ Hid (IronTo xs v))
      (fun i _ => (intOf i).toNat)
    case atStart => exact ⟨xs.length, _, Nat.le_refl _, rfl, List.length_replicate, ho0, hb0, Lib.hid (by have := lateF_all (frL (ironed xs)); rw [frL_len, ironed_len] at this; exact this.symm), Lib.hid (IronTo.start xs)⟩
    case round =>
      obtain ⟨v, ps, hv, rfl, hpl, hown, hb, HP, HT⟩ := hrel
      by_cases hv1 : 1 ≤ v
      · have hr := h.below hb
        have HF := Lib.hid (HST.out v hv1 hv _ hr)
        obtain ⟨to, hto⟩ : ∃ to, (steep xs v).1 = to := ⟨_, rfl⟩
        obtain ⟨n, hn⟩ : ∃ n, (steep xs v).2.num = n := ⟨_, rfl⟩
        obtain ⟨d, hd⟩ : ∃ d, ((steep xs v).2.den : Int) = d := ⟨_, rfl⟩
        obtain ⟨i1, i2, i3⟩ := HT.out.step hv1 hto rfl
        have HI := Lib.hid i1
        have HG := Lib.hid (fun u (h1 : to ≤ u) (h2 : u < v) => show (frL (ironed xs))[u]? = some (n, d) from frL_get (i3 u h1 h2) ⟨hn.symm, hd.symm⟩)
        rw [hto, hn, hd] at HF
        have HPL := Lib.hid hpl
        clear hto hn hd hpl i1 i3
        go_wp2_with fail
        refine HF.out.mono ?_
        rintro e w2 ⟨rfl, hb2⟩
        have hO2 := hown.below hb2
        have hB2 := below_up hb hb2
        have hO3 := hO2.below (below_al w2 (.cells #[.int .i64 n, .int .i64 d] 30))
        have hB3 := below_up hB2 (below_al w2 (.cells #[.int .i64 n, .int .i64 d] 30))
        have hPA := PairAt.new (w := w2) (x := n) (y := d)
        have hlt2 : w.heap.size < w2.heap.size := hO2.lt
        clear hown hO2
        unfold frV
        go_wp2
        go_loopw [4] (fun i wr => ∃ u : Nat, ∃ ps', to ≤ u ∧ u ≤ v ∧ i = .int .i64 u ∧ ps'.length = xs.length ∧ OwnF wr w.heap.size (some ⟨w.heap.size, 0, none⟩) xs.length ps' ∧ Below w.heap.size w wr ∧ PairAt wr w2.heap.size n d ∧ Hid (ps' = lateF (frL (ironed xs)) u))
          (fun i _ => (intOf i).toNat - to)
        case atStart => exact ⟨v, ps, by omega, Nat.le_refl _, rfl, HPL.out, hO3, hB3, hPA, HP⟩
        case round =>
          obtain ⟨u, ps', hu1, hu2, rfl, hpl', hown', hb', hPA', HP'⟩ := hrel
          by_cases hut : to < u
          · obtain ⟨m, rfl⟩ : ∃ m, u = m + 1 := ⟨u - 1, by omega⟩
            have em : (((m + 1 : Nat) : Int) - 1) = (m : Int) := by omega
            have hm1 : m < xs.length := by omega
            have hm2 : (m : Int) < (xs.length : Int) := by omega
            have HS := Lib.hid (show ps'.set m (n, d) = lateF (frL (ironed xs)) m by rw [HP'.out]; exact lateF_set _ _ _ (HG.out m (by omega) (by omega)))
            obtain ⟨⟨x, y⟩, hx⟩ : ∃ q, ps'[m]? = some q := ⟨ps'[m]'(by omega), List.getElem?_eq_getElem (by omega)⟩
            obtain ⟨c0, c1⟩ := hown'.cell hx
            have f0 := hown'.free (m * 2)
            have f1 := hown'.free (m * 2 + 1)
            obtain ⟨c2, c3, _, _⟩ := hPA'.facts
            have HO := Lib.hid (hown'.set_ m n d)
            have HPL' := Lib.hid hpl'
            have hge := hown'.ge
            have hne : w2.heap.size ≠ w.heap.size := by omega
            have HPA := Lib.hid (hPA'.kept2 hne (m * 2) (m * 2 + 1) (.int .i64 n) (.int .i64 d))
            clear hown' hpl' hx
            go_wp2
            go_roundw
            case rel => exact ⟨m, _, by omega, by omega, rfl, by rw [List.length_set, HPL'.out], HO.out, (hb'.setCell (Nat.le_refl _) _).setCell (Nat.le_refl _) _, HPA.out, HS⟩
            case measure => simp [intOf] <;> omega
          · obtain rfl : u = to := by omega
            go_wp2
            go_roundw
            case rel => exact ⟨u, ps', by omega, rfl, hpl', hown', hb', HP', HI⟩
            case measure => simp [intOf] <;> omega
      · obtain rfl : v = 0 := by omega
        have e2 : (frL (ironed xs)).length = xs.length := by rw [frL_len, ironed_len]
        have HE2 := Lib.hid (show ps = frL (ironed xs) by rw [HP.out, lateF_zero])
        have HE3 := Lib.hid e2
        clear e2
        go_wp2
        go_ret
        exact ⟨hb, .inr ⟨_, _, _, HE.out, by rw [HE3.out]; rfl, HE2.out ▸ hown⟩⟩
end Go.Proofs.Ytoipjhdnmiomeaa
