/-
  Chapter 2: the contracts of VirtualOf, of the program and of the model.
-/
import Derived.Test.YtoipjhdnmiomeaaFs
namespace Go.Proofs.Ytoipjhdnmiomeaa
open Go.RowKit

/-- Fractions as pairs. -/
def frL (qs : List Rat) : List (Int × Int) := qs.map fun q => (q.num, (q.den : Int))
theorem frL_len (qs : List Rat) : (frL qs).length = qs.length := by simp [frL]
theorem frL_at {qs : List Rat} {k : Nat} {x y : Int} (h : (frL qs)[k]? = some (x, y)) : ∃ q, qs[k]? = some q ∧ FrIs q x y := by
  unfold frL at h
  rw [List.getElem?_map] at h
  cases hq : qs[k]? with
  | none => rw [hq] at h; cases h
  | some q => rw [hq] at h; simp at h; exact ⟨q, rfl, h.1.symm, h.2.symm⟩
theorem frL_get {qs : List Rat} {k : Nat} {q : Rat} {x y : Int} (hq : qs[k]? = some q) (h : FrIs q x y) : (frL qs)[k]? = some (x, y) := by
  unfold frL
  rw [List.getElem?_map, hq, h.1, h.2]; rfl

/-- ps up to k, noughts behind. -/
def fillF (ps : List (Int × Int)) (k : Nat) : List (Int × Int) := ps.take k ++ List.replicate (ps.length - k) (0, 0)
theorem fillF_len (ps : List (Int × Int)) (k : Nat) (hk : k ≤ ps.length) : (fillF ps k).length = ps.length := by simp [fillF]; omega
theorem fillF_zero (ps : List (Int × Int)) : fillF ps 0 = List.replicate ps.length (0, 0) := by simp [fillF]
theorem fillF_all (ps : List (Int × Int)) : fillF ps ps.length = ps := by simp [fillF]
theorem fillF_set (ps : List (Int × Int)) (k : Nat) (x : Int × Int) (hx : ps[k]? = some x) : (fillF ps k).set k x = fillF ps (k + 1) := by
  obtain ⟨hk, rfl⟩ := List.getElem?_eq_some_iff.1 hx
  apply List.ext_getElem?
  intro j
  simp only [fillF, List.getElem?_set, List.getElem?_append, List.length_append, List.length_take, List.length_replicate, List.getElem?_take, List.getElem?_replicate]
  rcases Nat.lt_trichotomy j k with h | h | h
  · simp [show ¬ k = j by omega, show j < min k ps.length by omega, show j < min (k + 1) ps.length by omega, h, show j < k + 1 by omega]
  · subst h
    simp [show j < min (j + 1) ps.length by omega, show j < min j ps.length + (ps.length - j) by omega, hk]
  · simp [show ¬ k = j by omega, show ¬ j < min k ps.length by omega, show ¬ j < min (k + 1) ps.length by omega]
    have e1 : j - min k ps.length < ps.length - k ↔ j - min (k + 1) ps.length < ps.length - (k + 1) := by omega
    by_cases hh : j - min k ps.length < ps.length - k
    · rw [if_pos hh, if_pos (e1.1 hh)]
    · rw [if_neg hh, if_neg (fun x => hh (e1.2 x))]

/-- The virtual values of all values. -/
def virtL (xs : List Int) : List Rat := (List.range xs.length).map (virtQ xs)
theorem virtL_len (xs : List Int) : (virtL xs).length = xs.length := by simp [virtL]
theorem virtL_at {xs : List Int} {k : Nat} (h : k < xs.length) : (virtL xs)[k]? = some (virtQ xs k) := by simp [virtL, h]
theorem virtL_take {xs : List Int} {k : Nat} (h : k < xs.length) : (virtL xs).take (k + 1) = (virtL xs).take k ++ [virtQ xs k] := by rw [List.take_add_one, virtL_at h]; rfl

/-- What a call hands back: nil, or fractions in a block of its own; what was there is as it was. -/
def OutF (w : World) (o : Option (List Rat)) (e : Ending) (w' : World) : Prop :=
  Below w.heap.size w w' ∧ ((o = none ∧ e = .returned (.slice none 0 0)) ∨ ∃ qs g c, o = some qs ∧ e = .returned (.slice (some ⟨g, 0, none⟩) (frL qs).length c) ∧ OwnF w' w.heap.size (some ⟨g, 0, none⟩) c (frL qs))

def virtO (xs : List Int) : Option (List Rat) := if vW xs = true then some (virtL xs) else none

set_option maxHeartbeats 1000000 in
theorem SVirtualOf_any (A : Option Addr) (c : Nat) (xs : List Int) (w : World) (h : Rd w A c xs) (hl : xs.length ≤ 1048576) :
    Calls Try.prog 25 #[.slice A xs.length c] w (OutF w (virtO xs)) := by
  have HV := Lib.hid (validWeights_any A c xs w h (by omega))
  cases hv : vW xs with
  | false =>
    have HE := Lib.hid (show virtO xs = none by unfold virtO; rw [hv]; rfl)
    rw [hv] at HV
    clear hv
    go_enter Try.func25, Try.ntmps25
    go_wp2_with (refine HV.out.mono ?_; rintro e w1 ⟨rfl, rfl⟩)
    go_ret
    exact ⟨Below.refl _ _, .inl ⟨HE.out, rfl⟩⟩
  | true =>
    have HE := Lib.hid (show virtO xs = some (virtL xs) by unfold virtO; rw [hv]; rfl)
    rw [hv] at HV
    have HVV := Lib.hid hv
    obtain ⟨l1, l2⟩ := vW_le hv
    have HS := Lib.hid (fun v (hlt : v < xs.length) w h => Svirtual_any A c xs v _ _ w h hv hlt (FrIs.self _))
    clear hv
    have hempty := OwnF.empty w
    have HEm := Lib.hid hempty
    clear hempty
    go_enter Try.func25, Try.ntmps25
    go_wp2_with fail
    refine HV.out.mono ?_
    rintro e w1 ⟨rfl, rfl⟩
    go_wp2
    go_loopw [3, 4] (fun s i wr => ∃ k g c' : Nat, ∃ ps, k ≤ xs.length ∧ i = .int .i64 k ∧ ps.length = k ∧ s = .slice (some ⟨g, 0, none⟩) k c' ∧ OwnF wr w.heap.size (some ⟨g, 0, none⟩) c' ps ∧ Below w.heap.size w wr ∧ Hid (ps = frL ((virtL xs).take k)))
      (fun _ i _ => xs.length - (intOf i).toNat)
    case atStart => exact ⟨0, w.heap.size, 0, [], Nat.zero_le _, rfl, rfl, rfl, HEm.out, below_al _ _, Lib.hid rfl⟩
    case round =>
      obtain ⟨k, g, c', ps, hk, rfl, hpl, rfl, hown, hb, HP⟩ := hrel
      by_cases hlt : k < xs.length
      · have HF := Lib.hid (HS.out k hlt)
        generalize hx : (virtQ xs k).num = x at HF
        generalize hy : ((virtQ xs k).den : Int) = y at HF
        have HP2 := Lib.hid (show ps ++ [(x, y)] = frL ((virtL xs).take (k + 1)) by
          rw [virtL_take hlt, HP.out]; unfold frL; rw [List.map_append, ← hx, ← hy]; rfl)
        have HPL := Lib.hid hpl
        clear hx hy hpl
        have hr := h.below hb
        go_wp2_with fail
        refine (HF.out _ hr).mono ?_
        rintro e w2 ⟨rfl, hb2⟩
        have HO2 := Lib.hid ((hown.below hb2).below (below_al w2 (.cells #[.int .i64 x, .int .i64 y] 30)))
        have hB2 := below_up (below_up hb hb2) (below_al w2 (.cells #[.int .i64 x, .int .i64 y] 30))
        have hsz := hB2.size
        obtain ⟨c0, c1, _, _⟩ := (PairAt.new (w := w2) (x := x) (y := y)).facts
        have hge := hown.ge
        clear hown
        unfold frV
        go_wp2_with (at_builtin; refine wpList_append_frac rfl _ _ rfl w.heap.size _ c' ps k HPL.out rfl HO2.out w2.heap.size 1 x y rfl c0 c1 (by omega) hsz ?_; intro g3 c3 w3 ho3 hg3)
        have hB3 := hB2.grown hg3 hsz (fun j hj => by simp [ofA] at hj; omega)
        go_roundw
        case rel => exact ⟨k + 1, g3, c3, _, by omega, by go_num, by simp [HPL.out], rfl, ho3, hB3, HP2⟩
        case measure => simp [intOf] <;> omega
      · obtain rfl : k = xs.length := by omega
        have HE2 := Lib.hid (show ps = frL (virtL xs) by rw [HP.out, List.take_of_length_le (by rw [virtL_len]; omega)])
        go_wp2
        go_ret
        have e2 : (frL (virtL xs)).length = xs.length := by rw [frL_len, virtL_len]
        exact ⟨hb, .inr ⟨_, g, c', HE.out, by rw [e2]; rfl, HE2.out ▸ hown⟩⟩

set_option maxHeartbeats 1000000 in
theorem VirtualOf_any (A : Option Addr) (c : Nat) (xs : List Int) (w : World) (h : Rd w A c xs) (hcc : xs.length ≤ c) (hl : xs.length ≤ 1048576) :
    Calls Try.prog 18 #[.slice A xs.length c] w (OutF w (virtO xs)) := by
  have HV := Lib.hid (ValidWeights_any A c xs w h (by omega))
  cases hv : vW xs with
  | false =>
    have HE := Lib.hid (show virtO xs = none by unfold virtO; rw [hv]; rfl)
    rw [hv] at HV
    clear hv
    go_enter Try.func18, Try.ntmps18
    go_wp2_with (refine HV.out.mono ?_; rintro e w1 ⟨rfl, rfl⟩)
    go_ret
    exact ⟨Below.refl _ _, .inl ⟨HE.out, rfl⟩⟩
  | true =>
    have HE := Lib.hid (show virtO xs = some (virtL xs) by unfold virtO; rw [hv]; rfl)
    rw [hv] at HV
    have HVV := Lib.hid hv
    obtain ⟨l1, l2⟩ := vW_le hv
    obtain ⟨b, off, rfl⟩ := h.open1 l1
    have HM := Lib.hid (fun v (hlt : v ≤ 6) w h => manyFrom_any b off c xs v w h hcc (by omega) (by omega) (vW_small hv))
    clear hv
    go_enter Try.func18, Try.ntmps18
    go_wp2_with fail
    refine HV.out.mono ?_
    rintro e w1 ⟨rfl, rfl⟩
    go_wp2_with (at_make; refine wpList_make_fracs rfl _ _ rfl w.heap.size xs.length rfl rfl (by omega) (Nat.le_refl _) ?_; intro w0 ho0 hb0)
    go_loopw [14] (fun i wr => ∃ k : Nat, ∃ ps, k ≤ xs.length ∧ i = .int .i64 k ∧ ps.length = xs.length ∧ OwnF wr w.heap.size (some ⟨w.heap.size, 0, none⟩) xs.length ps ∧ Below w.heap.size w wr ∧ Hid (ps = fillF (frL (virtL xs)) k))
      (fun i _ => xs.length - (intOf i).toNat)
    case atStart => exact ⟨0, _, Nat.zero_le _, rfl, List.length_replicate, ho0, hb0, Lib.hid (by rw [fillF_zero, frL_len, virtL_len])⟩
    case round =>
      obtain ⟨k, ps, hk, rfl, hpl, hown, hb, HP⟩ := hrel
      by_cases hlt : k < xs.length
      · have hr := h.below hb
        obtain ⟨b', off', x, e', _, hx, hc⟩ := hr.at_ hlt
        injection e' with e'
        injection e' with e1 e2
        subst e1 e2
        obtain ⟨n, hn⟩ : ∃ n, n = (virtQ xs k).num := ⟨_, rfl⟩
        obtain ⟨d, hd⟩ : ∃ d, d = ((virtQ xs k).den : Int) := ⟨_, rfl⟩
        obtain ⟨p1, p2, p3, p4, p5⟩ := virt_parts HVV.out hx.out (show FrIs (virtQ xs k) n d from ⟨hn, hd⟩)
        obtain ⟨t1, t2⟩ := rev_b HVV.out (k + 1)
        have HM2 := Lib.hid (HM.out (k + 1) (by omega) _ hr)
        generalize tailW xs (k + 1) = T at p1 HM2 t1 t2
        have HC := Lib.hid (fun w => fracOf_any _ _ _ _ w p1 p2 (by omega) (by omega) (by omega))
        have HG := Lib.hid (show (frL (virtL xs))[k]? = some (n, d) from frL_get (virtL_at hlt) ⟨hn, hd⟩)
        have HP2 := Lib.hid (show ps.set k (n, d) = fillF (frL (virtL xs)) (k + 1) by rw [HP.out, fillF_set _ _ _ HG.out])
        have HPL := Lib.hid hpl
        obtain ⟨⟨u, v⟩, hu⟩ : ∃ q, ps[k]? = some q := ⟨ps[k]'(by omega), List.getElem?_eq_getElem (by omega)⟩
        have HU := Lib.hid hu
        clear p1 hn hd hpl hu
        go_wp2_with fail
        refine HM2.out.mono ?_
        rintro e w2 ⟨rfl, rfl⟩
        go_wp2_with fail
        refine (HC.out _).mono ?_
        rintro e w2 ⟨rfl, hb2⟩
        have hO2 := hown.below hb2
        have hB2 := below_up hb hb2
        obtain ⟨c0, c1⟩ := hO2.cell HU.out
        have f0 := hO2.free (k * 2)
        have f1 := hO2.free (k * 2 + 1)
        have HO3 := Lib.hid (hO2.set_ k n d)
        have hge := hown.ge
        clear hown hO2
        unfold frV
        go_wp2
        go_roundw
        case rel => exact ⟨k + 1, _, by omega, by go_num, by rw [List.length_set, HPL.out], HO3.out, (hB2.setCell hge _).setCell hge _, HP2⟩
        case measure => simp [intOf] <;> omega
      · obtain rfl : k = xs.length := by omega
        have e2 : (frL (virtL xs)).length = xs.length := by rw [frL_len, virtL_len]
        have HE2 := Lib.hid (show ps = frL (virtL xs) by have e3 := fillF_all (frL (virtL xs)); rw [e2] at e3; rw [HP.out, e3])
        have HE3 := Lib.hid e2
        clear e2
        go_wp2
        go_ret
        exact ⟨hb, .inr ⟨_, _, _, HE.out, by rw [HE3.out]; rfl, HE2.out ▸ hown⟩⟩
end Go.Proofs.Ytoipjhdnmiomeaa
