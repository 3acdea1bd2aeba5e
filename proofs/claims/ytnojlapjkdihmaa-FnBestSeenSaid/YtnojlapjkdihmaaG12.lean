/-
  Chapter 11, plain arithmetic: what is taken at stages, the greatest of all, and half of it.
-/
import Derived.Test.YtnojlapjkdihmaaG10
import Derived.Test.YtnojlapjkdihmaaG11
import Derived.Test.YtnojlapjkdihmaaMem
import Derived.Deep.RegionWith
namespace Go.Proofs.Ytnojlapjkdihmaa

/-- The mean of f over the values of w. -/
def meanV (w : List Int) (f : Nat → Rat) : Rat := sumR w.length (fun v => (wt w v : Rat) * f v) / (tailW w 0 : Rat)

theorem tot_pos {w : List Int} (hw : validW w = true) : 1 ≤ tailW w 0 := by
  have h1 := validW_len1 hw
  have h2 := tailW_lt hw (u := 0) (v := w.length) (by omega) (Nat.le_refl _)
  rw [tailW_end w w.length (Nat.le_refl _)] at h2
  omega
theorem tot_posQ {w : List Int} (hw : validW w = true) : (0 : Rat) < (tailW w 0 : Rat) := Rat.intCast_pos.2 (by have := tot_pos hw; omega)
theorem wt_nnQ {w : List Int} (hw : validW w = true) (v : Nat) : (0 : Rat) ≤ (wt w v : Rat) := Rat.intCast_nonneg.2 (validW_nn hw v)
theorem meanV_tot {w : List Int} (hw : validW w = true) (f : Nat → Rat) : meanV w f * (tailW w 0 : Rat) = sumR w.length (fun v => (wt w v : Rat) * f v) := by
  unfold meanV
  exact Rat.div_mul_cancel (by have := tot_posQ hw; grind)
theorem meanV_congr {w : List Int} {f g : Nat → Rat} (h : ∀ v, v < w.length → f v = g v) : meanV w f = meanV w g := by
  unfold meanV
  rw [sumR_congr (g := fun v => (wt w v : Rat) * g v) (fun v hv => by rw [h v hv])]
theorem meanV_mono {w : List Int} (hw : validW w = true) {f g : Nat → Rat} (h : ∀ v, v < w.length → f v ≤ g v) : meanV w f ≤ meanV w g := by
  have h1 := meanV_tot hw f
  have h2 := meanV_tot hw g
  have h3 := sumR_le (n := w.length) (f := fun v => (wt w v : Rat) * f v) (g := fun v => (wt w v : Rat) * g v) fun v hv => Rat.mul_le_mul_of_nonneg_left (h v hv) (wt_nnQ hw v)
  rw [← h1, ← h2] at h3
  exact Rat.le_of_mul_le_mul_right h3 (tot_posQ hw)
theorem meanV_const {w : List Int} (hw : validW w = true) (c : Rat) : meanV w (fun _ => c) = c := by
  have h1 := wt_tele w 0 c
  rw [sumR_congr (g := fun x => (wt w x : Rat) * c) (fun x _ => by rw [if_pos (Nat.zero_le x)])] at h1
  unfold meanV
  rw [h1, Rat.mul_comm]
  exact Rat.mul_div_cancel (by have := tot_posQ hw; grind)
theorem meanV_add {w : List Int} (f g : Nat → Rat) : meanV w (fun v => f v + g v) = meanV w f + meanV w g := by
  unfold meanV
  rw [sumR_congr (g := fun v => (wt w v : Rat) * f v + (wt w v : Rat) * g v) (fun v _ => by grind), sumR_add, Rat.div_def, Rat.div_def, Rat.div_def, Rat.add_mul]
theorem meanV_mul {w : List Int} (c : Rat) (f : Nat → Rat) : meanV w (fun v => c * f v) = c * meanV w f := by
  unfold meanV
  rw [sumR_congr (g := fun v => c * ((wt w v : Rat) * f v)) (fun v _ => by grind), sumR_mul, Rat.div_def, Rat.div_def, Rat.mul_assoc]

/-- What is had at a stage with an edge, where what is had behind it is r. -/
def takeQ (e r : Rat) (v : Nat) : Rat := if (v : Rat) < e then r else (v : Rat)
def meanQ (w : List Int) (e r : Rat) : Rat := meanV w (takeQ e r)
/-- What is had from stages on, the edge told by what is had behind. -/
def byQ (e : Rat → Rat) : List (List Int) → Rat
  | [] => 0
  | w :: ws => meanQ w (e (byQ e ws)) (byQ e ws)
/-- The mean of the greatest value, m among them. -/
def seenQ : List (List Int) → Nat → Rat
  | [], m => (m : Rat)
  | w :: ws, m => meanV w (fun v => seenQ ws (max m v))

def VS (rows : List (List Int)) : Prop := ∀ w ∈ rows, validW w = true
theorem VS.head {w : List Int} {ws : List (List Int)} (h : VS (w :: ws)) : validW w = true := h w (List.mem_cons_self ..)
theorem VS.tail {w : List Int} {ws : List (List Int)} (h : VS (w :: ws)) : VS ws := fun x hx => h x (List.mem_cons_of_mem _ hx)

theorem natQ_le {a b : Nat} (h : a ≤ b) : (a : Rat) ≤ (b : Rat) := by
  have : ((a : Int) : Rat) ≤ ((b : Int) : Rat) := Rat.intCast_le_intCast.2 (by omega)
  exact this
theorem natQ_nn (a : Nat) : (0 : Rat) ≤ (a : Rat) := natQ_le (Nat.zero_le a)

theorem seen_mono : ∀ (ws : List (List Int)) (m m' : Nat), VS ws → m ≤ m' → seenQ ws m ≤ seenQ ws m'
  | [], m, m', _, h => natQ_le h
  | w :: ws, m, m', hv, h => meanV_mono hv.head fun v _ => seen_mono ws _ _ hv.tail (by omega)
theorem seen_ge : ∀ (ws : List (List Int)) (m : Nat), VS ws → (m : Rat) ≤ seenQ ws m
  | [], m, _ => Rat.le_refl
  | w :: ws, m, hv => by
    have h := meanV_mono hv.head (f := fun _ => (m : Rat)) (g := fun v => seenQ ws (max m v)) fun v _ => Rat.le_trans (natQ_le (by omega)) (seen_ge ws _ hv.tail)
    rw [meanV_const hv.head] at h
    exact h
theorem seen_le : ∀ (ws : List (List Int)) (m M : Nat), VS ws → m ≤ M → (∀ w ∈ ws, w.length ≤ M + 1) → seenQ ws m ≤ (M : Rat)
  | [], m, M, _, h, _ => natQ_le h
  | w :: ws, m, M, hv, h, hl => by
    have h1 := hl w (List.mem_cons_self ..)
    have h := meanV_mono hv.head (f := fun v => seenQ ws (max m v)) (g := fun _ => (M : Rat)) fun v hv' => seen_le ws _ M hv.tail (by omega) fun x hx => hl x (List.mem_cons_of_mem _ hx)
    rw [meanV_const hv.head] at h
    exact h

theorem by_nn (e : Rat → Rat) : ∀ (ws : List (List Int)), VS ws → 0 ≤ byQ e ws
  | [], _ => Rat.le_refl
  | w :: ws, hv => by
    have i := by_nn e ws hv.tail
    have h := meanV_mono hv.head (f := fun _ => (0 : Rat)) (g := takeQ (e (byQ e ws)) (byQ e ws)) fun v _ => by
      unfold takeQ; split
      · exact i
      · exact natQ_nn v
    rw [meanV_const hv.head] at h
    exact h

/-- P67: all that is seen is at least what is taken at best. -/
theorem best_le_seen : ∀ (ws : List (List Int)), VS ws → byQ id ws ≤ seenQ ws 0
  | [], _ => Rat.le_refl
  | w :: ws, hv => meanV_mono hv.head fun v _ => by
    have i := best_le_seen ws hv.tail
    unfold takeQ; split
    · exact Rat.le_trans i (seen_mono ws _ _ hv.tail (by omega))
    · exact Rat.le_trans (natQ_le (by omega)) (seen_ge ws _ hv.tail)
/-- P68: the best stop is at least any edge. -/
theorem edge_le_best (e : Rat) : ∀ (ws : List (List Int)), VS ws → byQ (fun _ => e) ws ≤ byQ id ws
  | [], _ => Rat.le_refl
  | w :: ws, hv => meanV_mono hv.head fun v _ => by
    have i := edge_le_best e ws hv.tail
    show takeQ e (byQ (fun _ => e) ws) v ≤ takeQ (byQ id ws) (byQ id ws) v
    unfold takeQ
    generalize byQ (fun _ => e) ws = x at *
    generalize byQ id ws = y at *
    split <;> split <;> grind
theorem best_more {w : List Int} {ws : List (List Int)} (hv : VS (w :: ws)) : byQ id ws ≤ byQ id (w :: ws) := by
  have h := meanV_mono hv.head (f := fun _ => byQ id ws) (g := takeQ (byQ id ws) (byQ id ws)) fun v _ => by
    unfold takeQ
    generalize byQ id ws = y
    split <;> grind
  rw [meanV_const hv.head] at h
  exact h
/-- P69: an edge of nothing takes the first, one greater than all none. -/
theorem edge_zero {w : List Int} {ws : List (List Int)} : byQ (fun _ => 0) (w :: ws) = meanV w (fun v => (v : Rat)) :=
  meanV_congr fun v _ => by
    have := natQ_nn v
    unfold takeQ; rw [if_neg (by grind)]
theorem edge_high_none (e : Rat) : ∀ (ws : List (List Int)), VS ws → (∀ w ∈ ws, ∀ v, v < w.length → (v : Rat) < e) → byQ (fun _ => e) ws = 0
  | [], _, _ => rfl
  | w :: ws, hv, h => by
    show meanV w _ = 0
    rw [edge_high_none e ws hv.tail fun x hx => h x (List.mem_cons_of_mem _ hx)]
    rw [meanV_congr (g := fun _ => (0 : Rat)) fun v hv' => by unfold takeQ; rw [if_pos (h w (List.mem_cons_self ..) v hv')]]
    exact meanV_const hv.head 0

/-- How much more than e is seen at all stages together. -/
def overQ (e : Rat) : List (List Int) → Rat
  | [] => 0
  | w :: ws => meanV w (takeQ e e) - e + overQ e ws
/-- How sure it is that all values are below e. -/
def noneQ (e : Rat) : List (List Int) → Rat
  | [] => 1
  | w :: ws => meanV w (fun v => if (v : Rat) < e then 1 else 0) * noneQ e ws

theorem overW_nn (e : Rat) {w : List Int} (hw : validW w = true) : 0 ≤ meanV w (takeQ e e) - e := by
  have h := meanV_mono hw (f := fun _ => e) (g := takeQ e e) fun v _ => by unfold takeQ; split <;> grind
  rw [meanV_const hw] at h
  grind
theorem overs_nn (e : Rat) : ∀ (ws : List (List Int)), VS ws → 0 ≤ overQ e ws
  | [], _ => Rat.le_refl
  | w :: ws, hv => by
    have i := overs_nn e ws hv.tail
    have h := overW_nn e hv.head
    rw [overQ]; grind
theorem none_bd (e : Rat) {w : List Int} (hw : validW w = true) : 0 ≤ meanV w (fun v => if (v : Rat) < e then 1 else 0) ∧ meanV w (fun v => if (v : Rat) < e then 1 else 0) ≤ 1 := by
  have h1 := meanV_mono hw (f := fun _ => (0 : Rat)) (g := fun v => if (v : Rat) < e then 1 else 0) fun v _ => by split <;> grind
  have h2 := meanV_mono hw (f := fun v => if (v : Rat) < e then 1 else 0) (g := fun _ => (1 : Rat)) fun v _ => by split <;> grind
  rw [meanV_const hw] at h1 h2
  exact ⟨h1, h2⟩
theorem nones_bd (e : Rat) : ∀ (ws : List (List Int)), VS ws → 0 ≤ noneQ e ws ∧ noneQ e ws ≤ 1
  | [], _ => by rw [noneQ]; decide
  | w :: ws, hv => by
    obtain ⟨i1, i2⟩ := nones_bd e ws hv.tail
    obtain ⟨h1, h2⟩ := none_bd e hv.head
    rw [noneQ]
    generalize meanV w (fun v => if (v : Rat) < e then 1 else 0) = p at *
    generalize noneQ e ws = q at *
    have m1 := Rat.mul_nonneg h1 i1
    have m2 := Rat.mul_le_mul_of_nonneg_left i2 h1
    refine ⟨m1, ?_⟩
    grind

/-- What is had by an edge is at least it, as sure as something is had, and all that is seen above it, as sure as nothing is. -/
theorem edge_ge (e : Rat) : ∀ (ws : List (List Int)), VS ws → (1 - noneQ e ws) * e + noneQ e ws * overQ e ws ≤ byQ (fun _ => e) ws
  | [], _ => by rw [noneQ, overQ, byQ]; grind
  | w :: ws, hv => by
    have i := edge_ge e ws hv.tail
    obtain ⟨q1, q2⟩ := nones_bd e ws hv.tail
    obtain ⟨p1, p2⟩ := none_bd e hv.head
    have o1 := overW_nn e hv.head
    have o2 := overs_nn e ws hv.tail
    show _ ≤ meanV w (takeQ e (byQ (fun _ => e) ws))
    have k : meanV w (takeQ e (byQ (fun _ => e) ws)) = meanV w (takeQ e e) + (byQ (fun _ => e) ws - e) * meanV w (fun v => if (v : Rat) < e then 1 else 0) := by
      rw [← meanV_mul, ← meanV_add]
      refine meanV_congr fun v _ => ?_
      unfold takeQ
      split <;> grind
    rw [k, noneQ, overQ]
    generalize meanV w (takeQ e e) = t at *
    generalize meanV w (fun v => if (v : Rat) < e then 1 else 0) = p at *
    generalize noneQ e ws = q at *
    generalize overQ e ws = x at *
    generalize byQ (fun _ => e) ws = b at *
    -- t - e + p (b - e) >= (t - e) + p (q (x - e)) >= p q (t - e) + p q (x - e)
    have m1 := Rat.mul_le_mul_of_nonneg_left i p1
    have m2 : p * q ≤ 1 := by have := Rat.mul_le_mul_of_nonneg_left q2 p1; grind
    have m3 : 0 ≤ p * q := Rat.mul_nonneg p1 q1
    have m4 := Rat.mul_le_mul_of_nonneg_right m2 o1
    grind

/-- All that is seen is at most e, or m, and what is above e. -/
theorem seen_over (e : Rat) : ∀ (ws : List (List Int)) (m : Nat), VS ws → seenQ ws m ≤ takeQ e e m + overQ e ws
  | [], m, _ => by rw [seenQ, overQ]; unfold takeQ; split <;> grind
  | w :: ws, m, hv => by
    rw [seenQ, overQ]
    have h := meanV_mono hv.head (f := fun v => seenQ ws (max m v)) (g := fun v => (takeQ e e m - e + overQ e ws) + takeQ e e v) fun v _ => by
      have i := seen_over e ws (max m v) hv.tail
      refine Rat.le_trans i ?_
      rcases Nat.le_total m v with hm | hm
      · rw [Nat.max_eq_right hm]
        have := natQ_le hm
        unfold takeQ
        split <;> split <;> grind
      · rw [Nat.max_eq_left hm]
        have := natQ_le hm
        unfold takeQ
        split <;> split <;> grind
    rw [meanV_add, meanV_const hv.head] at h
    grind

/-- P70: half of the best is sure. -/
theorem half_sure {ws : List (List Int)} (hv : VS ws) {e : Rat} (he : 2 * e = seenQ ws 0) : seenQ ws 0 ≤ 2 * byQ (fun _ => e) ws := by
  have h0 := seen_ge ws 0 hv
  have z : ((0 : Nat) : Rat) = 0 := rfl
  rw [z] at h0
  have h1 := seen_over e ws 0 hv
  have h2 := edge_ge e ws hv
  obtain ⟨q1, q2⟩ := nones_bd e ws hv
  have t : takeQ e e 0 = e := by
    unfold takeQ; rw [z]; split
    · rfl
    · grind
  rw [t] at h1
  generalize overQ e ws = x at *
  generalize noneQ e ws = q at *
  generalize byQ (fun _ => e) ws = b at *
  have m := Rat.mul_le_mul_of_nonneg_left (show e ≤ x by grind) q1
  grind
end Go.Proofs.Ytnojlapjkdihmaa

/-
  Lists of numbers one after the other, as the last place counts fastest: what comes next, how many are to come, all of them.
-/
namespace Go.Proofs.Ytnojlapjkdihmaa
open Go.RowKit

/-- The bids that follow, the least digit first; none behind the last. -/
def nextR : List Int → Int → Option (List Int)
  | [], _ => none
  | x :: xs, top => if x < top then some ((x + 1) :: xs) else (nextR xs top).map (0 :: ·)
def nextF (xs : List Int) (top : Int) : Option (List Int) := (nextR xs.reverse top).map List.reverse

theorem nextF_nil (top : Int) : nextF [] top = none := rfl
theorem nextF_snoc (xs : List Int) (x top : Int) : nextF (xs ++ [x]) top = if x < top then some (xs ++ [x + 1]) else (nextF xs top).map (· ++ [0]) := by
  unfold nextF
  rw [List.reverse_append]
  simp only [List.reverse_cons, List.reverse_nil, List.nil_append, List.singleton_append, nextR]
  split
  · simp
  · cases nextR xs.reverse top <;> simp

/-- How many are still to come. -/
def leftR : List Int → Int → Nat
  | [], _ => 0
  | x :: xs, top => (top - x).toNat + (top.toNat + 1) * leftR xs top
theorem leftR_lt : ∀ (xs ys : List Int) (top : Int), 0 ≤ top → (∀ x ∈ xs, 0 ≤ x ∧ x ≤ top) → nextR xs top = some ys → leftR ys top < leftR xs top ∧ (∀ x ∈ ys, 0 ≤ x ∧ x ≤ top) ∧ ys.length = xs.length
  | [], ys, top, _, _, h => by simp [nextR] at h
  | x :: xs, ys, top, h0, hx, h => by
    rw [nextR] at h
    have hxx := hx x (by simp)
    split at h
    · have h := Option.some.inj h
      subst h
      refine ⟨?_, ?_, by simp⟩
      · simp only [leftR]; omega
      · intro z hz
        rcases List.mem_cons.1 hz with h | h
        · subst h; omega
        · exact hx z (by simp [h])
    · cases hn : nextR xs top with
      | none => rw [hn] at h; simp at h
      | some zs =>
        rw [hn] at h
        have h : 0 :: zs = ys := by simpa using h
        subst h
        obtain ⟨h1, h2, h3⟩ := leftR_lt xs zs top h0 (fun z hz => hx z (by simp [hz])) hn
        refine ⟨?_, ?_, by simp [h3]⟩
        · simp only [leftR]
          have hxt : (top - x).toNat = 0 := by omega
          have h4 : (top - 0).toNat = top.toNat := by omega
          have h5 : leftR xs top = leftR zs top + 1 + (leftR xs top - leftR zs top - 1) := by omega
          rw [hxt, h4, h5, Nat.mul_add, Nat.mul_add]
          omega
        · intro z hz
          rcases List.mem_cons.1 hz with h | h
          · subst h; omega
          · exact h2 z h

def leftF (xs : List Int) (top : Int) : Nat := leftR xs.reverse top
theorem leftF_lt {xs ys : List Int} {top : Int} (h0 : 0 ≤ top) (hx : ∀ x ∈ xs, 0 ≤ x ∧ x ≤ top) (h : nextF xs top = some ys) : leftF ys top < leftF xs top ∧ (∀ x ∈ ys, 0 ≤ x ∧ x ≤ top) ∧ ys.length = xs.length := by
  unfold nextF at h
  cases hn : nextR xs.reverse top with
  | none => rw [hn] at h; simp at h
  | some zs =>
    rw [hn] at h
    have h : zs.reverse = ys := by simpa using h
    subst h
    obtain ⟨h1, h2, h3⟩ := leftR_lt xs.reverse zs top h0 (fun z hz => hx z (by simpa using hz)) hn
    exact ⟨by unfold leftF; rw [List.reverse_reverse]; exact h1, fun z hz => h2 z (by simpa using hz), by rw [List.length_reverse, h3, List.length_reverse]⟩

/-- All bids from xs on, at most n of them. -/
def runF (top : Int) : Nat → List Int → List (List Int)
  | 0, _ => []
  | n + 1, xs => xs :: (match nextF xs top with
    | some ys => runF top n ys
    | none => [])
/-- All bids from xs on. -/
def allF (top : Int) (xs : List Int) : List (List Int) := runF top (leftF xs top + 1) xs

theorem runF_more (top : Int) (h0 : 0 ≤ top) : ∀ (n m : Nat) (xs : List Int), (∀ x ∈ xs, 0 ≤ x ∧ x ≤ top) → leftF xs top < n → leftF xs top < m → runF top n xs = runF top m xs
  | 0, m, xs, _, h, _ => by omega
  | n + 1, 0, xs, _, _, h => by omega
  | n + 1, m + 1, xs, hx, h1, h2 => by
    rw [runF, runF]
    cases hn : nextF xs top with
    | none => rfl
    | some ys =>
      obtain ⟨h3, h4, _⟩ := leftF_lt h0 hx hn
      simp only
      rw [runF_more top h0 n m ys h4 (by omega) (by omega)]

theorem allF_next {xs ys : List Int} {top : Int} (h0 : 0 ≤ top) (hx : ∀ x ∈ xs, 0 ≤ x ∧ x ≤ top) (h : nextF xs top = some ys) : allF top xs = xs :: allF top ys := by
  obtain ⟨h3, h4, _⟩ := leftF_lt h0 hx h
  unfold allF
  rw [runF, h]
  simp only
  rw [runF_more top h0 (leftF xs top) (leftF ys top + 1) ys h4 h3 (by omega)]
theorem allF_last {xs : List Int} {top : Int} (h : nextF xs top = none) : allF top xs = [xs] := by unfold allF; rw [runF, h]

/-- The numbers that a slice value reads as. -/
def readInts (w : World) : Value → List Int
  | .slice (some ⟨b, off, _⟩) len _ => (List.range len).map (fun k => match w.cell? ⟨b, off + k, none⟩ with
    | some (.int _ x) => x
    | _ => 0)
  | _ => []
theorem readInts_own {w : World} {B g c : Nat} {zs : List Int} (h : Own w B (some ⟨g, 0, none⟩) c zs) : readInts w (.slice (some ⟨g, 0, none⟩) zs.length c) = zs := by
  apply List.ext_getElem
  · simp [readInts]
  · intro i h1 h2
    have := h.cell (i := i) (List.getElem?_eq_getElem h2)
    simp [readInts, this]
/-- How many rounds are still to come. -/
def roundsLeft (top : Int) (w : World) (v : Value) : Nat := if readInts w v = [] then 0 else leftF (readInts w v) top + 1
theorem roundsLeft_own {w : World} {B g c : Nat} {zs : List Int} {top : Int} (h : Own w B (some ⟨g, 0, none⟩) c zs) (h1 : 1 ≤ zs.length) : roundsLeft top w (.slice (some ⟨g, 0, none⟩) zs.length c) = leftF zs top + 1 := by
  unfold roundsLeft
  rw [readInts_own h, if_neg (by intro e; rw [e] at h1; simp at h1)]
theorem roundsLeft_nil (top : Int) (w : World) : roundsLeft top w (.slice none 0 0) = 0 := by simp [roundsLeft, readInts]

/-- Bids that may come. -/
def Fit (top n : Nat) (ys : List Int) : Prop := ys.length = n ∧ ∀ x ∈ ys, 0 ≤ x ∧ x ≤ (top : Int)
theorem Fit.zero (top n : Nat) : Fit top n (List.replicate n 0) := ⟨by simp, fun x hx => by rw [List.eq_of_mem_replicate hx]; omega⟩
theorem Fit.next {top n : Nat} {ys zs : List Int} (h : Fit top n ys) (hn : nextF ys top = some zs) : Fit top n zs ∧ leftF zs top < leftF ys top := by
  obtain ⟨h1, h2, h3⟩ := leftF_lt (by omega) h.2 hn
  exact ⟨⟨by rw [h3]; exact h.1, h2⟩, h1⟩

end Go.Proofs.Ytnojlapjkdihmaa

/-
  Chapter 1: the contracts of next, nextBids, honest, calm and allRest.
-/
namespace Go.Proofs.Ytnojlapjkdihmaa
open Go.RowKit

/-- What of the first j is still to be turned, noughts behind. -/
def tailed (xs : List Int) (j : Nat) : List Int := xs.take j ++ List.replicate (xs.length - j) 0
theorem tailed_len (xs : List Int) (j : Nat) (hj : j ≤ xs.length) : (tailed xs j).length = xs.length := by simp [tailed]; omega
theorem tailed_all (xs : List Int) : tailed xs xs.length = xs := by simp [tailed]

theorem tailed_at {xs : List Int} {j : Nat} {x : Int} (hx : xs[j]? = some x) : (tailed xs (j + 1))[j]? = some x := by
  have hj := (List.getElem?_eq_some_iff.1 hx).1
  unfold tailed
  rw [List.getElem?_append_left (by simp; omega), List.getElem?_take_of_lt (by omega), hx]
theorem tailed_zero {xs : List Int} {j : Nat} (hj : j < xs.length) : (tailed xs (j + 1)).set j 0 = tailed xs j := by
  apply List.ext_getElem?
  intro k
  unfold tailed
  simp only [List.getElem?_set, List.getElem?_append, List.length_append, List.length_take, List.length_replicate, List.getElem?_take, List.getElem?_replicate]
  rcases Nat.lt_trichotomy k j with h | h | h
  · simp [show ¬ j = k by omega, show k < min (j + 1) xs.length by omega, show k < min j xs.length by omega, h, show k < j + 1 by omega]
  · subst h
    simp [show k < min (k + 1) xs.length + (xs.length - (k + 1)) by omega, show min k xs.length = k by omega, show 0 < xs.length - k by omega]
  · simp [show ¬ j = k by omega, show ¬ k < min (j + 1) xs.length by omega, show ¬ k < min j xs.length by omega]
    have e1 : k - min (j + 1) xs.length < xs.length - (j + 1) ↔ k - min j xs.length < xs.length - j := by omega
    by_cases hh : k - min (j + 1) xs.length < xs.length - (j + 1)
    · rw [if_pos hh, if_pos (e1.1 hh)]
    · rw [if_neg hh, if_neg (fun x => hh (e1.2 x))]

/-- Where the next bids come from when the last ones are at the top. -/
def NextIs (xs : List Int) (top : Int) (j : Nat) : Prop := nextF xs top = (nextF (xs.take j) top).map (· ++ List.replicate (xs.length - j) 0)
theorem NextIs.start (xs : List Int) (top : Int) : NextIs xs top xs.length := by unfold NextIs; simp
theorem NextIs.up {xs : List Int} {top x : Int} {j : Nat} (h : NextIs xs top (j + 1)) (hx : xs[j]? = some x) (hlt : x < top) : nextF xs top = some ((tailed xs (j + 1)).set j (x + 1)) := by
  have hj := (List.getElem?_eq_some_iff.1 hx).1
  have ht : xs.take (j + 1) = xs.take j ++ [x] := by rw [List.take_add_one, hx]; rfl
  rw [h, ht, nextF_snoc, if_pos hlt]
  simp only [Option.map_some]
  congr 1
  unfold tailed
  rw [ht, List.set_append, if_pos (by simp; omega), List.set_append, if_neg (by simp; omega)]
  simp [show min j xs.length = j by omega]
theorem NextIs.down {xs : List Int} {top x : Int} {j : Nat} (h : NextIs xs top (j + 1)) (hx : xs[j]? = some x) (hge : ¬ x < top) : NextIs xs top j := by
  have hj := (List.getElem?_eq_some_iff.1 hx).1
  have ht : xs.take (j + 1) = xs.take j ++ [x] := by rw [List.take_add_one, hx]; rfl
  unfold NextIs at h ⊢
  rw [h, ht, nextF_snoc, if_neg hge]
  rw [Option.map_map]
  congr 1
  funext l
  simp only [Function.comp, List.append_assoc]
  rw [show xs.length - j = 1 + (xs.length - (j + 1)) by omega, ← List.replicate_append_replicate]
  rfl
theorem NextIs.none_ {xs : List Int} {top : Int} (h : NextIs xs top 0) : nextF xs top = none := by rw [h]; simp [nextF_nil]

/-- What next hands back. -/
def NextOut (w : World) (o : Option (List Int)) (e : Ending) (w' : World) : Prop :=
  (∃ zs g c, o = some zs ∧ e = .returned (.slice (some ⟨g, 0, none⟩) zs.length c) ∧ Own w' w.heap.size (some ⟨g, 0, none⟩) c zs ∧ Below w.heap.size w w') ∨
  (o = none ∧ e = .returned (.slice none 0 0) ∧ Below w.heap.size w w')

set_option maxHeartbeats 800000 in
theorem next_any (A : Option Addr) (c : Nat) (xs : List Int) (top : Int) (w : World) (h : Rd w A c xs) (hl : xs.length ≤ 1048576) (ht0 : 0 ≤ top) (ht1 : top ≤ 1048576) (hb : ∀ x ∈ xs, 0 ≤ x ∧ x ≤ top) :
    Calls Try.prog 153 #[.slice A xs.length c, .int .i64 top] w (NextOut w (nextF xs top)) := by
  have hl2 : xs.length ≤ 1099511627776 := by omega
  have hb0 := (Below.refl w.heap.size w).alloc (Nat.le_refl _) (.cells #[] 3)
  have h1 := h.below hb0
  have HB := Lib.hid hb
  clear hb h
  go_enter Try.func153, Try.ntmps153
  go_wp2_with (at_builtin; refine wpList_clone rfl _ _ rfl w.heap.size w.heap.size rfl (own_empty w) A c xs rfl h1 hl2 hb0.size ?_; intro g c1 w1 ho hb1)
  have B1 := hb0.trans hb1
  clear hb0 hb1 h1
  go_loopw [6] (fun i wr => ∃ j : Nat, j ≤ xs.length ∧ i = .int .i64 ((j : Int) - 1) ∧ Own wr w.heap.size (some ⟨g, 0, none⟩) c1 (tailed xs j) ∧ Below w.heap.size w wr ∧ Hid (NextIs xs top j))
    (fun i _ => (intOf i + 1).toNat)
  case atStart => exact ⟨xs.length, Nat.le_refl _, rfl, by rw [tailed_all]; exact ho, B1, Lib.hid (NextIs.start xs top)⟩
  case round =>
    obtain ⟨j, hj, rfl, hor, hbr, HN⟩ := hrel
    cases j with
    | zero =>
      have HE := Lib.hid HN.out.none_
      go_wp2
      go_ret
      exact .inr ⟨HE.out, rfl, hbr⟩
    | succ j =>
      have hjl : j < xs.length := by omega
      have e1 : (((j + 1 : Nat) : Int) - 1) = (j : Int) := by omega
      rw [e1]
      obtain ⟨x, hx⟩ := at_some hjl
      have hxb := HB.out x (List.mem_of_getElem? hx)
      have hx0 := hxb.1
      have hx1 := hxb.2
      have hc := hor.cell (tailed_at hx)
      have hf := hor.free j
      by_cases hlt : x < top
      · have HE := Lib.hid (HN.out.up hx hlt)
        have HS := Lib.hid (hor.set_ j (x + 1))
        have HL : Hid (((tailed xs (j + 1)).set j (x + 1)).length = xs.length) := Lib.hid (by rw [List.length_set, tailed_len xs (j + 1) hj])
        have HB2 := Lib.hid (hbr.setCell hor.ge (p := ⟨g, j, none⟩) (.int .i64 (x + 1)))
        clear hx hxb hor e1
        go_wp2
        go_ret
        exact .inl ⟨_, g, c1, HE.out, by rw [HL.out]; rfl, HS.out, HB2.out⟩
      · have HE := Lib.hid (HN.out.down hx hlt)
        have HS : Hid (Own (wr.setCell ⟨g, j, none⟩ (.int .i64 0)) w.heap.size (some ⟨g, 0, none⟩) c1 (tailed xs j)) := Lib.hid (by
          have := hor.set_ j 0
          rwa [tailed_zero hjl] at this)
        have HB2 := Lib.hid (hbr.setCell hor.ge (p := ⟨g, j, none⟩) (.int .i64 0))
        clear hx hxb hor e1
        go_wp2
        go_roundw
        case rel => exact ⟨j, by omega, rfl, HS.out, HB2.out, HE⟩
        case measure => simp [intOf]

end Go.Proofs.Ytnojlapjkdihmaa
