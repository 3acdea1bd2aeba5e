/-
  Chapter 11, plain arithmetic: what is taken at stages, the greatest of all, and half of it.
-/
import Derived.Test.YtnojlapjkdihmaaCq
import Derived.Test.YtnojlapjkdihmaaCr
namespace Go.Proofs.Ytnojlapjkdihmaa

/-- The mean of f over the values of w. -/
def meanV (w : List Int) (f : Nat → Rat) : Rat := sumR w.length (fun v => (wt w v : Rat) * f v) / (tailW w 0 : Rat)

theorem tot_pos {w : List Int} (hw : validW w = true) : 1 ≤ tailW w 0 := by
  have h1 := validW_len1 hw
  have h2 := tailW_lt hw (u := 0) (v := w.length) (by omega) (Nat.le_refl _)
  rw [tailW_end w w.length (Nat.le_refl _)] at h2
  omega
theorem tot_posQ {w : List Int} (hw : validW w = true) : (0 : Rat) < (tailW w 0 : Rat) := Rat.intCast_pos.2 (by have := tot_pos hw; omega)
theorem wt_nnQ {w : List Int} (hw : validW w = true) (v : Nat) : (0 : Rat) ≤ (wt w v : Rat) := Rat.intCast_nonneg.2 (validW_nn hw v)
theorem meanV_tot {w : List Int} (hw : validW w = true) (f : Nat → Rat) : meanV w f * (tailW w 0 : Rat) = sumR w.length (fun v => (wt w v : Rat) * f v) := by
  unfold meanV
  exact Rat.div_mul_cancel (by have := tot_posQ hw; grind)
theorem meanV_congr {w : List Int} {f g : Nat → Rat} (h : ∀ v, v < w.length → f v = g v) : meanV w f = meanV w g := by
  unfold meanV
  rw [sumR_congr (g := fun v => (wt w v : Rat) * g v) (fun v hv => by rw [h v hv])]
theorem meanV_mono {w : List Int} (hw : validW w = true) {f g : Nat → Rat} (h : ∀ v, v < w.length → f v ≤ g v) : meanV w f ≤ meanV w g := by
  have h1 := meanV_tot hw f
  have h2 := meanV_tot hw g
  have h3 := sumR_le (n := w.length) (f := fun v => (wt w v : Rat) * f v) (g := fun v => (wt w v : Rat) * g v) fun v hv => Rat.mul_le_mul_of_nonneg_left (h v hv) (wt_nnQ hw v)
  rw [← h1, ← h2] at h3
  exact Rat.le_of_mul_le_mul_right h3 (tot_posQ hw)
theorem meanV_const {w : List Int} (hw : validW w = true) (c : Rat) : meanV w (fun _ => c) = c := by
  have h1 := wt_tele w 0 c
  rw [sumR_congr (g := fun x => (wt w x : Rat) * c) (fun x _ => by rw [if_pos (Nat.zero_le x)])] at h1
  unfold meanV
  rw [h1, Rat.mul_comm]
  exact Rat.mul_div_cancel (by have := tot_posQ hw; grind)
theorem meanV_add {w : List Int} (f g : Nat → Rat) : meanV w (fun v => f v + g v) = meanV w f + meanV w g := by
  unfold meanV
  rw [sumR_congr (g := fun v => (wt w v : Rat) * f v + (wt w v : Rat) * g v) (fun v _ => by grind), sumR_add, Rat.div_def, Rat.div_def, Rat.div_def, Rat.add_mul]
theorem meanV_mul {w : List Int} (c : Rat) (f : Nat → Rat) : meanV w (fun v => c * f v) = c * meanV w f := by
  unfold meanV
  rw [sumR_congr (g := fun v => c * ((wt w v : Rat) * f v)) (fun v _ => by grind), sumR_mul, Rat.div_def, Rat.div_def, Rat.mul_assoc]

/-- What is had at a stage with an edge, where what is had behind it is r. -/
def takeQ (e r : Rat) (v : Nat) : Rat := if (v : Rat) < e then r else (v : Rat)
def meanQ (w : List Int) (e r : Rat) : Rat := meanV w (takeQ e r)
/-- What is had from stages on, the edge told by what is had behind. -/
def byQ (e : Rat → Rat) : List (List Int) → Rat
  | [] => 0
  | w :: ws => meanQ w (e (byQ e ws)) (byQ e ws)
/-- The mean of the greatest value, m among them. -/
def seenQ : List (List Int) → Nat → Rat
  | [], m => (m : Rat)
  | w :: ws, m => meanV w (fun v => seenQ ws (max m v))

def VS (rows : List (List Int)) : Prop := ∀ w ∈ rows, validW w = true
theorem VS.head {w : List Int} {ws : List (List Int)} (h : VS (w :: ws)) : validW w = true := h w (List.mem_cons_self ..)
theorem VS.tail {w : List Int} {ws : List (List Int)} (h : VS (w :: ws)) : VS ws := fun x hx => h x (List.mem_cons_of_mem _ hx)

theorem natQ_le {a b : Nat} (h : a ≤ b) : (a : Rat) ≤ (b : Rat) := by
  have : ((a : Int) : Rat) ≤ ((b : Int) : Rat) := Rat.intCast_le_intCast.2 (by omega)
  exact this
theorem natQ_nn (a : Nat) : (0 : Rat) ≤ (a : Rat) := natQ_le (Nat.zero_le a)

theorem seen_mono : ∀ (ws : List (List Int)) (m m' : Nat), VS ws → m ≤ m' → seenQ ws m ≤ seenQ ws m'
  | [], m, m', _, h => natQ_le h
  | w :: ws, m, m', hv, h => meanV_mono hv.head fun v _ => seen_mono ws _ _ hv.tail (by omega)
theorem seen_ge : ∀ (ws : List (List Int)) (m : Nat), VS ws → (m : Rat) ≤ seenQ ws m
  | [], m, _ => Rat.le_refl
  | w :: ws, m, hv => by
    have h := meanV_mono hv.head (f := fun _ => (m : Rat)) (g := fun v => seenQ ws (max m v)) fun v _ => Rat.le_trans (natQ_le (by omega)) (seen_ge ws _ hv.tail)
    rw [meanV_const hv.head] at h
    exact h
theorem seen_le : ∀ (ws : List (List Int)) (m M : Nat), VS ws → m ≤ M → (∀ w ∈ ws, w.length ≤ M + 1) → seenQ ws m ≤ (M : Rat)
  | [], m, M, _, h, _ => natQ_le h
  | w :: ws, m, M, hv, h, hl => by
    have h1 := hl w (List.mem_cons_self ..)
    have h := meanV_mono hv.head (f := fun v => seenQ ws (max m v)) (g := fun _ => (M : Rat)) fun v hv' => seen_le ws _ M hv.tail (by omega) fun x hx => hl x (List.mem_cons_of_mem _ hx)
    rw [meanV_const hv.head] at h
    exact h

theorem by_nn (e : Rat → Rat) : ∀ (ws : List (List Int)), VS ws → 0 ≤ byQ e ws
  | [], _ => Rat.le_refl
  | w :: ws, hv => by
    have i := by_nn e ws hv.tail
    have h := meanV_mono hv.head (f := fun _ => (0 : Rat)) (g := takeQ (e (byQ e ws)) (byQ e ws)) fun v _ => by
      unfold takeQ; split
      · exact i
      · exact natQ_nn v
    rw [meanV_const hv.head] at h
    exact h

/-- P67: all that is seen is at least what is taken at best. -/
theorem best_le_seen : ∀ (ws : List (List Int)), VS ws → byQ id ws ≤ seenQ ws 0
  | [], _ => Rat.le_refl
  | w :: ws, hv => meanV_mono hv.head fun v _ => by
    have i := best_le_seen ws hv.tail
    unfold takeQ; split
    · exact Rat.le_trans i (seen_mono ws _ _ hv.tail (by omega))
    · exact Rat.le_trans (natQ_le (by omega)) (seen_ge ws _ hv.tail)
/-- P68: the best stop is at least any edge. -/
theorem edge_le_best (e : Rat) : ∀ (ws : List (List Int)), VS ws → byQ (fun _ => e) ws ≤ byQ id ws
  | [], _ => Rat.le_refl
  | w :: ws, hv => meanV_mono hv.head fun v _ => by
    have i := edge_le_best e ws hv.tail
    show takeQ e (byQ (fun _ => e) ws) v ≤ takeQ (byQ id ws) (byQ id ws) v
    unfold takeQ
    generalize byQ (fun _ => e) ws = x at *
    generalize byQ id ws = y at *
    split <;> split <;> grind
theorem best_more {w : List Int} {ws : List (List Int)} (hv : VS (w :: ws)) : byQ id ws ≤ byQ id (w :: ws) := by
  have h := meanV_mono hv.head (f := fun _ => byQ id ws) (g := takeQ (byQ id ws) (byQ id ws)) fun v _ => by
    unfold takeQ
    generalize byQ id ws = y
    split <;> grind
  rw [meanV_const hv.head] at h
  exact h
/-- P69: an edge of nothing takes the first, one greater than all none. -/
theorem edge_zero {w : List Int} {ws : List (List Int)} : byQ (fun _ => 0) (w :: ws) = meanV w (fun v => (v : Rat)) :=
  meanV_congr fun v _ => by
    have := natQ_nn v
    unfold takeQ; rw [if_neg (by grind)]
theorem edge_high_none (e : Rat) : ∀ (ws : List (List Int)), VS ws → (∀ w ∈ ws, ∀ v, v < w.length → (v : Rat) < e) → byQ (fun _ => e) ws = 0
  | [], _, _ => rfl
  | w :: ws, hv, h => by
    show meanV w _ = 0
    rw [edge_high_none e ws hv.tail fun x hx => h x (List.mem_cons_of_mem _ hx)]
    rw [meanV_congr (g := fun _ => (0 : Rat)) fun v hv' => by unfold takeQ; rw [if_pos (h w (List.mem_cons_self ..) v hv')]]
    exact meanV_const hv.head 0

/-- How much more than e is seen at all stages together. -/
def overQ (e : Rat) : List (List Int) → Rat
  | [] => 0
  | w :: ws => meanV w (takeQ e e) - e + overQ e ws
/-- How sure it is that all values are below e. -/
def noneQ (e : Rat) : List (List Int) → Rat
  | [] => 1
  | w :: ws => meanV w (fun v => if (v : Rat) < e then 1 else 0) * noneQ e ws

theorem overW_nn (e : Rat) {w : List Int} (hw : validW w = true) : 0 ≤ meanV w (takeQ e e) - e := by
  have h := meanV_mono hw (f := fun _ => e) (g := takeQ e e) fun v _ => by unfold takeQ; split <;> grind
  rw [meanV_const hw] at h
  grind
theorem overs_nn (e : Rat) : ∀ (ws : List (List Int)), VS ws → 0 ≤ overQ e ws
  | [], _ => Rat.le_refl
  | w :: ws, hv => by
    have i := overs_nn e ws hv.tail
    have h := overW_nn e hv.head
    rw [overQ]; grind
theorem none_bd (e : Rat) {w : List Int} (hw : validW w = true) : 0 ≤ meanV w (fun v => if (v : Rat) < e then 1 else 0) ∧ meanV w (fun v => if (v : Rat) < e then 1 else 0) ≤ 1 := by
  have h1 := meanV_mono hw (f := fun _ => (0 : Rat)) (g := fun v => if (v : Rat) < e then 1 else 0) fun v _ => by split <;> grind
  have h2 := meanV_mono hw (f := fun v => if (v : Rat) < e then 1 else 0) (g := fun _ => (1 : Rat)) fun v _ => by split <;> grind
  rw [meanV_const hw] at h1 h2
  exact ⟨h1, h2⟩
theorem nones_bd (e : Rat) : ∀ (ws : List (List Int)), VS ws → 0 ≤ noneQ e ws ∧ noneQ e ws ≤ 1
  | [], _ => by rw [noneQ]; decide
  | w :: ws, hv => by
    obtain ⟨i1, i2⟩ := nones_bd e ws hv.tail
    obtain ⟨h1, h2⟩ := none_bd e hv.head
    rw [noneQ]
    generalize meanV w (fun v => if (v : Rat) < e then 1 else 0) = p at *
    generalize noneQ e ws = q at *
    have m1 := Rat.mul_nonneg h1 i1
    have m2 := Rat.mul_le_mul_of_nonneg_left i2 h1
    refine ⟨m1, ?_⟩
    grind

/-- What is had by an edge is at least it, as sure as something is had, and all that is seen above it, as sure as nothing is. -/
theorem edge_ge (e : Rat) : ∀ (ws : List (List Int)), VS ws → (1 - noneQ e ws) * e + noneQ e ws * overQ e ws ≤ byQ (fun _ => e) ws
  | [], _ => by rw [noneQ, overQ, byQ]; grind
  | w :: ws, hv => by
    have i := edge_ge e ws hv.tail
    obtain ⟨q1, q2⟩ := nones_bd e ws hv.tail
    obtain ⟨p1, p2⟩ := none_bd e hv.head
    have o1 := overW_nn e hv.head
    have o2 := overs_nn e ws hv.tail
    show _ ≤ meanV w (takeQ e (byQ (fun _ => e) ws))
    have k : meanV w (takeQ e (byQ (fun _ => e) ws)) = meanV w (takeQ e e) + (byQ (fun _ => e) ws - e) * meanV w (fun v => if (v : Rat) < e then 1 else 0) := by
      rw [← meanV_mul, ← meanV_add]
      refine meanV_congr fun v _ => ?_
      unfold takeQ
      split <;> grind
    rw [k, noneQ, overQ]
    generalize meanV w (takeQ e e) = t at *
    generalize meanV w (fun v => if (v : Rat) < e then 1 else 0) = p at *
    generalize noneQ e ws = q at *
    generalize overQ e ws = x at *
    generalize byQ (fun _ => e) ws = b at *
    -- t - e + p (b - e) >= (t - e) + p (q (x - e)) >= p q (t - e) + p q (x - e)
    have m1 := Rat.mul_le_mul_of_nonneg_left i p1
    have m2 : p * q ≤ 1 := by have := Rat.mul_le_mul_of_nonneg_left q2 p1; grind
    have m3 : 0 ≤ p * q := Rat.mul_nonneg p1 q1
    have m4 := Rat.mul_le_mul_of_nonneg_right m2 o1
    grind

/-- All that is seen is at most e, or m, and what is above e. -/
theorem seen_over (e : Rat) : ∀ (ws : List (List Int)) (m : Nat), VS ws → seenQ ws m ≤ takeQ e e m + overQ e ws
  | [], m, _ => by rw [seenQ, overQ]; unfold takeQ; split <;> grind
  | w :: ws, m, hv => by
    rw [seenQ, overQ]
    have h := meanV_mono hv.head (f := fun v => seenQ ws (max m v)) (g := fun v => (takeQ e e m - e + overQ e ws) + takeQ e e v) fun v _ => by
      have i := seen_over e ws (max m v) hv.tail
      refine Rat.le_trans i ?_
      rcases Nat.le_total m v with hm | hm
      · rw [Nat.max_eq_right hm]
        have := natQ_le hm
        unfold takeQ
        split <;> split <;> grind
      · rw [Nat.max_eq_left hm]
        have := natQ_le hm
        unfold takeQ
        split <;> split <;> grind
    rw [meanV_add, meanV_const hv.head] at h
    grind

/-- P70: half of the best is sure. -/
theorem half_sure {ws : List (List Int)} (hv : VS ws) {e : Rat} (he : 2 * e = seenQ ws 0) : seenQ ws 0 ≤ 2 * byQ (fun _ => e) ws := by
  have h0 := seen_ge ws 0 hv
  have z : ((0 : Nat) : Rat) = 0 := rfl
  rw [z] at h0
  have h1 := seen_over e ws 0 hv
  have h2 := edge_ge e ws hv
  obtain ⟨q1, q2⟩ := nones_bd e ws hv
  have t : takeQ e e 0 = e := by
    unfold takeQ; rw [z]; split
    · rfl
    · grind
  rw [t] at h1
  generalize overQ e ws = x at *
  generalize noneQ e ws = q at *
  generalize byQ (fun _ => e) ws = b at *
  have m := Rat.mul_le_mul_of_nonneg_left (show e ≤ x by grind) q1
  grind
end Go.Proofs.Ytnojlapjkdihmaa
