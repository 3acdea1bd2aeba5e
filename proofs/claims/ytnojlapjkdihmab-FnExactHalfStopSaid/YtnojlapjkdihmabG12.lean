/-
  The exact laws' helpers on fractions: that two lists that are the same are found so, that one is marked, and that the marks are held.
-/
import Derived.Test.YtnojlapjkdihmabG11
import Derived.Test.YtnojlapjkdihmabG01
import Derived.Test.YtnojlapjkdihmabG07
import Derived.Test.YtnojlapjkdihmabG09
import Derived.Test.YtnojlapjkdihmabMem
namespace Go.Proofs.Ytnojlapjkdihmab
open Go.RowKit

set_option maxHeartbeats 600000 in
theorem eqFrac_same (a b : Int) (w : World) :
    Calls Try.prog 18 #[frV a b, frV a b] w fun e w' => e = .returned (.bool true) ∧ Below w.heap.size w w' := by
  have h1 : (a != a) = false := by simp
  have h2 : (b != b) = false := by simp
  unfold frV
  go_enter Try.func18, Try.ntmps18
  go_wp2
  go_ret
  exact ⟨rfl, ((below_al _ _).alloc (by simp) _)⟩

/-- k, one more, and so on, two by two. -/
def upP (k : Int) (n : Nat) : List (Int × Int) := (List.range n).map (fun i => (k + 2 * (i : Nat), k + 2 * (i : Nat) + 1))
theorem upP_len (k : Int) (n : Nat) : (upP k n).length = n := by simp [upP]
theorem upP_at (k : Int) (n i : Nat) (h : i < n) : (upP k n)[i]? = some (k + 2 * i, k + 2 * i + 1) := by simp [upP, h]
def markP (k : Int) (ps : List (Int × Int)) (j : Nat) : List (Int × Int) := upP k j ++ ps.drop j
theorem markP_len (k : Int) (ps : List (Int × Int)) (j : Nat) (hj : j ≤ ps.length) : (markP k ps j).length = ps.length := by simp [markP, upP_len]; omega
theorem markP_zero (k : Int) (ps : List (Int × Int)) : markP k ps 0 = ps := by simp [markP, upP]
theorem markP_all (k : Int) (ps : List (Int × Int)) : markP k ps ps.length = upP k ps.length := by simp [markP]
theorem markP_set (k : Int) (ps : List (Int × Int)) (j : Nat) (hj : j < ps.length) : (markP k ps j).set j (k + 2 * j, k + 2 * j + 1) = markP k ps (j + 1) := by
  unfold markP
  rw [List.set_append, if_neg (by rw [upP_len]; omega), upP_len, Nat.sub_self]
  rw [List.drop_eq_getElem_cons hj, List.set_cons_zero]
  simp [upP, List.range_succ]

theorem ownF_addr {w : World} {B : Nat} {A : Option Addr} {c : Nat} {ps : List (Int × Int)} (h : OwnF w B A c ps) (hp : 0 < ps.length) : ∃ g, A = some ⟨g, 0, none⟩ := by
  rcases ownF_shape h with ⟨_, ⟨hv, hz⟩ | ⟨g, c', hv⟩⟩
  · subst hz; simp at hp
  · injection hv with hA; exact ⟨g, hA⟩
theorem OwnF.half {w : World} {B g c : Nat} {ps : List (Int × Int)} (h : OwnF w B (some ⟨g, 0, none⟩) c ps) (i : Nat) (u : Value) {x y : Int} (hx : ps[i]? = some (x, y)) :
    (w.setCell ⟨g, i * 2, none⟩ u).cell? ⟨g, i * 2 + 1, none⟩ = some (.int .i64 y) ∧ (w.setCell ⟨g, i * 2, none⟩ u).frozen? ⟨g, i * 2 + 1, none⟩ = false := by
  have h1 := (World.ownsRow.stored h (i * 2) u).1
  refine ⟨?_, World.ownsRow.frozenAt h1 _⟩
  rw [World.cell?_setCell_other w ⟨g, i * 2, none⟩ ⟨g, i * 2 + 1, none⟩ _ (fun e => by injection e with _ e2; omega)]
  exact (h.cell hx).2

end Go.Proofs.Ytnojlapjkdihmab

/-
  Chapter 11, plain arithmetic: what is taken at stages, the greatest of all, and half of it.
-/
namespace Go.Proofs.Ytnojlapjkdihmab

/-- The mean of f over the values of w. -/
def meanV (w : List Int) (f : Nat → Rat) : Rat := sumR w.length (fun v => (wt w v : Rat) * f v) / (tailW w 0 : Rat)

theorem tot_pos {w : List Int} (hw : validW w = true) : 1 ≤ tailW w 0 := by
  have h1 := validW_len1 hw
  have h2 := tailW_lt hw (u := 0) (v := w.length) (by omega) (Nat.le_refl _)
  rw [tailW_end w w.length (Nat.le_refl _)] at h2
  omega
theorem tot_posQ {w : List Int} (hw : validW w = true) : (0 : Rat) < (tailW w 0 : Rat) := Rat.intCast_pos.2 (by have := tot_pos hw; omega)
theorem wt_nnQ {w : List Int} (hw : validW w = true) (v : Nat) : (0 : Rat) ≤ (wt w v : Rat) := Rat.intCast_nonneg.2 (validW_nn hw v)
theorem meanV_tot {w : List Int} (hw : validW w = true) (f : Nat → Rat) : meanV w f * (tailW w 0 : Rat) = sumR w.length (fun v => (wt w v : Rat) * f v) := by
  unfold meanV
  exact Rat.div_mul_cancel (by have := tot_posQ hw; grind)
theorem meanV_congr {w : List Int} {f g : Nat → Rat} (h : ∀ v, v < w.length → f v = g v) : meanV w f = meanV w g := by
  unfold meanV
  rw [sumR_congr (g := fun v => (wt w v : Rat) * g v) (fun v hv => by rw [h v hv])]
theorem meanV_mono {w : List Int} (hw : validW w = true) {f g : Nat → Rat} (h : ∀ v, v < w.length → f v ≤ g v) : meanV w f ≤ meanV w g := by
  have h1 := meanV_tot hw f
  have h2 := meanV_tot hw g
  have h3 := sumR_le (n := w.length) (f := fun v => (wt w v : Rat) * f v) (g := fun v => (wt w v : Rat) * g v) fun v hv => Rat.mul_le_mul_of_nonneg_left (h v hv) (wt_nnQ hw v)
  rw [← h1, ← h2] at h3
  exact Rat.le_of_mul_le_mul_right h3 (tot_posQ hw)
theorem meanV_const {w : List Int} (hw : validW w = true) (c : Rat) : meanV w (fun _ => c) = c := by
  have h1 := wt_tele w 0 c
  rw [sumR_congr (g := fun x => (wt w x : Rat) * c) (fun x _ => by rw [if_pos (Nat.zero_le x)])] at h1
  unfold meanV
  rw [h1, Rat.mul_comm]
  exact Rat.mul_div_cancel (by have := tot_posQ hw; grind)
theorem meanV_add {w : List Int} (f g : Nat → Rat) : meanV w (fun v => f v + g v) = meanV w f + meanV w g := by
  unfold meanV
  rw [sumR_congr (g := fun v => (wt w v : Rat) * f v + (wt w v : Rat) * g v) (fun v _ => by grind), sumR_add, Rat.div_def, Rat.div_def, Rat.div_def, Rat.add_mul]
theorem meanV_mul {w : List Int} (c : Rat) (f : Nat → Rat) : meanV w (fun v => c * f v) = c * meanV w f := by
  unfold meanV
  rw [sumR_congr (g := fun v => c * ((wt w v : Rat) * f v)) (fun v _ => by grind), sumR_mul, Rat.div_def, Rat.div_def, Rat.mul_assoc]

/-- What is had at a stage with an edge, where what is had behind it is r. -/
def takeQ (e r : Rat) (v : Nat) : Rat := if (v : Rat) < e then r else (v : Rat)
def meanQ (w : List Int) (e r : Rat) : Rat := meanV w (takeQ e r)
/-- What is had from stages on, the edge told by what is had behind. -/
def byQ (e : Rat → Rat) : List (List Int) → Rat
  | [] => 0
  | w :: ws => meanQ w (e (byQ e ws)) (byQ e ws)
/-- The mean of the greatest value, m among them. -/
def seenQ : List (List Int) → Nat → Rat
  | [], m => (m : Rat)
  | w :: ws, m => meanV w (fun v => seenQ ws (max m v))

def VS (rows : List (List Int)) : Prop := ∀ w ∈ rows, validW w = true
theorem VS.head {w : List Int} {ws : List (List Int)} (h : VS (w :: ws)) : validW w = true := h w (List.mem_cons_self ..)
theorem VS.tail {w : List Int} {ws : List (List Int)} (h : VS (w :: ws)) : VS ws := fun x hx => h x (List.mem_cons_of_mem _ hx)

theorem natQ_le {a b : Nat} (h : a ≤ b) : (a : Rat) ≤ (b : Rat) := by
  have : ((a : Int) : Rat) ≤ ((b : Int) : Rat) := Rat.intCast_le_intCast.2 (by omega)
  exact this
theorem natQ_nn (a : Nat) : (0 : Rat) ≤ (a : Rat) := natQ_le (Nat.zero_le a)

theorem seen_mono : ∀ (ws : List (List Int)) (m m' : Nat), VS ws → m ≤ m' → seenQ ws m ≤ seenQ ws m'
  | [], m, m', _, h => natQ_le h
  | w :: ws, m, m', hv, h => meanV_mono hv.head fun v _ => seen_mono ws _ _ hv.tail (by omega)
theorem seen_ge : ∀ (ws : List (List Int)) (m : Nat), VS ws → (m : Rat) ≤ seenQ ws m
  | [], m, _ => Rat.le_refl
  | w :: ws, m, hv => by
    have h := meanV_mono hv.head (f := fun _ => (m : Rat)) (g := fun v => seenQ ws (max m v)) fun v _ => Rat.le_trans (natQ_le (by omega)) (seen_ge ws _ hv.tail)
    rw [meanV_const hv.head] at h
    exact h
theorem seen_le : ∀ (ws : List (List Int)) (m M : Nat), VS ws → m ≤ M → (∀ w ∈ ws, w.length ≤ M + 1) → seenQ ws m ≤ (M : Rat)
  | [], m, M, _, h, _ => natQ_le h
  | w :: ws, m, M, hv, h, hl => by
    have h1 := hl w (List.mem_cons_self ..)
    have h := meanV_mono hv.head (f := fun v => seenQ ws (max m v)) (g := fun _ => (M : Rat)) fun v hv' => seen_le ws _ M hv.tail (by omega) fun x hx => hl x (List.mem_cons_of_mem _ hx)
    rw [meanV_const hv.head] at h
    exact h

theorem by_nn (e : Rat → Rat) : ∀ (ws : List (List Int)), VS ws → 0 ≤ byQ e ws
  | [], _ => Rat.le_refl
  | w :: ws, hv => by
    have i := by_nn e ws hv.tail
    have h := meanV_mono hv.head (f := fun _ => (0 : Rat)) (g := takeQ (e (byQ e ws)) (byQ e ws)) fun v _ => by
      unfold takeQ; split
      · exact i
      · exact natQ_nn v
    rw [meanV_const hv.head] at h
    exact h

/-- P67: all that is seen is at least what is taken at best. -/
theorem best_le_seen : ∀ (ws : List (List Int)), VS ws → byQ id ws ≤ seenQ ws 0
  | [], _ => Rat.le_refl
  | w :: ws, hv => meanV_mono hv.head fun v _ => by
    have i := best_le_seen ws hv.tail
    unfold takeQ; split
    · exact Rat.le_trans i (seen_mono ws _ _ hv.tail (by omega))
    · exact Rat.le_trans (natQ_le (by omega)) (seen_ge ws _ hv.tail)
/-- P68: the best stop is at least any edge. -/
theorem edge_le_best (e : Rat) : ∀ (ws : List (List Int)), VS ws → byQ (fun _ => e) ws ≤ byQ id ws
  | [], _ => Rat.le_refl
  | w :: ws, hv => meanV_mono hv.head fun v _ => by
    have i := edge_le_best e ws hv.tail
    show takeQ e (byQ (fun _ => e) ws) v ≤ takeQ (byQ id ws) (byQ id ws) v
    unfold takeQ
    generalize byQ (fun _ => e) ws = x at *
    generalize byQ id ws = y at *
    split <;> split <;> grind
theorem best_more {w : List Int} {ws : List (List Int)} (hv : VS (w :: ws)) : byQ id ws ≤ byQ id (w :: ws) := by
  have h := meanV_mono hv.head (f := fun _ => byQ id ws) (g := takeQ (byQ id ws) (byQ id ws)) fun v _ => by
    unfold takeQ
    generalize byQ id ws = y
    split <;> grind
  rw [meanV_const hv.head] at h
  exact h
/-- P69: an edge of nothing takes the first, one greater than all none. -/
theorem edge_zero {w : List Int} {ws : List (List Int)} : byQ (fun _ => 0) (w :: ws) = meanV w (fun v => (v : Rat)) :=
  meanV_congr fun v _ => by
    have := natQ_nn v
    unfold takeQ; rw [if_neg (by grind)]
theorem edge_high_none (e : Rat) : ∀ (ws : List (List Int)), VS ws → (∀ w ∈ ws, ∀ v, v < w.length → (v : Rat) < e) → byQ (fun _ => e) ws = 0
  | [], _, _ => rfl
  | w :: ws, hv, h => by
    show meanV w _ = 0
    rw [edge_high_none e ws hv.tail fun x hx => h x (List.mem_cons_of_mem _ hx)]
    rw [meanV_congr (g := fun _ => (0 : Rat)) fun v hv' => by unfold takeQ; rw [if_pos (h w (List.mem_cons_self ..) v hv')]]
    exact meanV_const hv.head 0

/-- How much more than e is seen at all stages together. -/
def overQ (e : Rat) : List (List Int) → Rat
  | [] => 0
  | w :: ws => meanV w (takeQ e e) - e + overQ e ws
/-- How sure it is that all values are below e. -/
def noneQ (e : Rat) : List (List Int) → Rat
  | [] => 1
  | w :: ws => meanV w (fun v => if (v : Rat) < e then 1 else 0) * noneQ e ws

theorem overW_nn (e : Rat) {w : List Int} (hw : validW w = true) : 0 ≤ meanV w (takeQ e e) - e := by
  have h := meanV_mono hw (f := fun _ => e) (g := takeQ e e) fun v _ => by unfold takeQ; split <;> grind
  rw [meanV_const hw] at h
  grind
theorem overs_nn (e : Rat) : ∀ (ws : List (List Int)), VS ws → 0 ≤ overQ e ws
  | [], _ => Rat.le_refl
  | w :: ws, hv => by
    have i := overs_nn e ws hv.tail
    have h := overW_nn e hv.head
    rw [overQ]; grind
theorem none_bd (e : Rat) {w : List Int} (hw : validW w = true) : 0 ≤ meanV w (fun v => if (v : Rat) < e then 1 else 0) ∧ meanV w (fun v => if (v : Rat) < e then 1 else 0) ≤ 1 := by
  have h1 := meanV_mono hw (f := fun _ => (0 : Rat)) (g := fun v => if (v : Rat) < e then 1 else 0) fun v _ => by split <;> grind
  have h2 := meanV_mono hw (f := fun v => if (v : Rat) < e then 1 else 0) (g := fun _ => (1 : Rat)) fun v _ => by split <;> grind
  rw [meanV_const hw] at h1 h2
  exact ⟨h1, h2⟩
theorem nones_bd (e : Rat) : ∀ (ws : List (List Int)), VS ws → 0 ≤ noneQ e ws ∧ noneQ e ws ≤ 1
  | [], _ => by rw [noneQ]; decide
  | w :: ws, hv => by
    obtain ⟨i1, i2⟩ := nones_bd e ws hv.tail
    obtain ⟨h1, h2⟩ := none_bd e hv.head
    rw [noneQ]
    generalize meanV w (fun v => if (v : Rat) < e then 1 else 0) = p at *
    generalize noneQ e ws = q at *
    have m1 := Rat.mul_nonneg h1 i1
    have m2 := Rat.mul_le_mul_of_nonneg_left i2 h1
    refine ⟨m1, ?_⟩
    grind

/-- What is had by an edge is at least it, as sure as something is had, and all that is seen above it, as sure as nothing is. -/
theorem edge_ge (e : Rat) : ∀ (ws : List (List Int)), VS ws → (1 - noneQ e ws) * e + noneQ e ws * overQ e ws ≤ byQ (fun _ => e) ws
  | [], _ => by rw [noneQ, overQ, byQ]; grind
  | w :: ws, hv => by
    have i := edge_ge e ws hv.tail
    obtain ⟨q1, q2⟩ := nones_bd e ws hv.tail
    obtain ⟨p1, p2⟩ := none_bd e hv.head
    have o1 := overW_nn e hv.head
    have o2 := overs_nn e ws hv.tail
    show _ ≤ meanV w (takeQ e (byQ (fun _ => e) ws))
    have k : meanV w (takeQ e (byQ (fun _ => e) ws)) = meanV w (takeQ e e) + (byQ (fun _ => e) ws - e) * meanV w (fun v => if (v : Rat) < e then 1 else 0) := by
      rw [← meanV_mul, ← meanV_add]
      refine meanV_congr fun v _ => ?_
      unfold takeQ
      split <;> grind
    rw [k, noneQ, overQ]
    generalize meanV w (takeQ e e) = t at *
    generalize meanV w (fun v => if (v : Rat) < e then 1 else 0) = p at *
    generalize noneQ e ws = q at *
    generalize overQ e ws = x at *
    generalize byQ (fun _ => e) ws = b at *
    -- t - e + p (b - e) >= (t - e) + p (q (x - e)) >= p q (t - e) + p q (x - e)
    have m1 := Rat.mul_le_mul_of_nonneg_left i p1
    have m2 : p * q ≤ 1 := by have := Rat.mul_le_mul_of_nonneg_left q2 p1; grind
    have m3 : 0 ≤ p * q := Rat.mul_nonneg p1 q1
    have m4 := Rat.mul_le_mul_of_nonneg_right m2 o1
    grind

/-- All that is seen is at most e, or m, and what is above e. -/
theorem seen_over (e : Rat) : ∀ (ws : List (List Int)) (m : Nat), VS ws → seenQ ws m ≤ takeQ e e m + overQ e ws
  | [], m, _ => by rw [seenQ, overQ]; unfold takeQ; split <;> grind
  | w :: ws, m, hv => by
    rw [seenQ, overQ]
    have h := meanV_mono hv.head (f := fun v => seenQ ws (max m v)) (g := fun v => (takeQ e e m - e + overQ e ws) + takeQ e e v) fun v _ => by
      have i := seen_over e ws (max m v) hv.tail
      refine Rat.le_trans i ?_
      rcases Nat.le_total m v with hm | hm
      · rw [Nat.max_eq_right hm]
        have := natQ_le hm
        unfold takeQ
        split <;> split <;> grind
      · rw [Nat.max_eq_left hm]
        have := natQ_le hm
        unfold takeQ
        split <;> split <;> grind
    rw [meanV_add, meanV_const hv.head] at h
    grind

/-- P70: half of the best is sure. -/
theorem half_sure {ws : List (List Int)} (hv : VS ws) {e : Rat} (he : 2 * e = seenQ ws 0) : seenQ ws 0 ≤ 2 * byQ (fun _ => e) ws := by
  have h0 := seen_ge ws 0 hv
  have z : ((0 : Nat) : Rat) = 0 := rfl
  rw [z] at h0
  have h1 := seen_over e ws 0 hv
  have h2 := edge_ge e ws hv
  obtain ⟨q1, q2⟩ := nones_bd e ws hv
  have t : takeQ e e 0 = e := by
    unfold takeQ; rw [z]; split
    · rfl
    · grind
  rw [t] at h1
  generalize overQ e ws = x at *
  generalize noneQ e ws = q at *
  generalize byQ (fun _ => e) ws = b at *
  have m := Rat.mul_le_mul_of_nonneg_left (show e ≤ x by grind) q1
  grind
end Go.Proofs.Ytnojlapjkdihmab

/-
  Lists of numbers one after the other, as the last place counts fastest: what comes next, how many are to come, all of them.
-/
namespace Go.Proofs.Ytnojlapjkdihmab
open Go.RowKit

/-- The bids that follow, the least digit first; none behind the last. -/
def nextR : List Int → Int → Option (List Int)
  | [], _ => none
  | x :: xs, top => if x < top then some ((x + 1) :: xs) else (nextR xs top).map (0 :: ·)
def nextF (xs : List Int) (top : Int) : Option (List Int) := (nextR xs.reverse top).map List.reverse

theorem nextF_nil (top : Int) : nextF [] top = none := rfl
theorem nextF_snoc (xs : List Int) (x top : Int) : nextF (xs ++ [x]) top = if x < top then some (xs ++ [x + 1]) else (nextF xs top).map (· ++ [0]) := by
  unfold nextF
  rw [List.reverse_append]
  simp only [List.reverse_cons, List.reverse_nil, List.nil_append, List.singleton_append, nextR]
  split
  · simp
  · cases nextR xs.reverse top <;> simp

/-- How many are still to come. -/
def leftR : List Int → Int → Nat
  | [], _ => 0
  | x :: xs, top => (top - x).toNat + (top.toNat + 1) * leftR xs top
theorem leftR_lt : ∀ (xs ys : List Int) (top : Int), 0 ≤ top → (∀ x ∈ xs, 0 ≤ x ∧ x ≤ top) → nextR xs top = some ys → leftR ys top < leftR xs top ∧ (∀ x ∈ ys, 0 ≤ x ∧ x ≤ top) ∧ ys.length = xs.length
  | [], ys, top, _, _, h => by simp [nextR] at h
  | x :: xs, ys, top, h0, hx, h => by
    rw [nextR] at h
    have hxx := hx x (by simp)
    split at h
    · have h := Option.some.inj h
      subst h
      refine ⟨?_, ?_, by simp⟩
      · simp only [leftR]; omega
      · intro z hz
        rcases List.mem_cons.1 hz with h | h
        · subst h; omega
        · exact hx z (by simp [h])
    · cases hn : nextR xs top with
      | none => rw [hn] at h; simp at h
      | some zs =>
        rw [hn] at h
        have h : 0 :: zs = ys := by simpa using h
        subst h
        obtain ⟨h1, h2, h3⟩ := leftR_lt xs zs top h0 (fun z hz => hx z (by simp [hz])) hn
        refine ⟨?_, ?_, by simp [h3]⟩
        · simp only [leftR]
          have hxt : (top - x).toNat = 0 := by omega
          have h4 : (top - 0).toNat = top.toNat := by omega
          have h5 : leftR xs top = leftR zs top + 1 + (leftR xs top - leftR zs top - 1) := by omega
          rw [hxt, h4, h5, Nat.mul_add, Nat.mul_add]
          omega
        · intro z hz
          rcases List.mem_cons.1 hz with h | h
          · subst h; omega
          · exact h2 z h

def leftF (xs : List Int) (top : Int) : Nat := leftR xs.reverse top
theorem leftF_lt {xs ys : List Int} {top : Int} (h0 : 0 ≤ top) (hx : ∀ x ∈ xs, 0 ≤ x ∧ x ≤ top) (h : nextF xs top = some ys) : leftF ys top < leftF xs top ∧ (∀ x ∈ ys, 0 ≤ x ∧ x ≤ top) ∧ ys.length = xs.length := by
  unfold nextF at h
  cases hn : nextR xs.reverse top with
  | none => rw [hn] at h; simp at h
  | some zs =>
    rw [hn] at h
    have h : zs.reverse = ys := by simpa using h
    subst h
    obtain ⟨h1, h2, h3⟩ := leftR_lt xs.reverse zs top h0 (fun z hz => hx z (by simpa using hz)) hn
    exact ⟨by unfold leftF; rw [List.reverse_reverse]; exact h1, fun z hz => h2 z (by simpa using hz), by rw [List.length_reverse, h3, List.length_reverse]⟩

/-- All bids from xs on, at most n of them. -/
def runF (top : Int) : Nat → List Int → List (List Int)
  | 0, _ => []
  | n + 1, xs => xs :: (match nextF xs top with
    | some ys => runF top n ys
    | none => [])
/-- All bids from xs on. -/
def allF (top : Int) (xs : List Int) : List (List Int) := runF top (leftF xs top + 1) xs

theorem runF_more (top : Int) (h0 : 0 ≤ top) : ∀ (n m : Nat) (xs : List Int), (∀ x ∈ xs, 0 ≤ x ∧ x ≤ top) → leftF xs top < n → leftF xs top < m → runF top n xs = runF top m xs
  | 0, m, xs, _, h, _ => by omega
  | n + 1, 0, xs, _, _, h => by omega
  | n + 1, m + 1, xs, hx, h1, h2 => by
    rw [runF, runF]
    cases hn : nextF xs top with
    | none => rfl
    | some ys =>
      obtain ⟨h3, h4, _⟩ := leftF_lt h0 hx hn
      simp only
      rw [runF_more top h0 n m ys h4 (by omega) (by omega)]

theorem allF_next {xs ys : List Int} {top : Int} (h0 : 0 ≤ top) (hx : ∀ x ∈ xs, 0 ≤ x ∧ x ≤ top) (h : nextF xs top = some ys) : allF top xs = xs :: allF top ys := by
  obtain ⟨h3, h4, _⟩ := leftF_lt h0 hx h
  unfold allF
  rw [runF, h]
  simp only
  rw [runF_more top h0 (leftF xs top) (leftF ys top + 1) ys h4 h3 (by omega)]
theorem allF_last {xs : List Int} {top : Int} (h : nextF xs top = none) : allF top xs = [xs] := by unfold allF; rw [runF, h]

/-- The numbers that a slice value reads as. -/
def readInts (w : World) : Value → List Int
  | .slice (some ⟨b, off, _⟩) len _ => (List.range len).map (fun k => match w.cell? ⟨b, off + k, none⟩ with
    | some (.int _ x) => x
    | _ => 0)
  | _ => []
theorem readInts_own {w : World} {B g c : Nat} {zs : List Int} (h : Own w B (some ⟨g, 0, none⟩) c zs) : readInts w (.slice (some ⟨g, 0, none⟩) zs.length c) = zs := by
  apply List.ext_getElem
  · simp [readInts]
  · intro i h1 h2
    have := h.cell (i := i) (List.getElem?_eq_getElem h2)
    simp [readInts, this]
/-- How many rounds are still to come. -/
def roundsLeft (top : Int) (w : World) (v : Value) : Nat := if readInts w v = [] then 0 else leftF (readInts w v) top + 1
theorem roundsLeft_own {w : World} {B g c : Nat} {zs : List Int} {top : Int} (h : Own w B (some ⟨g, 0, none⟩) c zs) (h1 : 1 ≤ zs.length) : roundsLeft top w (.slice (some ⟨g, 0, none⟩) zs.length c) = leftF zs top + 1 := by
  unfold roundsLeft
  rw [readInts_own h, if_neg (by intro e; rw [e] at h1; simp at h1)]
theorem roundsLeft_nil (top : Int) (w : World) : roundsLeft top w (.slice none 0 0) = 0 := by simp [roundsLeft, readInts]

/-- Bids that may come. -/
def Fit (top n : Nat) (ys : List Int) : Prop := ys.length = n ∧ ∀ x ∈ ys, 0 ≤ x ∧ x ≤ (top : Int)
theorem Fit.zero (top n : Nat) : Fit top n (List.replicate n 0) := ⟨by simp, fun x hx => by rw [List.eq_of_mem_replicate hx]; omega⟩
theorem Fit.next {top n : Nat} {ys zs : List Int} (h : Fit top n ys) (hn : nextF ys top = some zs) : Fit top n zs ∧ leftF zs top < leftF ys top := by
  obtain ⟨h1, h2, h3⟩ := leftF_lt (by omega) h.2 hn
  exact ⟨⟨by rw [h3]; exact h.1, h2⟩, h1⟩

end Go.Proofs.Ytnojlapjkdihmab
