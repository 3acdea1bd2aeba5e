/-
  Chapter 9, plain: the least payments in the core.
-/
import Derived.Test.YtpildecpabeanaaG03
import Derived.Test.YtpildecpabeanaaG16
import Derived.StillTailTactics
namespace Go.Proofs.Ytpildecpabeanaa

/-- What bidder i has, 0 where there is none. -/
noncomputable def ow4 (ts : List (List Int)) (i : Nat) : Int := if i < ts.length then ow ts i else 0
theorem ow4_bd {ts : List (List Int)} (hv : ∀ t ∈ ts, VT t) (i : Nat) : 0 ≤ ow4 ts i ∧ ow4 ts i ≤ 30 := by
  unfold ow4
  split
  · exact ow_bd hv (by assumption)
  · omega
/-- Payments of four that are no more than what is had. -/
def In4 (ts : List (List Int)) (p : Nat → Int) : Prop := ∀ i, i < 4 → 0 ≤ p i ∧ p i ≤ ow4 ts i
/-- The sum, and then the numbers one after another, as one number. -/
def MF (p : Nat → Int) : Int := ((((p 0 + p 1 + p 2 + p 3) * 31 + p 0) * 31 + p 1) * 31 + p 2) * 31 + p 3
theorem dig {x y d e : Int} (h : x * 31 + d = y * 31 + e) (hd : 0 ≤ d ∧ d ≤ 30) (he : 0 ≤ e ∧ e ≤ 30) : x = y ∧ d = e := by omega
/-- The least payments in the core. -/
def IsLC (ts : List (List Int)) (p : Nat → Int) : Prop := In4 ts p ∧ InC ts p ∧ ∀ q, In4 ts q → InC ts q → MF p ≤ MF q
theorem In4.all {ts : List (List Int)} {p : Nat → Int} (h : In4 ts p) (hv : ∀ t ∈ ts, VT t) : (0 ≤ p 0 ∧ p 0 ≤ 30) ∧ (0 ≤ p 1 ∧ p 1 ≤ 30) ∧ (0 ≤ p 2 ∧ p 2 ≤ 30) ∧ (0 ≤ p 3 ∧ p 3 ≤ 30) := by
  have h0 := h 0 (by omega); have h1 := h 1 (by omega); have h2 := h 2 (by omega); have h3 := h 3 (by omega)
  have o0 := ow4_bd hv 0; have o1 := ow4_bd hv 1; have o2 := ow4_bd hv 2; have o3 := ow4_bd hv 3
  omega
theorem MF_inj {ts : List (List Int)} {p q : Nat → Int} (hv : ∀ t ∈ ts, VT t) (hp : In4 ts p) (hq : In4 ts q) (h : MF p = MF q) : ∀ i, i < 4 → p i = q i := by
  have a := hp.all hv
  have b := hq.all hv
  unfold MF at h
  obtain ⟨h, e3⟩ := dig h a.2.2.2 b.2.2.2
  obtain ⟨h, e2⟩ := dig h a.2.2.1 b.2.2.1
  obtain ⟨h, e1⟩ := dig h a.2.1 b.2.1
  obtain ⟨_, e0⟩ := dig h a.1 b.1
  intro i hi
  have : i = 0 ∨ i = 1 ∨ i = 2 ∨ i = 3 := by omega
  rcases this with rfl | rfl | rfl | rfl <;> omega
theorem IsLC.same {ts : List (List Int)} {p q : Nat → Int} (hv : ∀ t ∈ ts, VT t) (hp : IsLC ts p) (hq : IsLC ts q) : ∀ i, i < 4 → p i = q i :=
  MF_inj hv hp.1 hq.1 (Int.le_antisymm (hp.2.2 q hq.1 hq.2.1) (hq.2.2 p hp.1 hp.2.1))
theorem ow4_in {ts : List (List Int)} (hv : ∀ t ∈ ts, VT t) : In4 ts (ow4 ts) := fun i _ => ⟨(ow4_bd hv i).1, Int.le_refl _⟩
theorem ow4_core {ts : List (List Int)} (hv : ∀ t ∈ ts, VT t) (hn : ts.length ≤ 4) : InC ts (ow4 ts) :=
  (inC_own hv hn).congr (fun i hi => by unfold ow4; rw [if_pos hi])
/-- There are least payments. -/
theorem lc_some {ts : List (List Int)} (hv : ∀ t ∈ ts, VT t) (hn : ts.length ≤ 4) : ∃ p, IsLC ts p := by
  have key : ∀ (m : Nat) (p : Nat → Int), In4 ts p → InC ts p → (MF p).toNat ≤ m → ∃ p, IsLC ts p := by
    intro m
    induction m with
    | zero =>
      intro p h1 h2 h3
      refine ⟨p, h1, h2, fun q g1 g2 => ?_⟩
      have a := h1.all hv
      have b := g1.all hv
      unfold MF at h3 ⊢
      omega
    | succ m ih =>
      intro p h1 h2 h3
      by_cases hx : ∃ q, In4 ts q ∧ InC ts q ∧ MF q < MF p
      · obtain ⟨q, g1, g2, g3⟩ := hx
        have b := g1.all hv
        exact ih q g1 g2 (by unfold MF at h3 g3 ⊢; omega)
      · exact ⟨p, h1, h2, fun q g1 g2 => by
          rcases Int.lt_or_le (MF q) (MF p) with h | h
          · exact absurd ⟨q, g1, g2, h⟩ hx
          · exact h⟩
  exact key _ _ (ow4_in hv) (ow4_core hv hn) (Nat.le_refl _)
theorem MF_sum {p q : Nat → Int} (a : (0 ≤ p 0 ∧ p 0 ≤ 30) ∧ (0 ≤ p 1 ∧ p 1 ≤ 30) ∧ (0 ≤ p 2 ∧ p 2 ≤ 30) ∧ (0 ≤ p 3 ∧ p 3 ≤ 30)) (b : (0 ≤ q 0 ∧ q 0 ≤ 30) ∧ (0 ≤ q 1 ∧ q 1 ≤ 30) ∧ (0 ≤ q 2 ∧ q 2 ≤ 30) ∧ (0 ≤ q 3 ∧ q 3 ≤ 30)) (h : MF p ≤ MF q) : p 0 + p 1 + p 2 + p 3 ≤ q 0 + q 1 + q 2 + q 3 := by
  unfold MF at h
  generalize p 0 + p 1 + p 2 + p 3 = s at h ⊢
  generalize q 0 + q 1 + q 2 + q 3 = r at h ⊢
  omega
/-- They as a list. -/
noncomputable def lcF (ts : List (List Int)) : List Int := @dite _ (∃ p, IsLC ts p) (Classical.propDecidable _) (fun h => (List.range ts.length).map (Classical.choose h)) (fun _ => [])
theorem lcF_len {ts : List (List Int)} (hv : ∀ t ∈ ts, VT t) (hn : ts.length ≤ 4) : (lcF ts).length = ts.length := by
  unfold lcF; rw [dif_pos (lc_some hv hn)]; simp
theorem lcF_is {ts : List (List Int)} (hv : ∀ t ∈ ts, VT t) (hn : ts.length ≤ 4) : IsLC ts (fun i => (lcF ts).getD i 0) := by
  have h := lc_some hv hn
  have hs := Classical.choose_spec h
  have e : ∀ i, i < 4 → (lcF ts).getD i 0 = Classical.choose h i := by
    intro i hi
    unfold lcF
    rw [dif_pos h]
    by_cases hl : i < ts.length
    · simp [List.getD_eq_getElem?_getD, hl]
    · have := (hs.1 i hi)
      unfold ow4 at this
      rw [if_neg hl] at this
      simp [List.getD_eq_getElem?_getD, hl]
      omega
  refine ⟨fun i hi => by show 0 ≤ (lcF ts).getD i 0 ∧ (lcF ts).getD i 0 ≤ _; rw [e i hi]; exact hs.1 i hi, hs.2.1.congr (fun i hi => (e i (by omega)).symm), fun q g1 g2 => ?_⟩
  have := hs.2.2 q g1 g2
  unfold MF at this ⊢
  simp only [e 0 (by omega), e 1 (by omega), e 2 (by omega), e 3 (by omega)]
  exact this
theorem lc_eq {ts : List (List Int)} (hv : ∀ t ∈ ts, VT t) (hn : ts.length ≤ 4) {l : List Int} (hl : l.length = ts.length) (h : IsLC ts (fun i => l.getD i 0)) : l = lcF ts := by
  have h2 := h.same hv (lcF_is hv hn)
  apply List.ext_getElem?
  intro i
  by_cases hi : i < ts.length
  · have := h2 i (by omega)
    simp only [List.getD_eq_getElem?_getD] at this
    rw [List.getElem?_eq_getElem (by omega), List.getElem?_eq_getElem (by rw [lcF_len hv hn]; omega)] at this ⊢
    simpa using this
  · rw [List.getElem?_eq_none (by omega), List.getElem?_eq_none (by rw [lcF_len hv hn]; omega)]
theorem smF_four {ts : List (List Int)} {p : Nat → Int} (h : In4 ts p) (hn : ts.length ≤ 4) : smF p ts.length = p 0 + p 1 + p 2 + p 3 := by
  have z : ∀ i, i < 4 → ts.length ≤ i → p i = 0 := fun i hi hl => by
    have := h i hi
    unfold ow4 at this
    rw [if_neg (by omega)] at this
    omega
  have : ts.length = 0 ∨ ts.length = 1 ∨ ts.length = 2 ∨ ts.length = 3 ∨ ts.length = 4 := by omega
  rcases this with e | e | e | e | e <;> rw [e] <;> simp only [smF]
  · rw [z 0 (by omega) (by omega), z 1 (by omega) (by omega), z 2 (by omega) (by omega), z 3 (by omega) (by omega)]; rfl
  · rw [z 1 (by omega) (by omega), z 2 (by omega) (by omega), z 3 (by omega) (by omega)]; omega
  · rw [z 2 (by omega) (by omega), z 3 (by omega) (by omega)]; omega
  · rw [z 3 (by omega) (by omega)]; omega
  · omega
/-- The pivots, 0 where there is no bidder. -/
noncomputable def pv4 (ts : List (List Int)) (i : Nat) : Int := if i < ts.length then pvF ts i else 0
theorem pv4_in {ts : List (List Int)} (hv : ∀ t ∈ ts, VT t) (hn : ts.length ≤ 4) : In4 ts (pv4 ts) := fun i _ => by
  unfold ow4 pv4
  by_cases hl : i < ts.length
  · simp only [if_pos hl]; exact ⟨pv_nn hl, pv_le hv hn hl⟩
  · simp only [if_neg hl]; omega
/-- The least core: no less than the pivots, just they if they are in the core. -/
theorem lc_pivots {ts : List (List Int)} (hv : ∀ t ∈ ts, VT t) (hn : ts.length ≤ 4) {p : Nat → Int} (h : IsLC ts p) :
    smF (pvF ts) ts.length ≤ smF p ts.length ∧ (InC ts (pvF ts) ↔ smF p ts.length = smF (pvF ts) ts.length) := by
  have h1 : ∀ i, i < ts.length → pvF ts i ≤ p i := fun i hi => inC_pivots hv hn h.2.1 hi
  have h2 := smF_le h1
  refine ⟨h2, fun hi => ?_, fun he => ?_⟩
  · have e : ∀ i, i < ts.length → pvF ts i = pv4 ts i := fun i hi => by unfold pv4; rw [if_pos hi]
    have h3 := h.2.2 _ (pv4_in hv hn) (hi.congr e)
    have s1 := smF_four h.1 hn
    have s2 := smF_four (pv4_in hv hn) hn
    rw [← smF_congr e] at s2
    have a := h.1.all hv
    have b := (pv4_in hv hn).all hv
    exact Int.le_antisymm (by rw [s1, s2]; exact MF_sum a b h3) h2
  · have h3 := smF_eq h1 (by omega)
    exact h.2.1.congr (fun i hi => (h3 i hi).symm)

end Go.Proofs.Ytpildecpabeanaa

/-
  Chapter 9, the program: the payments that follow.
-/
namespace Go.Proofs.Ytpildecpabeanaa
open Go.RowKit

theorem wp_onceD {P : Program} {c : Code} {K : Act → World → Prop} {Q : Exit → Act → World → Prop} {a : Act} {w : World} {a0 : Act} {w0 : World} (h : ∀ K1 : Act → World → Prop, K1 a0 w0 → c.wp P (Exit.then K1 Q) a w) (hk : K a0 w0) : c.wp P (Exit.then K Q) a w := h K hk
/-- Payments of which the numbers behind a are 0, and their sum. -/
def cz (p : Nat → Int) (a k : Nat) : Int := if k ≤ a then p k else 0
def czS (p : Nat → Int) (a : Nat) : Int := cz p a 0 + cz p a 1 + cz p a 2 + cz p a 3
def czL (p : Nat → Int) (a : Nat) : List Int := [cz p a 0, cz p a 1, cz p a 2, cz p a 3, czS p a]
theorem czL_at (p : Nat → Int) {a : Nat} (h : a < 4) : T (czL p a) a = p a := by rcases nat4 h with rfl | rfl | rfl | rfl <;> simp [czL, T, cz]
theorem czL_sum (p : Nat → Int) (a : Nat) : T (czL p a) 4 = czS p a := rfl
theorem czL_step (p : Nat → Int) {a : Nat} (h : a + 1 < 4) : ((czL p (a + 1)).set 4 (czS p (a + 1) - p (a + 1))).set (a + 1) 0 = czL p a := by
  rcases nat3 (j := a) (by omega) with rfl | rfl | rfl <;> simp [czL, cz, czS] <;> omega
theorem cz_bd {p : Nat → Int} (hp : ∀ i, i < 4 → 0 ≤ p i ∧ p i ≤ 30) (a : Nat) : 0 ≤ czS p a ∧ czS p a ≤ 120 := by
  have key : ∀ k, k < 4 → 0 ≤ cz p a k ∧ cz p a k ≤ 30 := fun k hk => by
    have := hp k hk
    unfold cz
    split <;> omega
  have h0 := key 0 (by omega)
  have h1 := key 1 (by omega)
  have h2 := key 2 (by omega)
  have h3 := key 3 (by omega)
  unfold czS
  omega
/-- The payments that follow, where a is the last place with a number that is not the greatest one. -/
def nxL (p : Nat → Int) (a : Nat) : List Int := ((czL p a).set a (p a + 1)).set 4 (czS p a + 1)
/-- The last place of two that differ. -/
def LastNe (p o : Nat → Int) (a : Nat) : Prop := a < 4 ∧ p a ≠ o a ∧ ∀ i, a < i → i < 4 → p i = o i

set_option maxRecDepth 100000 in
set_option maxHeartbeats 4000000 in
theorem next_pay (p o : Nat → Int) (s t : Int) (w : World) (hp : ∀ i, i < 4 → 0 ≤ p i ∧ p i ≤ 30) (hs : s = czS p 3) (hne : ∃ i, i < 4 ∧ p i ≠ o i) :
    Calls Try.prog 144 #[pmV p s, pmV o t] w fun e w' => (∃ a, LastNe p o a ∧ e = .returned (pmV (T (nxL p a)) (T (nxL p a) 4))) ∧ Below w.heap.size w w' := by
  have HBD := Lib.hid (cz_bd hp)
  have HPB := Lib.hid hp
  have HNE := Lib.hid hne
  obtain ⟨W, hW⟩ : ∃ W, W = ((w.alloc (.cells #[.int .i64 (p 0), .int .i64 (p 1), .int .i64 (p 2), .int .i64 (p 3), .int .i64 s] 71)).alloc (.cells #[.int .i64 (o 0), .int .i64 (o 1), .int .i64 (o 2), .int .i64 (o 3), .int .i64 t] 71)).alloc (.cells #[.int .i64 0, .int .i64 0, .int .i64 0, .int .i64 0, .int .i64 0] 71) := ⟨_, rfl⟩
  have hsz : ∀ (w : World) (o : Obj), (w.alloc o).heap.size = w.heap.size + 1 := fun w o => by simp
  have HP0 : Hid (Pm W w.heap.size (czL p 3)) := Lib.hid (by
    have h1 := Pm.alloc (Pm.alloc (Pm.new w [p 0, p 1, p 2, p 3, s] rfl) (.cells #[.int .i64 (o 0), .int .i64 (o 1), .int .i64 (o 2), .int .i64 (o 3), .int .i64 t] 71)) (.cells #[.int .i64 0, .int .i64 0, .int .i64 0, .int .i64 0, .int .i64 0] 71)
    rw [hW]
    rw [show czL p 3 = [p 0, p 1, p 2, p 3, s] from by rw [hs]; rfl]
    exact h1)
  have HP1 : Hid (Pm W (w.heap.size + 1) [o 0, o 1, o 2, o 3, t]) := Lib.hid (by
    have h1 := Pm.alloc (Pm.new (w.alloc (.cells #[.int .i64 (p 0), .int .i64 (p 1), .int .i64 (p 2), .int .i64 (p 3), .int .i64 s] 71)) [o 0, o 1, o 2, o 3, t] rfl) (.cells #[.int .i64 0, .int .i64 0, .int .i64 0, .int .i64 0, .int .i64 0] 71)
    rw [hsz] at h1
    rw [hW]; exact h1)
  have HP2 : Hid (Pm W (w.heap.size + 1 + 1) (List.replicate 5 0)) := Lib.hid (by
    have h1 := Pm.new ((w.alloc (.cells #[.int .i64 (p 0), .int .i64 (p 1), .int .i64 (p 2), .int .i64 (p 3), .int .i64 s] 71)).alloc (.cells #[.int .i64 (o 0), .int .i64 (o 1), .int .i64 (o 2), .int .i64 (o 3), .int .i64 t] 71)) (List.replicate 5 0) rfl
    rw [hsz, hsz] at h1
    rw [hW]; exact h1)
  have HB : Hid (Below w.heap.size w W) := Lib.hid (by rw [hW]; exact (((Below.refl _ w).alloc (Nat.le_refl _) _).alloc (by simp) _).alloc (by simp; omega) _)
  have HW := Lib.hid hW
  have HOT : Hid (∀ a, a < 4 → T [o 0, o 1, o 2, o 3, t] a = o a) := Lib.hid (fun a ha => by rcases nat4 ha with rfl | rfl | rfl | rfl <;> rfl)
  clear hW hp hs hne hsz
  unfold pmV
  go_enter Try.func144, Try.ntmps144
  go_wp2_with fail
  rw [← HW.out]
  clear HW
  go_loopw [5] (fun iv wr => ∃ a : Nat, a < 4 ∧ iv = .int .i64 (a : Int) ∧ Hid (∀ i, a < i → i < 4 → p i = o i) ∧ Hid (Pm wr w.heap.size (czL p a)) ∧ Hid (Pm wr (w.heap.size + 1) [o 0, o 1, o 2, o 3, t]) ∧ Hid (Pm wr (w.heap.size + 1 + 1) (List.replicate 5 0)) ∧ Hid (Below w.heap.size w wr)) (fun iv _ => (intOf iv).toNat)
  case atStart => exact ⟨3, by omega, rfl, Lib.hid (fun i h1 h2 => absurd h1 (by omega)), HP0, HP1, HP2, HB⟩
  case round =>
    obtain ⟨a, ha, rfl, HI, HQ0, HQ1, HQ2, HBr⟩ := hrel
    have c1 := HQ0.out.cell (k := a) (by omega)
    have c2 := HQ1.out.cell (k := a) (by omega)
    have c4 := HQ0.out.cell (k := 4) (by omega)
    rw [czL_at p ha] at c1
    rw [HOT.out a ha] at c2
    rw [czL_sum] at c4
    have hcb := HBD.out a
    have hpb := HPB.out a ha
    obtain ⟨S, hS⟩ : ∃ S, S = czS p a := ⟨_, rfl⟩
    obtain ⟨x, hx⟩ : ∃ x, x = p a := ⟨_, rfl⟩
    obtain ⟨y, hy⟩ : ∃ y, y = o a := ⟨_, rfl⟩
    rw [← hS] at c4 hcb
    rw [← hx] at c1 hpb
    rw [← hy] at c2
    have ha0 : (0 : Int) ≤ (a : Int) := by omega
    have ha4 : (a : Int) < 4 := by omega
    by_cases he : x = y
    · have ha1 : 1 ≤ a := by
        rcases Nat.eq_zero_or_pos a with h0 | h0
        · obtain ⟨i, h1, h2⟩ := HNE.out
          exfalso
          apply h2
          rcases Nat.eq_zero_or_pos i with h3 | h3
          · rw [h3, ← h0, ← hx, ← hy, he]
          · exact HI.out i (by omega) h1
        · exact h0
      obtain ⟨b, hab⟩ : ∃ b, a = b + 1 := ⟨a - 1, by omega⟩
      have HAB := Lib.hid hab
      have hxy : (x == y) = true := by simpa using he
      have e1 : IntKind.i64.wrap (S - x) = S - x := IntWalk.i64_in _ (by omega)
      have e2 : IntKind.i64.wrap ((a : Int) - 1) = (b : Int) := by rw [show (a : Int) - 1 = (b : Int) by omega]; exact IntWalk.i64_in _ (by omega)
      clear hab
      have HI1 : Hid (∀ i, b < i → i < 4 → p i = o i) := Lib.hid (fun i h1 h2 => by
        rcases Nat.lt_or_ge a i with h3 | h3
        · exact HI.out i h3 h2
        · rw [show i = a by have := HAB.out; omega, ← hx, ← hy, he])
      have HSq := Lib.hid hS
      have HXq := Lib.hid hx
      have HYq := Lib.hid hy
      clear hS hx hy he
      go_wp2_with fail
      go_quiet (fail)
      obtain ⟨W1, hW1⟩ : ∃ W1, W1 = wr.drewN nq := ⟨_, rfl⟩
      rw [← hW1]
      have HQ0 : Hid (Pm W1 w.heap.size (czL p a)) := Lib.hid (by rw [hW1]; exact HQ0.out)
      have HQ1 : Hid (Pm W1 (w.heap.size + 1) [o 0, o 1, o 2, o 3, t]) := Lib.hid (by rw [hW1]; exact HQ1.out)
      have HQ2 : Hid (Pm W1 (w.heap.size + 1 + 1) (List.replicate 5 0)) := Lib.hid (by rw [hW1]; exact HQ2.out)
      have HBr : Hid (Below w.heap.size w W1) := Lib.hid (by rw [hW1]; exact below_drewN' HBr.out _)
      have hS := HSq.out
      have hx := HXq.out
      have hy := HYq.out
      have c1 := HQ0.out.cell (k := a) (by omega)
      have c4 := HQ0.out.cell (k := 4) (by omega)
      rw [czL_at p ha, ← hx] at c1
      rw [czL_sum, ← hS] at c4
      have f4 := HQ0.out.free 4
      have fa := HQ0.out.free a
      clear hW1
      have hq1 := HQ0.out.set_ (k := 4) (S - x)
      have c5 := hq1.cell (k := a) (by omega)
      have f5 := hq1.free a
      have hq2 := hq1.set_ (k := a) 0
      have HQ0' : Hid (Pm ((W1.setCell ⟨w.heap.size, 4, none⟩ (.int .i64 (S - x))).setCell ⟨w.heap.size, a, none⟩ (.int .i64 0)) w.heap.size (czL p b)) := Lib.hid (by
        have hst : ((czL p a).set 4 (czS p a - p a)).set a 0 = czL p b := by have h7 := HAB.out; subst h7; exact czL_step p (by omega)
        rw [hS, hx, hst] at hq2
        rw [hS, hx]; exact hq2)
      have HQ1' : Hid (Pm ((W1.setCell ⟨w.heap.size, 4, none⟩ (.int .i64 (S - x))).setCell ⟨w.heap.size, a, none⟩ (.int .i64 0)) (w.heap.size + 1) [o 0, o 1, o 2, o 3, t]) := Lib.hid ((HQ1.out.other (by omega)).other (by omega))
      have HQ2' : Hid (Pm ((W1.setCell ⟨w.heap.size, 4, none⟩ (.int .i64 (S - x))).setCell ⟨w.heap.size, a, none⟩ (.int .i64 0)) (w.heap.size + 1 + 1) (List.replicate 5 0)) := Lib.hid ((HQ2.out.other (by omega)).other (by omega))
      have HB' := Lib.hid (below_al4p (k := a) (v := .int .i64 0) (below_al4p (k := 4) (v := .int .i64 (S - x)) HBr.out))
      obtain ⟨z, hz⟩ : ∃ z, z = T ((czL p a).set 4 (S - x)) a := ⟨_, rfl⟩
      rw [← hz] at c5
      clear hq1 hq2 hS hx hy hz HQ0 HQ1 HQ2
      go_wp2_with fail
      go_still_tail 7, (by kernel_rfl)
      change wpList _ _ _ _ _ W1.drew
      go_wp2_with fail
      exact ⟨⟨b, by have := HAB.out; omega, rfl, HI1, Lib.hid (HQ0'.out.keep rfl), Lib.hid (HQ1'.out.keep rfl), Lib.hid (HQ2'.out.keep rfl), Lib.hid (below_al4p (below_al4p (below_drewN' HBr.out 1)))⟩, by have := HAB.out; simp only [intOf]; omega⟩
    · have hxy : (x == y) = false := by simpa using he
      have e1 : IntKind.i64.wrap (x + 1) = x + 1 := IntWalk.i64_in _ (by omega)
      have e2 : IntKind.i64.wrap (S + 1) = S + 1 := IntWalk.i64_in _ (by omega)
      have HLN : Hid (LastNe p o a) := Lib.hid ⟨ha, by rw [← hx, ← hy]; exact he, HI.out⟩
      have HSq := Lib.hid hS
      have HXq := Lib.hid hx
      have HYq := Lib.hid hy
      clear hS hx hy he
      go_wp2_with fail
      go_quiet (fail)
      obtain ⟨W1, hW1⟩ : ∃ W1, W1 = wr.drewN nq := ⟨_, rfl⟩
      rw [← hW1]
      have HQ0 : Hid (Pm W1 w.heap.size (czL p a)) := Lib.hid (by rw [hW1]; exact HQ0.out)
      have HQ1 : Hid (Pm W1 (w.heap.size + 1) [o 0, o 1, o 2, o 3, t]) := Lib.hid (by rw [hW1]; exact HQ1.out)
      have HQ2 : Hid (Pm W1 (w.heap.size + 1 + 1) (List.replicate 5 0)) := Lib.hid (by rw [hW1]; exact HQ2.out)
      have HBr : Hid (Below w.heap.size w W1) := Lib.hid (by rw [hW1]; exact below_drewN' HBr.out _)
      have hS := HSq.out
      have hx := HXq.out
      have hy := HYq.out
      have c1 := HQ0.out.cell (k := a) (by omega)
      have c4 := HQ0.out.cell (k := 4) (by omega)
      rw [czL_at p ha, ← hx] at c1
      rw [czL_sum, ← hS] at c4
      have f4 := HQ0.out.free 4
      have fa := HQ0.out.free (a)
      clear hW1
      have hq1 := HQ0.out.set_ (k := a) (x + 1)
      have c5 := hq1.cell (k := 4) (by omega)
      rw [show T ((czL p a).set a (x + 1)) 4 = S by rw [hS, T_set (by show a < 5; omega), if_neg (by omega)]; rfl] at c5
      have f5 := hq1.free 4
      have hq2 := hq1.set_ (k := 4) (S + 1)
      rw [show ((czL p a).set a (x + 1)).set 4 (S + 1) = nxL p a by rw [hS, hx]; rfl] at hq2
      obtain ⟨d0, d1, d2, d3, d4⟩ := hq2.all
      have hr2 := (HQ2.out.other (m' := w.heap.size) (k := a) (v := .int .i64 (x + 1)) (by omega)).other (m' := w.heap.size) (k := 4) (v := .int .i64 (S + 1)) (by omega)
      have HB6 := Lib.hid (below_al4p (k := 4) (v := .int .i64 (S + 1)) (below_al4p (k := a) (v := .int .i64 (x + 1)) HBr.out))
      obtain ⟨v0, hv0⟩ : ∃ v, v = T (nxL p a) 0 := ⟨_, rfl⟩
      obtain ⟨v1, hv1⟩ : ∃ v, v = T (nxL p a) 1 := ⟨_, rfl⟩
      obtain ⟨v2, hv2⟩ : ∃ v, v = T (nxL p a) 2 := ⟨_, rfl⟩
      obtain ⟨v3, hv3⟩ : ∃ v, v = T (nxL p a) 3 := ⟨_, rfl⟩
      obtain ⟨v4, hv4⟩ : ∃ v, v = T (nxL p a) 4 := ⟨_, rfl⟩
      have HPV : Hid (pmV (T (nxL p a)) (T (nxL p a) 4) = .agg #[.int .i64 v0, .int .i64 v1, .int .i64 v2, .int .i64 v3, .int .i64 v4]) := Lib.hid (by unfold pmV; rw [hv0, hv1, hv2, hv3, hv4])
      rw [← hv0] at d0
      rw [← hv1] at d1
      rw [← hv2] at d2
      rw [← hv3] at d3
      rw [← hv4] at d4
      have f0' := hr2.free 0
      have f1' := hr2.free 1
      have f2' := hr2.free 2
      have f3' := hr2.free 3
      have f4' := hr2.free 4
      obtain ⟨r0, r1, r2, r3, r4⟩ := hr2.all
      have a0 := hr2.set_ (k := 0) v0
      have s0 := hr2.got (k := 0) (by omega) v0
      have a1 := a0.set_ (k := 1) v1
      have s1 := a0.got (k := 1) (by omega) v1
      have a2 := a1.set_ (k := 2) v2
      have s2 := a1.got (k := 2) (by omega) v2
      have a3 := a2.set_ (k := 3) v3
      have s3 := a2.got (k := 3) (by omega) v3
      have s4 := a3.got (k := 4) (by omega) v4
      have HBF : Hid (Below w.heap.size w (((((((W1.setCell ⟨w.heap.size, a, none⟩ (.int .i64 (x + 1))).setCell ⟨w.heap.size, 4, none⟩ (.int .i64 (S + 1))).setCell ⟨w.heap.size + 1 + 1, 0, none⟩ (.int .i64 v0)).setCell ⟨w.heap.size + 1 + 1, 1, none⟩ (.int .i64 v1)).setCell ⟨w.heap.size + 1 + 1, 2, none⟩ (.int .i64 v2)).setCell ⟨w.heap.size + 1 + 1, 3, none⟩ (.int .i64 v3)).setCell ⟨w.heap.size + 1 + 1, 4, none⟩ (.int .i64 v4))) := Lib.hid (below_al2 (below_al2 (below_al2 (below_al2 (below_al2 HB6.out)))))
      clear hq1 hq2 hr2 a0 a1 a2 a3 hS hx hy hv0 hv1 hv2 hv3 hv4 HQ0 HQ1 HQ2 HBr
      go_wp2_with fail
      refine bodyPost_ret (by simp [results, Try.results144, go_sem, s0, s1, s2, s3, s4]; try rfl) rfl ?_
      exact ⟨⟨a, HLN.out, congrArg Ending.returned HPV.out.symm⟩, HBF.out⟩

end Go.Proofs.Ytpildecpabeanaa

/-
  Chapter 9, plain: the least payments by trying all, one after another.
-/
namespace Go.Proofs.Ytpildecpabeanaa
open Go.RowKit

/-- One after the other, by the first number that differs. -/
def LexLt (p q : Nat → Int) : Prop := p 0 < q 0 ∨ (p 0 = q 0 ∧ (p 1 < q 1 ∨ (p 1 = q 1 ∧ (p 2 < q 2 ∨ (p 2 = q 2 ∧ p 3 < q 3)))))
def Eq4 (p q : Nat → Int) : Prop := p 0 = q 0 ∧ p 1 = q 1 ∧ p 2 = q 2 ∧ p 3 = q 3
/-- No more than the most ones. -/
structure InO (o p : Nat → Int) : Prop where
  i0 : 0 ≤ p 0 ∧ p 0 ≤ o 0
  i1 : 0 ≤ p 1 ∧ p 1 ≤ o 1
  i2 : 0 ≤ p 2 ∧ p 2 ≤ o 2
  i3 : 0 ≤ p 3 ∧ p 3 ≤ o 3
def O30 (o : Nat → Int) : Prop := (0 ≤ o 0 ∧ o 0 ≤ 30) ∧ (0 ≤ o 1 ∧ o 1 ≤ 30) ∧ (0 ≤ o 2 ∧ o 2 ≤ 30) ∧ (0 ≤ o 3 ∧ o 3 ≤ 30)
def sm4 (p : Nat → Int) : Int := p 0 + p 1 + p 2 + p 3
theorem mf_sum {o p q : Nat → Int} (ho : O30 o) (hp : InO o p) (hq : InO o q) (h : sm4 p < sm4 q) : MF p ≤ MF q := by
  obtain ⟨o0, o1, o2, o3⟩ := ho
  obtain ⟨a0, a1, a2, a3⟩ := hp
  obtain ⟨b0, b1, b2, b3⟩ := hq
  unfold sm4 at h
  unfold MF
  generalize p 0 + p 1 + p 2 + p 3 = s at h ⊢
  generalize q 0 + q 1 + q 2 + q 3 = r at h ⊢
  omega
theorem mf_lex {o p q : Nat → Int} (ho : O30 o) (hp : InO o p) (hq : InO o q) (h : sm4 p = sm4 q) (hl : LexLt p q) : MF p ≤ MF q := by
  obtain ⟨o0, o1, o2, o3⟩ := ho
  obtain ⟨a0, a1, a2, a3⟩ := hp
  obtain ⟨b0, b1, b2, b3⟩ := hq
  unfold sm4 at h
  unfold MF
  rw [h]
  generalize q 0 + q 1 + q 2 + q 3 = r at h ⊢
  clear h
  unfold LexLt at hl
  omega
theorem mf_eq {p q : Nat → Int} (h : Eq4 p q) : MF p = MF q := by
  unfold Eq4 at h
  unfold MF
  rw [h.1, h.2.1, h.2.2.1, h.2.2.2]
/-- How far it is to the end. -/
def mz (p : Nat → Int) : Int := 29791 * (30 - p 0) + 961 * (30 - p 1) + 31 * (30 - p 2) + (30 - p 3)
theorem last_some {o p : Nat → Int} (h : ¬ Eq4 p o) : ∃ i, i < 4 ∧ p i ≠ o i := by
  unfold Eq4 at h
  by_cases h0 : p 0 = o 0
  · by_cases h1 : p 1 = o 1
    · by_cases h2 : p 2 = o 2
      · exact ⟨3, by omega, fun h3 => h ⟨h0, h1, h2, h3⟩⟩
      · exact ⟨2, by omega, h2⟩
    · exact ⟨1, by omega, h1⟩
  · exact ⟨0, by omega, h0⟩
theorem nxL_vals (p : Nat → Int) : (T (nxL p 0) 0 = p 0 + 1 ∧ T (nxL p 0) 1 = 0 ∧ T (nxL p 0) 2 = 0 ∧ T (nxL p 0) 3 = 0 ∧ T (nxL p 0) 4 = p 0 + 1) ∧
    (T (nxL p 1) 0 = p 0 ∧ T (nxL p 1) 1 = p 1 + 1 ∧ T (nxL p 1) 2 = 0 ∧ T (nxL p 1) 3 = 0 ∧ T (nxL p 1) 4 = p 0 + p 1 + 1) ∧
    (T (nxL p 2) 0 = p 0 ∧ T (nxL p 2) 1 = p 1 ∧ T (nxL p 2) 2 = p 2 + 1 ∧ T (nxL p 2) 3 = 0 ∧ T (nxL p 2) 4 = p 0 + p 1 + p 2 + 1) ∧
    (T (nxL p 3) 0 = p 0 ∧ T (nxL p 3) 1 = p 1 ∧ T (nxL p 3) 2 = p 2 ∧ T (nxL p 3) 3 = p 3 + 1 ∧ T (nxL p 3) 4 = p 0 + p 1 + p 2 + p 3 + 1) := by
  simp [nxL, czL, czS, cz, T]
theorem lex_or {p q : Nat → Int} (h : q 0 < p 0 ∨ (q 0 = p 0 ∧ q 1 < p 1) ∨ (q 0 = p 0 ∧ q 1 = p 1 ∧ q 2 < p 2) ∨ (q 0 = p 0 ∧ q 1 = p 1 ∧ q 2 = p 2 ∧ q 3 < p 3) ∨ (q 0 = p 0 ∧ q 1 = p 1 ∧ q 2 = p 2 ∧ q 3 = p 3)) : LexLt q p ∨ Eq4 q p := by
  rcases h with h | h | h | h | h
  · exact .inl (.inl h)
  · exact .inl (.inr ⟨h.1, .inl h.2⟩)
  · exact .inl (.inr ⟨h.1, .inr ⟨h.2.1, .inl h.2.2⟩⟩)
  · exact .inl (.inr ⟨h.1, .inr ⟨h.2.1, .inr ⟨h.2.2.1, h.2.2.2⟩⟩⟩)
  · exact .inr h
set_option maxHeartbeats 2000000 in
/-- What the payments that follow are. -/
theorem next_says {o p : Nat → Int} {a : Nat} (ho : O30 o) (hp : InO o p) (h : LastNe p o a) :
    InO o (T (nxL p a)) ∧ T (nxL p a) 4 = sm4 (T (nxL p a)) ∧ mz (T (nxL p a)) < mz p ∧ LexLt p (T (nxL p a)) ∧ ∀ q, InO o q → LexLt q (T (nxL p a)) → LexLt q p ∨ Eq4 q p := by
  obtain ⟨h4, hne, hs⟩ := h
  obtain ⟨o0, o1, o2, o3⟩ := ho
  obtain ⟨a0, a1, a2, a3⟩ := hp
  obtain ⟨v0, v1, v2, v3⟩ := nxL_vals p
  rcases nat4 h4 with rfl | rfl | rfl | rfl
  · obtain ⟨e0, e1, e2, e3, e4⟩ := v0
    have s1 := hs 1 (by omega) (by omega); have s2 := hs 2 (by omega) (by omega); have s3 := hs 3 (by omega) (by omega)
    refine ⟨⟨by omega, by omega, by omega, by omega⟩, by unfold sm4; omega, by unfold mz; omega, by unfold LexLt; omega, fun q hq hl => ?_⟩
    obtain ⟨b0, b1, b2, b3⟩ := hq
    refine lex_or ?_
    rcases hl with hl | ⟨hl0, hl | ⟨hl1, hl | ⟨hl2, hl⟩⟩⟩ <;>
    (by_cases c0 : q 0 < p 0
     · exact .inl c0
     · by_cases c1 : q 1 < p 1
       · exact .inr (.inl ⟨by omega, c1⟩)
       · by_cases c2 : q 2 < p 2
         · exact .inr (.inr (.inl ⟨by omega, by omega, c2⟩))
         · by_cases c3 : q 3 < p 3
           · exact .inr (.inr (.inr (.inl ⟨by omega, by omega, by omega, c3⟩)))
           · exact .inr (.inr (.inr (.inr ⟨by omega, by omega, by omega, by omega⟩))))
  · obtain ⟨e0, e1, e2, e3, e4⟩ := v1
    have s2 := hs 2 (by omega) (by omega); have s3 := hs 3 (by omega) (by omega)
    refine ⟨⟨by omega, by omega, by omega, by omega⟩, by unfold sm4; omega, by unfold mz; omega, by unfold LexLt; omega, fun q hq hl => ?_⟩
    obtain ⟨b0, b1, b2, b3⟩ := hq
    refine lex_or ?_
    rcases hl with hl | ⟨hl0, hl | ⟨hl1, hl | ⟨hl2, hl⟩⟩⟩ <;>
    (by_cases c0 : q 0 < p 0
     · exact .inl c0
     · by_cases c1 : q 1 < p 1
       · exact .inr (.inl ⟨by omega, c1⟩)
       · by_cases c2 : q 2 < p 2
         · exact .inr (.inr (.inl ⟨by omega, by omega, c2⟩))
         · by_cases c3 : q 3 < p 3
           · exact .inr (.inr (.inr (.inl ⟨by omega, by omega, by omega, c3⟩)))
           · exact .inr (.inr (.inr (.inr ⟨by omega, by omega, by omega, by omega⟩))))
  · obtain ⟨e0, e1, e2, e3, e4⟩ := v2
    have s3 := hs 3 (by omega) (by omega)
    refine ⟨⟨by omega, by omega, by omega, by omega⟩, by unfold sm4; omega, by unfold mz; omega, by unfold LexLt; omega, fun q hq hl => ?_⟩
    obtain ⟨b0, b1, b2, b3⟩ := hq
    refine lex_or ?_
    rcases hl with hl | ⟨hl0, hl | ⟨hl1, hl | ⟨hl2, hl⟩⟩⟩ <;>
    (by_cases c0 : q 0 < p 0
     · exact .inl c0
     · by_cases c1 : q 1 < p 1
       · exact .inr (.inl ⟨by omega, c1⟩)
       · by_cases c2 : q 2 < p 2
         · exact .inr (.inr (.inl ⟨by omega, by omega, c2⟩))
         · by_cases c3 : q 3 < p 3
           · exact .inr (.inr (.inr (.inl ⟨by omega, by omega, by omega, c3⟩)))
           · exact .inr (.inr (.inr (.inr ⟨by omega, by omega, by omega, by omega⟩))))
  · obtain ⟨e0, e1, e2, e3, e4⟩ := v3
    refine ⟨⟨by omega, by omega, by omega, by omega⟩, by unfold sm4; omega, by unfold mz; omega, by unfold LexLt; omega, fun q hq hl => ?_⟩
    obtain ⟨b0, b1, b2, b3⟩ := hq
    refine lex_or ?_
    rcases hl with hl | ⟨hl0, hl | ⟨hl1, hl | ⟨hl2, hl⟩⟩⟩ <;>
    (by_cases c0 : q 0 < p 0
     · exact .inl c0
     · by_cases c1 : q 1 < p 1
       · exact .inr (.inl ⟨by omega, c1⟩)
       · by_cases c2 : q 2 < p 2
         · exact .inr (.inr (.inl ⟨by omega, by omega, c2⟩))
         · by_cases c3 : q 3 < p 3
           · exact .inr (.inr (.inr (.inl ⟨by omega, by omega, by omega, c3⟩)))
           · exact .inr (.inr (.inr (.inr ⟨by omega, by omega, by omega, by omega⟩))))
/-- The best so far of all up to p, and the most ones. -/
structure BestTo (o : Nat → Int) (C : (Nat → Int) → Prop) (p b : Nat → Int) : Prop where
  inO : InO o b
  core : C b
  low : LexLt b p ∨ Eq4 b o
  least : ∀ q, InO o q → C q → (LexLt q p ∨ Eq4 q o) → MF b ≤ MF q
theorem InO.refl {o : Nat → Int} (h : O30 o) : InO o o := ⟨⟨h.1.1, Int.le_refl _⟩, ⟨h.2.1.1, Int.le_refl _⟩, ⟨h.2.2.1.1, Int.le_refl _⟩, ⟨h.2.2.2.1, Int.le_refl _⟩⟩
theorem BestTo.start {o z : Nat → Int} {C : (Nat → Int) → Prop} (ho : O30 o) (hz : z 0 = 0 ∧ z 1 = 0 ∧ z 2 = 0 ∧ z 3 = 0) (hC : C o) : BestTo o C z o := by
  refine ⟨InO.refl ho, hC, .inr ⟨rfl, rfl, rfl, rfl⟩, fun q hq _ h => ?_⟩
  rcases h with h | h
  · obtain ⟨b0, b1, b2, b3⟩ := hq
    unfold LexLt at h
    omega
  · rw [mf_eq h]; exact Int.le_refl _
theorem BestTo.take {o p b : Nat → Int} {C : (Nat → Int) → Prop} {a : Nat} (ho : O30 o) (hp : InO o p) (h : BestTo o C p b) (hn : LastNe p o a) (hs : sm4 p < sm4 b) (hC : C p) : BestTo o C (T (nxL p a)) p := by
  obtain ⟨_, _, _, n4, n5⟩ := next_says ho hp hn
  refine ⟨hp, hC, .inl n4, fun q hq hcq hl => ?_⟩
  have h1 := mf_sum ho hp h.inO hs
  rcases hl with hl | hl
  · rcases n5 q hq hl with h2 | h2
    · exact Int.le_trans h1 (h.least q hq hcq (.inl h2))
    · rw [mf_eq h2]; exact Int.le_refl _
  · exact Int.le_trans h1 (h.least q hq hcq (.inr hl))
theorem lex_trans {p q r : Nat → Int} (h1 : LexLt p q) (h2 : LexLt q r) : LexLt p r := by unfold LexLt at *; omega
theorem BestTo.skip {o p b : Nat → Int} {C : (Nat → Int) → Prop} {a : Nat} (ho : O30 o) (hp : InO o p) (h : BestTo o C p b) (hn : LastNe p o a) (hs : ¬ (sm4 p < sm4 b ∧ C p)) (hcg : ∀ q, Eq4 q p → C q → C p) : BestTo o C (T (nxL p a)) b := by
  obtain ⟨_, _, _, n4, n5⟩ := next_says ho hp hn
  refine ⟨h.inO, h.core, h.low.imp (fun h1 => lex_trans h1 n4) id, fun q hq hcq hl => ?_⟩
  rcases hl with hl | hl
  · rcases n5 q hq hl with h2 | h2
    · exact h.least q hq hcq (.inl h2)
    · have h3 : sm4 b ≤ sm4 p := Int.not_lt.1 (fun h4 => hs ⟨h4, hcg q h2 hcq⟩)
      rw [mf_eq h2]
      rcases Int.lt_or_eq_of_le h3 with h4 | h4
      · exact mf_sum ho h.inO hp h4
      · rcases h.low with h5 | h5
        · exact mf_lex ho h.inO hp h4 h5
        · exfalso
          obtain ⟨n1, n2, n3⟩ := hn
          apply n2
          obtain ⟨a0, a1, a2, a3⟩ := hp
          unfold Eq4 at h5
          unfold sm4 at h4
          have : p 0 = o 0 ∧ p 1 = o 1 ∧ p 2 = o 2 ∧ p 3 = o 3 := by omega
          rcases nat4 n1 with rfl | rfl | rfl | rfl <;> omega
  · exact h.least q hq hcq (.inr hl)
theorem BestTo.last {o p b : Nat → Int} {C : (Nat → Int) → Prop} (h : BestTo o C p b) (he : Eq4 p o) : ∀ q, InO o q → C q → MF b ≤ MF q := fun q hq hc => h.least q hq hc (by
  obtain ⟨b0, b1, b2, b3⟩ := hq
  unfold Eq4 at *
  unfold LexLt
  omega)

end Go.Proofs.Ytpildecpabeanaa
