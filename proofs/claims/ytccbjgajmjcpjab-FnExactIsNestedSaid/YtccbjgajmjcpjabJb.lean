/-
  Chapter 6, plain: tables of two bidders as one: their things may be moved if those of both may.
-/
import Derived.Test.YtccbjgajmjcpjabJa
namespace Go.Proofs.Ytccbjgajmjcpjab

theorem jn_ge {a b : Nat → Int} {x p : Nat} (h : p ∈ subs x) : a p + b (x - p) ≤ jn a b x := le_mx (f := fun p => a p + b (x - p)) h
theorem jn_at {a b : Nat → Int} (za : a 0 = 0) {x : Nat} (hb : 0 ≤ b x) : ∃ p, p ∈ subs x ∧ jn a b x = a p + b (x - p) := by
  rcases mx_got (fun p => a p + b (x - p)) (subs x) with h | h
  · have h1 := jn_ge (a := a) (b := b) (sub_zero x)
    refine ⟨0, sub_zero x, ?_⟩
    rw [za, Nat.sub_zero] at h1 ⊢
    unfold jn at h1 ⊢
    omega
  · exact h
theorem subs_vals : subs 0 = [0] ∧ subs 1 = [0, 1] ∧ subs 2 = [0, 2] ∧ subs 3 = [0, 1, 2, 3] ∧ subs 4 = [0, 4] ∧ subs 5 = [0, 1, 4, 5] ∧ subs 6 = [0, 2, 4, 6] ∧ subs 7 = [0, 1, 2, 3, 4, 5, 6, 7] := by decide
/-- What a joined table is, set by set. -/
structure Js (a b J : Nat → Int) : Prop where
  j0 : J 0 = 0
  j1 : (a 1 ≤ J 1 ∧ b 1 ≤ J 1) ∧ (J 1 = a 1 ∨ J 1 = b 1)
  j2 : (a 2 ≤ J 2 ∧ b 2 ≤ J 2) ∧ (J 2 = a 2 ∨ J 2 = b 2)
  j4 : (a 4 ≤ J 4 ∧ b 4 ≤ J 4) ∧ (J 4 = a 4 ∨ J 4 = b 4)
  j3 : (b 3 ≤ J 3 ∧ a 1 + b 2 ≤ J 3 ∧ a 2 + b 1 ≤ J 3 ∧ a 3 ≤ J 3) ∧ (J 3 = b 3 ∨ J 3 = a 1 + b 2 ∨ J 3 = a 2 + b 1 ∨ J 3 = a 3)
  j5 : (b 5 ≤ J 5 ∧ a 1 + b 4 ≤ J 5 ∧ a 4 + b 1 ≤ J 5 ∧ a 5 ≤ J 5) ∧ (J 5 = b 5 ∨ J 5 = a 1 + b 4 ∨ J 5 = a 4 + b 1 ∨ J 5 = a 5)
  j6 : (b 6 ≤ J 6 ∧ a 2 + b 4 ≤ J 6 ∧ a 4 + b 2 ≤ J 6 ∧ a 6 ≤ J 6) ∧ (J 6 = b 6 ∨ J 6 = a 2 + b 4 ∨ J 6 = a 4 + b 2 ∨ J 6 = a 6)
  j7 : (b 7 ≤ J 7 ∧ a 1 + b 6 ≤ J 7 ∧ a 2 + b 5 ≤ J 7 ∧ a 3 + b 4 ≤ J 7 ∧ a 4 + b 3 ≤ J 7 ∧ a 5 + b 2 ≤ J 7 ∧ a 6 + b 1 ≤ J 7 ∧ a 7 ≤ J 7) ∧
    (J 7 = b 7 ∨ J 7 = a 1 + b 6 ∨ J 7 = a 2 + b 5 ∨ J 7 = a 3 + b 4 ∨ J 7 = a 4 + b 3 ∨ J 7 = a 5 + b 2 ∨ J 7 = a 6 + b 1 ∨ J 7 = a 7)
theorem js_jn {a b : Nat → Int} (za : a 0 = 0) (zb : b 0 = 0) (hb : ∀ s, s < 8 → 0 ≤ b s) : Js a b (jn a b) := by
  have s0 := subs_vals
  obtain ⟨e0, e1, e2, e3, e4, e5, e6, e7⟩ := s0
  have g : ∀ x p, p ∈ subs x → a p + b (x - p) ≤ jn a b x := fun x p h => jn_ge h
  have t := fun x (hx : x < 8) => jn_at (a := a) (b := b) za (hb x hx)
  constructor
  · obtain ⟨p, hp, h⟩ := t 0 (by omega); rw [e0] at hp; simp at hp; subst hp; rw [h, za, zb]; rfl
  · have g0 := g 1 0 (by decide); have g1 := g 1 1 (by decide); simp [za, zb] at g0 g1
    obtain ⟨p, hp, h⟩ := t 1 (by omega); rw [e1] at hp; simp at hp
    refine ⟨⟨g1, g0⟩, ?_⟩
    rcases hp with rfl | rfl <;> simp [za, zb] at h <;> omega
  · have g0 := g 2 0 (by decide); have g1 := g 2 2 (by decide); simp [za, zb] at g0 g1
    obtain ⟨p, hp, h⟩ := t 2 (by omega); rw [e2] at hp; simp at hp
    refine ⟨⟨g1, g0⟩, ?_⟩
    rcases hp with rfl | rfl <;> simp [za, zb] at h <;> omega
  · have g0 := g 4 0 (by decide); have g1 := g 4 4 (by decide); simp [za, zb] at g0 g1
    obtain ⟨p, hp, h⟩ := t 4 (by omega); rw [e4] at hp; simp at hp
    refine ⟨⟨g1, g0⟩, ?_⟩
    rcases hp with rfl | rfl <;> simp [za, zb] at h <;> omega
  · have g0 := g 3 0 (by decide); have g1 := g 3 1 (by decide); have g2 := g 3 2 (by decide); have g3 := g 3 3 (by decide); simp [za, zb] at g0 g1 g2 g3
    obtain ⟨p, hp, h⟩ := t 3 (by omega); rw [e3] at hp; simp at hp
    refine ⟨⟨g0, g1, g2, g3⟩, ?_⟩
    rcases hp with rfl | rfl | rfl | rfl <;> simp [za, zb] at h <;> omega
  · have g0 := g 5 0 (by decide); have g1 := g 5 1 (by decide); have g2 := g 5 4 (by decide); have g3 := g 5 5 (by decide); simp [za, zb] at g0 g1 g2 g3
    obtain ⟨p, hp, h⟩ := t 5 (by omega); rw [e5] at hp; simp at hp
    refine ⟨⟨g0, g1, g2, g3⟩, ?_⟩
    rcases hp with rfl | rfl | rfl | rfl <;> simp [za, zb] at h <;> omega
  · have g0 := g 6 0 (by decide); have g1 := g 6 2 (by decide); have g2 := g 6 4 (by decide); have g3 := g 6 6 (by decide); simp [za, zb] at g0 g1 g2 g3
    obtain ⟨p, hp, h⟩ := t 6 (by omega); rw [e6] at hp; simp at hp
    refine ⟨⟨g0, g1, g2, g3⟩, ?_⟩
    rcases hp with rfl | rfl | rfl | rfl <;> simp [za, zb] at h <;> omega
  · have g0 := g 7 0 (by decide); have g1 := g 7 1 (by decide); have g2 := g 7 2 (by decide); have g3 := g 7 3 (by decide); have g4 := g 7 4 (by decide); have g5 := g 7 5 (by decide); have g6 := g 7 6 (by decide); have g7 := g 7 7 (by decide); simp [za, zb] at g0 g1 g2 g3 g4 g5 g6 g7
    obtain ⟨p, hp, h⟩ := t 7 (by omega); rw [e7] at hp; simp at hp
    refine ⟨⟨g0, g1, g2, g3, g4, g5, g6, g7⟩, ?_⟩
    rcases hp with rfl | rfl | rfl | rfl | rfl | rfl | rfl | rfl <;> simp [za, zb] at h <;> omega

section
variable {a b J : Nat → Int}
theorem Js.m3 (A : Mo a) (B : Mo b) (h : Js a b J) : J 3 ≤ J 1 + J 2 := by
  have h1 := h.j1.1; have h2 := h.j2.1; have x := A.m3; have y := B.m3
  rcases h.j3.2 with e | e | e | e <;> omega
theorem Js.m5 (A : Mo a) (B : Mo b) (h : Js a b J) : J 5 ≤ J 1 + J 4 := by
  have h1 := h.j1.1; have h2 := h.j4.1; have x := A.m5; have y := B.m5
  rcases h.j5.2 with e | e | e | e <;> omega
theorem Js.m6 (A : Mo a) (B : Mo b) (h : Js a b J) : J 6 ≤ J 2 + J 4 := by
  have h1 := h.j2.1; have h2 := h.j4.1; have x := A.m6; have y := B.m6
  rcases h.j6.2 with e | e | e | e <;> omega
theorem Js.m71 (A : Mo a) (B : Mo b) (h : Js a b J) : J 7 ≤ J 1 + J 6 := by
  have h1 := h.j1.1; have h2 := h.j6.1; have x := A.m71; have y := B.m71; have x1 := A.m3; have x2 := A.m5; have y1 := B.m3; have y2 := B.m5
  rcases h.j7.2 with e | e | e | e | e | e | e | e <;> omega
theorem Js.m72 (A : Mo a) (B : Mo b) (h : Js a b J) : J 7 ≤ J 2 + J 5 := by
  have h1 := h.j2.1; have h2 := h.j5.1; have x := A.m72; have y := B.m72; have x1 := A.m3; have x2 := A.m6; have y1 := B.m3; have y2 := B.m6
  rcases h.j7.2 with e | e | e | e | e | e | e | e <;> omega
theorem Js.m74 (A : Mo a) (B : Mo b) (h : Js a b J) : J 7 ≤ J 4 + J 3 := by
  have h1 := h.j4.1; have h2 := h.j3.1; have x := A.m74; have y := B.m74; have x1 := A.m5; have x2 := A.m6; have y1 := B.m5; have y2 := B.m6
  rcases h.j7.2 with e | e | e | e | e | e | e | e <;> omega
theorem Js.n1 (A : Mo a) (B : Mo b) (h : Js a b J) : J 7 + J 1 ≤ J 3 + J 5 := by
  have h3 := h.j3.1; have h5 := h.j5.1
  obtain ⟨_, a3, a5, a6, a71, a72, a74, an1, _, _, _, _, at1⟩ := A
  obtain ⟨_, b3, b5, b6, b71, b72, b74, bn1, _, _, _, _, bt1⟩ := B
  rcases h.j1.2 with f | f <;> rcases h.j7.2 with e | e | e | e | e | e | e | e <;> omega
theorem Js.n2 (A : Mo a) (B : Mo b) (h : Js a b J) : J 7 + J 2 ≤ J 3 + J 6 := by
  have h3 := h.j3.1; have h6 := h.j6.1
  obtain ⟨_, a3, a5, a6, a71, a72, a74, _, an1, _, _, at1, _⟩ := A
  obtain ⟨_, b3, b5, b6, b71, b72, b74, _, bn1, _, _, bt1, _⟩ := B
  rcases h.j2.2 with f | f <;> rcases h.j7.2 with e | e | e | e | e | e | e | e <;> omega
theorem Js.n4 (A : Mo a) (B : Mo b) (h : Js a b J) : J 7 + J 4 ≤ J 5 + J 6 := by
  have h3 := h.j5.1; have h6 := h.j6.1
  obtain ⟨_, a3, a5, a6, a71, a72, a74, _, _, an1, at1, _, _⟩ := A
  obtain ⟨_, b3, b5, b6, b71, b72, b74, _, _, bn1, bt1, _, _⟩ := B
  rcases h.j4.2 with f | f <;> rcases h.j7.2 with e | e | e | e | e | e | e | e <;> omega
theorem Js.t4 (A : Mo a) (B : Mo b) (h : Js a b J) : J 3 + J 4 ≤ J 5 + J 2 ∨ J 3 + J 4 ≤ J 6 + J 1 := by
  have h1 := h.j1.1; have h2 := h.j2.1; have h5 := h.j5.1; have h6 := h.j6.1
  have x := A.t4; have y := B.t4; have x3 := A.m3; have y3 := B.m3
  rcases h.j4.2 with f | f <;> rcases h.j3.2 with e | e | e | e <;> omega
theorem Js.t2 (A : Mo a) (B : Mo b) (h : Js a b J) : J 5 + J 2 ≤ J 3 + J 4 ∨ J 5 + J 2 ≤ J 6 + J 1 := by
  have h1 := h.j1.1; have h2 := h.j4.1; have h5 := h.j3.1; have h6 := h.j6.1
  have x := A.t2; have y := B.t2; have x3 := A.m5; have y3 := B.m5
  rcases h.j2.2 with f | f <;> rcases h.j5.2 with e | e | e | e <;> omega
theorem Js.t1 (A : Mo a) (B : Mo b) (h : Js a b J) : J 6 + J 1 ≤ J 3 + J 4 ∨ J 6 + J 1 ≤ J 5 + J 2 := by
  have h1 := h.j2.1; have h2 := h.j4.1; have h5 := h.j3.1; have h6 := h.j5.1
  have x := A.t1; have y := B.t1; have x3 := A.m6; have y3 := B.m6
  rcases h.j1.2 with f | f <;> rcases h.j6.2 with e | e | e | e <;> omega
theorem Js.mo (A : Mo a) (B : Mo b) (h : Js a b J) : Mo J :=
  ⟨h.j0, h.m3 A B, h.m5 A B, h.m6 A B, h.m71 A B, h.m72 A B, h.m74 A B, h.n1 A B, h.n2 A B, h.n4 A B, h.t4 A B, h.t2 A B, h.t1 A B⟩
end
theorem jn_mo {a b : Nat → Int} (A : Mo a) (B : Mo b) (hb : ∀ s, s < 8 → 0 ≤ b s) : Mo (jn a b) := (js_jn A.z B.z hb).mo A B
theorem mo_congr {a b : Nat → Int} (h : ∀ s, s < 8 → a s = b s) (A : Mo a) : Mo b := by
  have e0 := h 0 (by omega); have e1 := h 1 (by omega); have e2 := h 2 (by omega); have e3 := h 3 (by omega); have e4 := h 4 (by omega); have e5 := h 5 (by omega); have e6 := h 6 (by omega); have e7 := h 7 (by omega)
  obtain ⟨z, m3, m5, m6, m71, m72, m74, n1, n2, n4, t4, t2, t1⟩ := A
  rw [e0] at z; rw [e1, e2, e3] at m3; rw [e1, e4, e5] at m5; rw [e2, e4, e6] at m6
  rw [e1, e6, e7] at m71; rw [e2, e5, e7] at m72; rw [e3, e4, e7] at m74
  rw [e1, e3, e5, e7] at n1; rw [e2, e3, e6, e7] at n2; rw [e4, e5, e6, e7] at n4
  rw [e1, e2, e3, e4, e5, e6] at t4 t2 t1
  exact ⟨z, m3, m5, m6, m71, m72, m74, n1, n2, n4, t4, t2, t1⟩
/-- What bidders have together may be moved if all may. -/
theorem sv_mo {ts : List (List Int)} (h : ∀ t ∈ ts, VT t ∧ Mo (T t)) : Mo (sv ts) := by
  induction ts with
  | nil => constructor <;> simp [sv]
  | cons t ts ih =>
    have hr := ih (fun u hu => h u (by simp [hu]))
    exact mo_congr (fun s hs => rfl) (jn_mo (a := T t) (b := sv ts) (h t (by simp)).2 hr (fun s _ => sv_nonneg ts s))
theorem jn_comm {a b : Nat → Int} {x : Nat} (hx : x < 8) : jn a b x = jn b a x := by
  apply Int.le_antisymm
  · refine mx_le (mx_nonneg _ _) (fun p hp => ?_)
    obtain ⟨h1, h2, _⟩ := sub_rest hx hp
    have := jn_ge (a := b) (b := a) h1
    rw [h2] at this
    omega
  · refine mx_le (mx_nonneg _ _) (fun p hp => ?_)
    obtain ⟨h1, h2, _⟩ := sub_rest hx hp
    have := jn_ge (a := a) (b := b) h1
    rw [h2] at this
    omega

end Go.Proofs.Ytccbjgajmjcpjab
