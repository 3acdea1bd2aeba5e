/-
  Chapter 9, plain: the least payments by trying all, one after another.
-/
import Derived.Test.YtpildecpabeanabG22
import Derived.DeepKeys
namespace Go.Proofs.Ytpildecpabeanab
open Go.RowKit

/-- One after the other, by the first number that differs. -/
def LexLt (p q : Nat → Int) : Prop := p 0 < q 0 ∨ (p 0 = q 0 ∧ (p 1 < q 1 ∨ (p 1 = q 1 ∧ (p 2 < q 2 ∨ (p 2 = q 2 ∧ p 3 < q 3)))))
def Eq4 (p q : Nat → Int) : Prop := p 0 = q 0 ∧ p 1 = q 1 ∧ p 2 = q 2 ∧ p 3 = q 3
/-- No more than the most ones. -/
structure InO (o p : Nat → Int) : Prop where
  i0 : 0 ≤ p 0 ∧ p 0 ≤ o 0
  i1 : 0 ≤ p 1 ∧ p 1 ≤ o 1
  i2 : 0 ≤ p 2 ∧ p 2 ≤ o 2
  i3 : 0 ≤ p 3 ∧ p 3 ≤ o 3
def O30 (o : Nat → Int) : Prop := (0 ≤ o 0 ∧ o 0 ≤ 30) ∧ (0 ≤ o 1 ∧ o 1 ≤ 30) ∧ (0 ≤ o 2 ∧ o 2 ≤ 30) ∧ (0 ≤ o 3 ∧ o 3 ≤ 30)
def sm4 (p : Nat → Int) : Int := p 0 + p 1 + p 2 + p 3
theorem mf_sum {o p q : Nat → Int} (ho : O30 o) (hp : InO o p) (hq : InO o q) (h : sm4 p < sm4 q) : MF p ≤ MF q := by
  obtain ⟨o0, o1, o2, o3⟩ := ho
  obtain ⟨a0, a1, a2, a3⟩ := hp
  obtain ⟨b0, b1, b2, b3⟩ := hq
  unfold sm4 at h
  unfold MF
  generalize p 0 + p 1 + p 2 + p 3 = s at h ⊢
  generalize q 0 + q 1 + q 2 + q 3 = r at h ⊢
  omega
theorem mf_lex {o p q : Nat → Int} (ho : O30 o) (hp : InO o p) (hq : InO o q) (h : sm4 p = sm4 q) (hl : LexLt p q) : MF p ≤ MF q := by
  obtain ⟨o0, o1, o2, o3⟩ := ho
  obtain ⟨a0, a1, a2, a3⟩ := hp
  obtain ⟨b0, b1, b2, b3⟩ := hq
  unfold sm4 at h
  unfold MF
  rw [h]
  generalize q 0 + q 1 + q 2 + q 3 = r at h ⊢
  clear h
  unfold LexLt at hl
  omega
theorem mf_eq {p q : Nat → Int} (h : Eq4 p q) : MF p = MF q := by
  unfold Eq4 at h
  unfold MF
  rw [h.1, h.2.1, h.2.2.1, h.2.2.2]
/-- How far it is to the end. -/
def mz (p : Nat → Int) : Int := 29791 * (30 - p 0) + 961 * (30 - p 1) + 31 * (30 - p 2) + (30 - p 3)
theorem last_some {o p : Nat → Int} (h : ¬ Eq4 p o) : ∃ i, i < 4 ∧ p i ≠ o i := by
  unfold Eq4 at h
  by_cases h0 : p 0 = o 0
  · by_cases h1 : p 1 = o 1
    · by_cases h2 : p 2 = o 2
      · exact ⟨3, by omega, fun h3 => h ⟨h0, h1, h2, h3⟩⟩
      · exact ⟨2, by omega, h2⟩
    · exact ⟨1, by omega, h1⟩
  · exact ⟨0, by omega, h0⟩
theorem nxL_vals (p : Nat → Int) : (T (nxL p 0) 0 = p 0 + 1 ∧ T (nxL p 0) 1 = 0 ∧ T (nxL p 0) 2 = 0 ∧ T (nxL p 0) 3 = 0 ∧ T (nxL p 0) 4 = p 0 + 1) ∧
    (T (nxL p 1) 0 = p 0 ∧ T (nxL p 1) 1 = p 1 + 1 ∧ T (nxL p 1) 2 = 0 ∧ T (nxL p 1) 3 = 0 ∧ T (nxL p 1) 4 = p 0 + p 1 + 1) ∧
    (T (nxL p 2) 0 = p 0 ∧ T (nxL p 2) 1 = p 1 ∧ T (nxL p 2) 2 = p 2 + 1 ∧ T (nxL p 2) 3 = 0 ∧ T (nxL p 2) 4 = p 0 + p 1 + p 2 + 1) ∧
    (T (nxL p 3) 0 = p 0 ∧ T (nxL p 3) 1 = p 1 ∧ T (nxL p 3) 2 = p 2 ∧ T (nxL p 3) 3 = p 3 + 1 ∧ T (nxL p 3) 4 = p 0 + p 1 + p 2 + p 3 + 1) := by
  simp [nxL, czL, czS, cz, T]
theorem lex_or {p q : Nat → Int} (h : q 0 < p 0 ∨ (q 0 = p 0 ∧ q 1 < p 1) ∨ (q 0 = p 0 ∧ q 1 = p 1 ∧ q 2 < p 2) ∨ (q 0 = p 0 ∧ q 1 = p 1 ∧ q 2 = p 2 ∧ q 3 < p 3) ∨ (q 0 = p 0 ∧ q 1 = p 1 ∧ q 2 = p 2 ∧ q 3 = p 3)) : LexLt q p ∨ Eq4 q p := by
  rcases h with h | h | h | h | h
  · exact .inl (.inl h)
  · exact .inl (.inr ⟨h.1, .inl h.2⟩)
  · exact .inl (.inr ⟨h.1, .inr ⟨h.2.1, .inl h.2.2⟩⟩)
  · exact .inl (.inr ⟨h.1, .inr ⟨h.2.1, .inr ⟨h.2.2.1, h.2.2.2⟩⟩⟩)
  · exact .inr h
set_option maxHeartbeats 2000000 in
/-- What the payments that follow are. -/
theorem next_says {o p : Nat → Int} {a : Nat} (ho : O30 o) (hp : InO o p) (h : LastNe p o a) :
    InO o (T (nxL p a)) ∧ T (nxL p a) 4 = sm4 (T (nxL p a)) ∧ mz (T (nxL p a)) < mz p ∧ LexLt p (T (nxL p a)) ∧ ∀ q, InO o q → LexLt q (T (nxL p a)) → LexLt q p ∨ Eq4 q p := by
  obtain ⟨h4, hne, hs⟩ := h
  obtain ⟨o0, o1, o2, o3⟩ := ho
  obtain ⟨a0, a1, a2, a3⟩ := hp
  obtain ⟨v0, v1, v2, v3⟩ := nxL_vals p
  rcases nat4 h4 with rfl | rfl | rfl | rfl
  · obtain ⟨e0, e1, e2, e3, e4⟩ := v0
    have s1 := hs 1 (by omega) (by omega); have s2 := hs 2 (by omega) (by omega); have s3 := hs 3 (by omega) (by omega)
    refine ⟨⟨by omega, by omega, by omega, by omega⟩, by unfold sm4; omega, by unfold mz; omega, by unfold LexLt; omega, fun q hq hl => ?_⟩
    obtain ⟨b0, b1, b2, b3⟩ := hq
    refine lex_or ?_
    rcases hl with hl | ⟨hl0, hl | ⟨hl1, hl | ⟨hl2, hl⟩⟩⟩ <;>
    (by_cases c0 : q 0 < p 0
     · exact .inl c0
     · by_cases c1 : q 1 < p 1
       · exact .inr (.inl ⟨by omega, c1⟩)
       · by_cases c2 : q 2 < p 2
         · exact .inr (.inr (.inl ⟨by omega, by omega, c2⟩))
         · by_cases c3 : q 3 < p 3
           · exact .inr (.inr (.inr (.inl ⟨by omega, by omega, by omega, c3⟩)))
           · exact .inr (.inr (.inr (.inr ⟨by omega, by omega, by omega, by omega⟩))))
  · obtain ⟨e0, e1, e2, e3, e4⟩ := v1
    have s2 := hs 2 (by omega) (by omega); have s3 := hs 3 (by omega) (by omega)
    refine ⟨⟨by omega, by omega, by omega, by omega⟩, by unfold sm4; omega, by unfold mz; omega, by unfold LexLt; omega, fun q hq hl => ?_⟩
    obtain ⟨b0, b1, b2, b3⟩ := hq
    refine lex_or ?_
    rcases hl with hl | ⟨hl0, hl | ⟨hl1, hl | ⟨hl2, hl⟩⟩⟩ <;>
    (by_cases c0 : q 0 < p 0
     · exact .inl c0
     · by_cases c1 : q 1 < p 1
       · exact .inr (.inl ⟨by omega, c1⟩)
       · by_cases c2 : q 2 < p 2
         · exact .inr (.inr (.inl ⟨by omega, by omega, c2⟩))
         · by_cases c3 : q 3 < p 3
           · exact .inr (.inr (.inr (.inl ⟨by omega, by omega, by omega, c3⟩)))
           · exact .inr (.inr (.inr (.inr ⟨by omega, by omega, by omega, by omega⟩))))
  · obtain ⟨e0, e1, e2, e3, e4⟩ := v2
    have s3 := hs 3 (by omega) (by omega)
    refine ⟨⟨by omega, by omega, by omega, by omega⟩, by unfold sm4; omega, by unfold mz; omega, by unfold LexLt; omega, fun q hq hl => ?_⟩
    obtain ⟨b0, b1, b2, b3⟩ := hq
    refine lex_or ?_
    rcases hl with hl | ⟨hl0, hl | ⟨hl1, hl | ⟨hl2, hl⟩⟩⟩ <;>
    (by_cases c0 : q 0 < p 0
     · exact .inl c0
     · by_cases c1 : q 1 < p 1
       · exact .inr (.inl ⟨by omega, c1⟩)
       · by_cases c2 : q 2 < p 2
         · exact .inr (.inr (.inl ⟨by omega, by omega, c2⟩))
         · by_cases c3 : q 3 < p 3
           · exact .inr (.inr (.inr (.inl ⟨by omega, by omega, by omega, c3⟩)))
           · exact .inr (.inr (.inr (.inr ⟨by omega, by omega, by omega, by omega⟩))))
  · obtain ⟨e0, e1, e2, e3, e4⟩ := v3
    refine ⟨⟨by omega, by omega, by omega, by omega⟩, by unfold sm4; omega, by unfold mz; omega, by unfold LexLt; omega, fun q hq hl => ?_⟩
    obtain ⟨b0, b1, b2, b3⟩ := hq
    refine lex_or ?_
    rcases hl with hl | ⟨hl0, hl | ⟨hl1, hl | ⟨hl2, hl⟩⟩⟩ <;>
    (by_cases c0 : q 0 < p 0
     · exact .inl c0
     · by_cases c1 : q 1 < p 1
       · exact .inr (.inl ⟨by omega, c1⟩)
       · by_cases c2 : q 2 < p 2
         · exact .inr (.inr (.inl ⟨by omega, by omega, c2⟩))
         · by_cases c3 : q 3 < p 3
           · exact .inr (.inr (.inr (.inl ⟨by omega, by omega, by omega, c3⟩)))
           · exact .inr (.inr (.inr (.inr ⟨by omega, by omega, by omega, by omega⟩))))
/-- The best so far of all up to p, and the most ones. -/
structure BestTo (o : Nat → Int) (C : (Nat → Int) → Prop) (p b : Nat → Int) : Prop where
  inO : InO o b
  core : C b
  low : LexLt b p ∨ Eq4 b o
  least : ∀ q, InO o q → C q → (LexLt q p ∨ Eq4 q o) → MF b ≤ MF q
theorem InO.refl {o : Nat → Int} (h : O30 o) : InO o o := ⟨⟨h.1.1, Int.le_refl _⟩, ⟨h.2.1.1, Int.le_refl _⟩, ⟨h.2.2.1.1, Int.le_refl _⟩, ⟨h.2.2.2.1, Int.le_refl _⟩⟩
theorem BestTo.start {o z : Nat → Int} {C : (Nat → Int) → Prop} (ho : O30 o) (hz : z 0 = 0 ∧ z 1 = 0 ∧ z 2 = 0 ∧ z 3 = 0) (hC : C o) : BestTo o C z o := by
  refine ⟨InO.refl ho, hC, .inr ⟨rfl, rfl, rfl, rfl⟩, fun q hq _ h => ?_⟩
  rcases h with h | h
  · obtain ⟨b0, b1, b2, b3⟩ := hq
    unfold LexLt at h
    omega
  · rw [mf_eq h]; exact Int.le_refl _
theorem BestTo.take {o p b : Nat → Int} {C : (Nat → Int) → Prop} {a : Nat} (ho : O30 o) (hp : InO o p) (h : BestTo o C p b) (hn : LastNe p o a) (hs : sm4 p < sm4 b) (hC : C p) : BestTo o C (T (nxL p a)) p := by
  obtain ⟨_, _, _, n4, n5⟩ := next_says ho hp hn
  refine ⟨hp, hC, .inl n4, fun q hq hcq hl => ?_⟩
  have h1 := mf_sum ho hp h.inO hs
  rcases hl with hl | hl
  · rcases n5 q hq hl with h2 | h2
    · exact Int.le_trans h1 (h.least q hq hcq (.inl h2))
    · rw [mf_eq h2]; exact Int.le_refl _
  · exact Int.le_trans h1 (h.least q hq hcq (.inr hl))
theorem lex_trans {p q r : Nat → Int} (h1 : LexLt p q) (h2 : LexLt q r) : LexLt p r := by unfold LexLt at *; omega
theorem BestTo.skip {o p b : Nat → Int} {C : (Nat → Int) → Prop} {a : Nat} (ho : O30 o) (hp : InO o p) (h : BestTo o C p b) (hn : LastNe p o a) (hs : ¬ (sm4 p < sm4 b ∧ C p)) (hcg : ∀ q, Eq4 q p → C q → C p) : BestTo o C (T (nxL p a)) b := by
  obtain ⟨_, _, _, n4, n5⟩ := next_says ho hp hn
  refine ⟨h.inO, h.core, h.low.imp (fun h1 => lex_trans h1 n4) id, fun q hq hcq hl => ?_⟩
  rcases hl with hl | hl
  · rcases n5 q hq hl with h2 | h2
    · exact h.least q hq hcq (.inl h2)
    · have h3 : sm4 b ≤ sm4 p := Int.not_lt.1 (fun h4 => hs ⟨h4, hcg q h2 hcq⟩)
      rw [mf_eq h2]
      rcases Int.lt_or_eq_of_le h3 with h4 | h4
      · exact mf_sum ho h.inO hp h4
      · rcases h.low with h5 | h5
        · exact mf_lex ho h.inO hp h4 h5
        · exfalso
          obtain ⟨n1, n2, n3⟩ := hn
          apply n2
          obtain ⟨a0, a1, a2, a3⟩ := hp
          unfold Eq4 at h5
          unfold sm4 at h4
          have : p 0 = o 0 ∧ p 1 = o 1 ∧ p 2 = o 2 ∧ p 3 = o 3 := by omega
          rcases nat4 n1 with rfl | rfl | rfl | rfl <;> omega
  · exact h.least q hq hcq (.inr hl)
theorem BestTo.last {o p b : Nat → Int} {C : (Nat → Int) → Prop} (h : BestTo o C p b) (he : Eq4 p o) : ∀ q, InO o q → C q → MF b ≤ MF q := fun q hq hc => h.least q hq hc (by
  obtain ⟨b0, b1, b2, b3⟩ := hq
  unfold Eq4 at *
  unfold LexLt
  omega)

end Go.Proofs.Ytpildecpabeanab

/-
  Chapter 9, the program: two payments compared.
-/
namespace Go.Proofs.Ytpildecpabeanab
open Go.RowKit
theorem wf_small {x : Int} (h : 0 ≤ x ∧ x ≤ 1000) : (Lit.int .i64 x).wf = true := by
  have e : IntKind.i64.min = -9223372036854775808 := by decide
  simp [Lit.wf, e]
  omega
theorem keyI (d : Nat) {x : Int} (h : (Lit.int .i64 x).wf = true) : Try.prog.keyLits (d + 1) 3 [.int .i64 x] = some [.int .i64 x] := by
  unfold Program.keyLits
  rw [Try.underlying3]
  simp [h]
theorem keyA (d : Nat) {x0 x1 x2 x3 : Int} (h0 : (Lit.int .i64 x0).wf = true) (h1 : (Lit.int .i64 x1).wf = true) (h2 : (Lit.int .i64 x2).wf = true) (h3 : (Lit.int .i64 x3).wf = true) :
    Try.prog.keyLits (d + 1 + 1) 54 [.int .i64 x0, .int .i64 x1, .int .i64 x2, .int .i64 x3] = some [.int .i64 x0, .int .i64 x1, .int .i64 x2, .int .i64 x3] := by
  have c1 : Try.prog.cellsOf 3 = 1 := by kernel_rfl
  have c4 : Try.prog.cellsOf 54 = 4 := by kernel_rfl
  have k0 := keyI d h0
  have k1 := keyI d h1
  have k2 := keyI d h2
  have k3 := keyI d h3
  unfold Program.keyLits
  rw [Try.underlying54]
  simp only [c1, c4]
  rw [if_pos (by rfl), show List.range 4 = [0, 1, 2, 3] from rfl]
  simp only [List.mapM_cons, List.mapM_nil, List.drop, List.take, k0, k1, k2, k3]
  rfl
theorem keyS {x0 x1 x2 x3 x4 : Int} (h0 : (Lit.int .i64 x0).wf = true) (h1 : (Lit.int .i64 x1).wf = true) (h2 : (Lit.int .i64 x2).wf = true) (h3 : (Lit.int .i64 x3).wf = true) (h4 : (Lit.int .i64 x4).wf = true) :
    Try.prog.keyLits 10 56 [.int .i64 x0, .int .i64 x1, .int .i64 x2, .int .i64 x3, .int .i64 x4] = some [.int .i64 x0, .int .i64 x1, .int .i64 x2, .int .i64 x3, .int .i64 x4] := by
  have c1 : Try.prog.cellsOf 3 = 1 := by kernel_rfl
  have c4 : Try.prog.cellsOf 54 = 4 := by kernel_rfl
  have c5 : Try.prog.cellsOf 56 = 5 := by kernel_rfl
  have ka := keyA 7 h0 h1 h2 h3
  have ki := keyI 8 h4
  unfold Program.keyLits
  rw [Try.underlying56]
  simp only [c5]
  rw [if_pos ⟨by rfl, by kernel_rfl⟩]
  simp only [List.mapM_cons, List.mapM_nil, c1, c4, List.drop, List.take, ka, ki]
  rfl
theorem run_eq5 {x0 x1 x2 x3 x4 y0 y1 y2 y3 y4 : Int} (h0 : 0 ≤ x0 ∧ x0 ≤ 1000) (h1 : 0 ≤ x1 ∧ x1 ≤ 1000) (h2 : 0 ≤ x2 ∧ x2 ≤ 1000) (h3 : 0 ≤ x3 ∧ x3 ≤ 1000) (h4 : 0 ≤ x4 ∧ x4 ≤ 1000) (g0 : 0 ≤ y0 ∧ y0 ≤ 1000) (g1 : 0 ≤ y1 ∧ y1 ≤ 1000) (g2 : 0 ≤ y2 ∧ y2 ≤ 1000) (g3 : 0 ≤ y3 ∧ y3 ≤ 1000) (g4 : 0 ≤ y4 ∧ y4 ≤ 1000) (w : World) :
    (Op.equalIn 10000 56 (.agg #[.int .i64 x0, .int .i64 x1, .int .i64 x2, .int .i64 x3, .int .i64 x4]) (.agg #[.int .i64 y0, .int .i64 y1, .int .i64 y2, .int .i64 y3, .int .i64 y4])).run Try.prog w = .ok (decide (x0 = y0 ∧ x1 = y1 ∧ x2 = y2 ∧ x3 = y3 ∧ x4 = y4)) w := by
  obtain ⟨r, hr, hiff⟩ := run_equalIn_deep (P := Try.prog) 9996 4 56 (by kernel_rfl) w 10 10 (.agg #[.int .i64 x0, .int .i64 x1, .int .i64 x2, .int .i64 x3, .int .i64 x4]) (.agg #[.int .i64 y0, .int .i64 y1, .int .i64 y2, .int .i64 y3, .int .i64 y4]) [.int .i64 x0, .int .i64 x1, .int .i64 x2, .int .i64 x3, .int .i64 x4] [.int .i64 y0, .int .i64 y1, .int .i64 y2, .int .i64 y3, .int .i64 y4] (by kernel_rfl) (by kernel_rfl) (keyS (wf_small h0) (wf_small h1) (wf_small h2) (wf_small h3) (wf_small h4)) (keyS (wf_small g0) (wf_small g1) (wf_small g2) (wf_small g3) (wf_small g4))
  have e : r = decide (x0 = y0 ∧ x1 = y1 ∧ x2 = y2 ∧ x3 = y3 ∧ x4 = y4) := by
    rw [Bool.eq_iff_iff, hiff]
    simp
  rw [← e]
  exact hr
end Go.Proofs.Ytpildecpabeanab

/-
  Chapter 9, the program: the least payments in the core.
-/
namespace Go.Proofs.Ytpildecpabeanab
open Go.RowKit

theorem set5 {l : List Int} (h : l.length = 5) (a b c d e : Int) : ((((l.set 0 a).set 1 b).set 2 c).set 3 d).set 4 e = [a, b, c, d, e] := by
  match l, h with
  | [_, _, _, _, _], _ => rfl
theorem Pm.put5 {w : World} {m : Nat} {l : List Int} (h : Pm w m l) (a b c d e : Int) : Pm (((((w.setCell ⟨m, 0, none⟩ (.int .i64 a)).setCell ⟨m, 1, none⟩ (.int .i64 b)).setCell ⟨m, 2, none⟩ (.int .i64 c)).setCell ⟨m, 3, none⟩ (.int .i64 d)).setCell ⟨m, 4, none⟩ (.int .i64 e)) m [a, b, c, d, e] := by
  have h1 := ((((h.set_ (k := 0) a).set_ (k := 1) b).set_ (k := 2) c).set_ (k := 3) d).set_ (k := 4) e
  rwa [set5 h.1] at h1
theorem Pm.off5 {w : World} {m m' : Nat} {l : List Int} {a b c d e : Value} (h : Pm w m l) (hne : m ≠ m') : Pm (((((w.setCell ⟨m', 0, none⟩ a).setCell ⟨m', 1, none⟩ b).setCell ⟨m', 2, none⟩ c).setCell ⟨m', 3, none⟩ d).setCell ⟨m', 4, none⟩ e) m l :=
  ((((h.other hne).other hne).other hne).other hne).other hne
theorem Cb.other {w : World} {m m' k : Nat} {v : Value} {vs : List Value} (h : Cb w m vs) (hne : m ≠ m') : Cb (w.setCell ⟨m', k, none⟩ v) m vs := h.keep (Below.heap_setCell w _ v m hne)
theorem Cb.off5 {w : World} {m m' : Nat} {vs : List Value} {a b c d e : Value} (h : Cb w m vs) (hne : m ≠ m') : Cb (((((w.setCell ⟨m', 0, none⟩ a).setCell ⟨m', 1, none⟩ b).setCell ⟨m', 2, none⟩ c).setCell ⟨m', 3, none⟩ d).setCell ⟨m', 4, none⟩ e) m vs :=
  ((((h.other hne).other hne).other hne).other hne).other hne
theorem below_off5 {w wr : World} {m B : Nat} {a b c d e : Value} (h : Below B w wr) (hm : B ≤ m) : Below B w (((((wr.setCell ⟨m, 0, none⟩ a).setCell ⟨m, 1, none⟩ b).setCell ⟨m, 2, none⟩ c).setCell ⟨m, 3, none⟩ d).setCell ⟨m, 4, none⟩ e) :=
  ((((h.setCell (p := ⟨m, 0, none⟩) hm _).setCell (p := ⟨m, 1, none⟩) hm _).setCell (p := ⟨m, 2, none⟩) hm _).setCell (p := ⟨m, 3, none⟩) hm _).setCell (p := ⟨m, 4, none⟩) hm _
/-- The payments in a block, as a list. -/
def pmL (p : Nat → Int) : List Int := [p 0, p 1, p 2, p 3, sm4 p]
def rdC (w : World) (m k : Nat) : Int := match w.cell? ⟨m, k, none⟩ with | some (.int _ x) => x | _ => 0
/-- How far it is to the end, as it stands in memory. -/
def mzW (w : World) (m : Nat) : Nat := (mz (rdC w m)).toNat
theorem mzW_pm {w : World} {m : Nat} {l : List Int} (h : Pm w m l) : mzW w m = (mz (T l)).toNat := by
  obtain ⟨h0, h1, h2, h3, _⟩ := h.all
  unfold mzW mz rdC
  rw [h0, h1, h2, h3]
theorem InO.bd {o p : Nat → Int} (ho : O30 o) (h : InO o p) : ∀ i, i < 4 → 0 ≤ p i ∧ p i ≤ 30 := fun i hi => by
  obtain ⟨a0, a1, a2, a3⟩ := h
  obtain ⟨b0, b1, b2, b3⟩ := ho
  rcases nat4 hi with rfl | rfl | rfl | rfl <;> omega
theorem mz_down {w w' : World} {m : Nat} {p q : Nat → Int} {o : Nat → Int} (ho : O30 o) (hp : InO o p) (hq : InO o q) (h : Pm w m (pmL p)) (h' : Pm w' m (pmL q)) (hl : mz q < mz p) : mzW w' m < mzW w m := by
  rw [mzW_pm h, mzW_pm h']
  have e : ∀ x : Nat → Int, mz (T (pmL x)) = mz x := fun x => rfl
  rw [e, e]
  have a := hp.bd ho
  have b := hq.bd ho
  have b0 := b 0 (by omega); have b1 := b 1 (by omega); have b2 := b 2 (by omega); have b3 := b 3 (by omega)
  have hz : 0 ≤ mz q := by unfold mz; omega
  omega
theorem sm4_bd {o p : Nat → Int} (ho : O30 o) (h : InO o p) : 0 ≤ sm4 p ∧ sm4 p ≤ 120 := by
  have a := h.bd ho
  have b0 := a 0 (by omega); have b1 := a 1 (by omega); have b2 := a 2 (by omega); have b3 := a 3 (by omega)
  unfold sm4; omega
theorem byF_congr {p q : Nat → Int} (S : Nat) (h : Eq4 p q) : byF p S 4 = byF q S 4 := by
  obtain ⟨h0, h1, h2, h3⟩ := h
  simp only [byF, h0, h1, h2, h3]
theorem hasP_congr {o p q : Nat → Int} {l : List Int} {P : Nat} (h : Eq4 q p) (hq : HasP o q l P) : HasP o p l P := by
  refine ⟨fun i hi => ?_, fun S hS => by rw [← byF_congr S h]; exact hq.2 S hS⟩
  have := hq.1 i hi
  obtain ⟨h0, h1, h2, h3⟩ := h
  rcases nat4 hi with rfl | rfl | rfl | rfl <;> omega

end Go.Proofs.Ytpildecpabeanab
