/-
  Chapter 9, plain: the first payments with a sum, found place by place, are the least ones.
-/
import Derived.Test.YtpildecpabeanaaG18
import Derived.Test.YtpildecpabeanaaG16
import Derived.Deep.RegionLaw
import Derived.Test.YtpildecpabeanaaG04
namespace Go.Proofs.Ytpildecpabeanaa

/-- The payments in the core with the sum S that begin as f does, up to i. -/
def Ext (ts : List (List Int)) (S : Int) (f : Nat → Int) (i : Nat) (q : Nat → Int) : Prop := In4 ts q ∧ InC ts q ∧ q 0 + q 1 + q 2 + q 3 = S ∧ ∀ j, j < i → q j = f j
theorem mf_lexE {ts : List (List Int)} (hv : ∀ t ∈ ts, VT t) {S : Int} {f : Nat → Int} {i : Nat} {p q : Nat → Int} (hp : Ext ts S f i p) (hq : Ext ts S f i q) (hi : i < 4) (h : p i < q i) : MF p ≤ MF q := by
  have a := hp.1.all hv
  have b := hq.1.all hv
  have s1 := hp.2.2.1
  have s2 := hq.2.2.1
  have e : ∀ j, j < i → p j = q j := fun j hj => by rw [hp.2.2.2 j hj, hq.2.2.2 j hj]
  unfold MF
  rw [s1, s2]
  have : i = 0 ∨ i = 1 ∨ i = 2 ∨ i = 3 := by omega
  rcases this with rfl | rfl | rfl | rfl
  · omega
  · have := e 0 (by omega); omega
  · have := e 0 (by omega); have := e 1 (by omega); omega
  · have := e 0 (by omega); have := e 1 (by omega); have := e 2 (by omega); omega
theorem mf_lessE {ts : List (List Int)} (hv : ∀ t ∈ ts, VT t) {p q : Nat → Int} (hp : In4 ts p) (hq : In4 ts q) (h : p 0 + p 1 + p 2 + p 3 < q 0 + q 1 + q 2 + q 3) : MF p ≤ MF q := by
  have a := hp.all hv
  have b := hq.all hv
  unfold MF
  generalize p 0 + p 1 + p 2 + p 3 = s at h ⊢
  generalize q 0 + q 1 + q 2 + q 3 = r at h ⊢
  omega
/-- What is left of the sum bounds the next number; at the last place it is just this. -/
theorem ext_left {ts : List (List Int)} {S : Int} {hd : List Int} {q : Nat → Int} (h : Ext ts S (at0 hd) hd.length q) (hi : hd.length < 4) : q hd.length ≤ S - hd.sum ∧ (ts.length = hd.length + 1 → q hd.length = S - hd.sum) := by
  obtain ⟨h1, _, h3, h4⟩ := h
  have n0 := (h1 0 (by omega)).1
  have n1 := (h1 1 (by omega)).1
  have n2 := (h1 2 (by omega)).1
  have n3 := (h1 3 (by omega)).1
  have z : ts.length = hd.length + 1 → ∀ j, hd.length < j → j < 4 → q j = 0 := fun e j hj h4' => by
    have := h1 j h4'
    unfold ow4 at this
    rw [if_neg (by omega)] at this
    omega
  match hd, hi, h4, z with
  | [], _, h4, z =>
    simp only [List.length_nil, List.sum_nil] at z ⊢
    refine ⟨by omega, fun e => ?_⟩
    have := z e 1 (by omega) (by omega); have := z e 2 (by omega) (by omega); have := z e 3 (by omega) (by omega); omega
  | [a], _, h4, z =>
    have e0 : q 0 = a := h4 0 (by simp)
    simp only [List.length_cons, List.length_nil, List.sum_cons, List.sum_nil] at z ⊢
    refine ⟨by show q 1 ≤ _; omega, fun e => ?_⟩
    have := z e 2 (by omega) (by omega); have := z e 3 (by omega) (by omega)
    show q 1 = _
    omega
  | [a, b], _, h4, z =>
    have e0 : q 0 = a := h4 0 (by simp)
    have e1 : q 1 = b := h4 1 (by simp)
    simp only [List.length_cons, List.length_nil, List.sum_cons, List.sum_nil] at z ⊢
    refine ⟨by show q 2 ≤ _; omega, fun e => ?_⟩
    have := z e 3 (by omega) (by omega)
    show q 2 = _
    omega
  | [a, b, c], _, h4, z =>
    have e0 : q 0 = a := h4 0 (by simp)
    have e1 : q 1 = b := h4 1 (by simp)
    have e2 : q 2 = c := h4 2 (by simp)
    simp only [List.length_cons, List.length_nil, List.sum_cons, List.sum_nil] at z ⊢
    exact ⟨by show q 3 ≤ _; omega, fun e => by show q 3 = _; omega⟩
  | _ :: _ :: _ :: _ :: _, hi, _, _ => simp at hi; omega
theorem at0_app {hd : List Int} {x : Int} {j : Nat} (hj : j < hd.length) : at0 (hd ++ [x]) j = at0 hd j := by
  unfold at0; rw [List.getD_eq_getElem?_getD, List.getD_eq_getElem?_getD, List.getElem?_append_left hj]
theorem at0_new {hd : List Int} {x : Int} : at0 (hd ++ [x]) hd.length = x := by
  unfold at0; rw [List.getD_eq_getElem?_getD, List.getElem?_append_right (Nat.le_refl _)]; simp
theorem ext_next {ts : List (List Int)} {S : Int} {hd : List Int} {x : Int} {q : Nat → Int} : Ext ts S (at0 (hd ++ [x])) (hd ++ [x]).length q ↔ Ext ts S (at0 hd) hd.length q ∧ q hd.length = x := by
  have el : (hd ++ [x]).length = hd.length + 1 := by simp
  rw [el]
  constructor
  · rintro ⟨h1, h2, h3, h4⟩
    exact ⟨⟨h1, h2, h3, fun j hj => by rw [h4 j (by omega), at0_app hj]⟩, by rw [h4 hd.length (by omega), at0_new]⟩
  · rintro ⟨⟨h1, h2, h3, h4⟩, hx⟩
    refine ⟨h1, h2, h3, fun j hj => ?_⟩
    rcases Nat.lt_or_ge j hd.length with h | h
    · rw [at0_app h, h4 j h]
    · obtain rfl : j = hd.length := by omega
      rw [at0_new, hx]

/-- What coreFrom tells of payments that begin as hd does. -/
def CfR (ts : List (List Int)) (S : Int) (hd l : List Int) (ok : Bool) : Prop :=
  (ok = true → l.length = ts.length ∧ Ext ts S (at0 hd) hd.length (at0 l) ∧ ∀ q, Ext ts S (at0 hd) hd.length q → MF (at0 l) ≤ MF q) ∧
  (ok = false → ∀ q, ¬ Ext ts S (at0 hd) hd.length q)
/-- A beginning that is no more than what is had. -/
def HdOk (ts : List (List Int)) (hd : List Int) : Prop := hd.length ≤ ts.length ∧ ∀ j, j < hd.length → 0 ≤ at0 hd j ∧ at0 hd j ≤ ow ts j
theorem HdOk.next {ts : List (List Int)} {hd : List Int} {x : Int} (h : HdOk ts hd) (hl : hd.length < ts.length) (h0 : 0 ≤ x) (h1 : x ≤ ow ts hd.length) : HdOk ts (hd ++ [x]) := by
  refine ⟨by simp; omega, fun j hj => ?_⟩
  simp at hj
  rcases Nat.lt_or_ge j hd.length with h' | h'
  · rw [at0_app h']; exact h.2 j h'
  · obtain rfl : j = hd.length := by omega
    rw [at0_new]; exact ⟨h0, h1⟩
theorem at0_far {hd : List Int} {j : Nat} (h : hd.length ≤ j) : at0 hd j = 0 := by
  unfold at0; rw [List.getD_eq_getElem?_getD, List.getElem?_eq_none h]; rfl
theorem sum_four {hd : List Int} (h : hd.length ≤ 4) : at0 hd 0 + at0 hd 1 + at0 hd 2 + at0 hd 3 = hd.sum := by
  match hd, h with
  | [], _ => rfl
  | [a], _ => simp [at0]
  | [a, b], _ => simp [at0]
  | [a, b, c], _ => simp [at0]; omega
  | [a, b, c, d], _ => simp [at0]; omega
  | _ :: _ :: _ :: _ :: _ :: _, h => simp at h
theorem HdOk.in4 {ts : List (List Int)} {hd : List Int} (h : HdOk ts hd) (hl : hd.length = ts.length) : In4 ts (at0 hd) := fun j hj => by
  unfold ow4
  rcases Nat.lt_or_ge j ts.length with h' | h'
  · rw [if_pos h']; exact h.2 j (by omega)
  · rw [if_neg (by omega), at0_far (by omega)]; omega
theorem HdOk.sum {ts : List (List Int)} (hv : ∀ t ∈ ts, VT t) {hd : List Int} (h : HdOk ts hd) (hn : ts.length ≤ 4) : 0 ≤ hd.sum ∧ hd.sum ≤ 120 := by
  have hl := h.1
  rw [← sum_four (by omega)]
  have b : ∀ j, 0 ≤ at0 hd j ∧ at0 hd j ≤ 30 := fun j => by
    rcases Nat.lt_or_ge j hd.length with h' | h'
    · have := h.2 j h'; have := ow_bd hv (i := j) (by omega); omega
    · rw [at0_far h']; omega
  have b0 := b 0; have b1 := b 1; have b2 := b 2; have b3 := b 3
  omega
/-- All places are given. -/
theorem cf_full {ts : List (List Int)} {S : Int} {hd : List Int} (h : HdOk ts hd) (hl : hd.length = ts.length) (hn : ts.length ≤ 4) {bl : Bool}
    (hb : bl = false ↔ ∀ U, U < 2 ^ ts.length → ww ts U ≤ hv (ow ts) (at0 hd) U ts.length) : CfR ts S hd hd (decide (S - hd.sum = 0) && !bl) := by
  have hi := h.in4 hl
  have s4 := sum_four (hd := hd) (by omega)
  constructor
  · intro hok
    simp only [Bool.and_eq_true, decide_eq_true_eq, Bool.not_eq_true'] at hok
    refine ⟨hl, ⟨hi, ⟨fun i hi' => (h.2 i (by omega)).2, hb.1 hok.2⟩, by omega, fun j _ => rfl⟩, fun q hq => ?_⟩
    have e : ∀ j, j < 4 → q j = at0 hd j := fun j hj => by
      rcases Nat.lt_or_ge j hd.length with h' | h'
      · exact hq.2.2.2 j h'
      · have := hq.1 j hj
        unfold ow4 at this
        rw [if_neg (by omega)] at this
        rw [at0_far h']; omega
    unfold MF
    rw [e 0 (by omega), e 1 (by omega), e 2 (by omega), e 3 (by omega)]
    exact Int.le_refl _
  · intro hok q hq
    have e : ∀ j, j < 4 → q j = at0 hd j := fun j hj => by
      rcases Nat.lt_or_ge j hd.length with h' | h'
      · exact hq.2.2.2 j h'
      · have := hq.1 j hj
        unfold ow4 at this
        rw [if_neg (by omega)] at this
        rw [at0_far h']; omega
    have hs : S - hd.sum = 0 := by
      have := hq.2.2.1
      rw [e 0 (by omega), e 1 (by omega), e 2 (by omega), e 3 (by omega)] at this
      omega
    have hc : InC ts (at0 hd) := hq.2.1.congr (fun i hi' => e i (by omega))
    have hbf : bl = false := hb.2 hc.2
    rw [hbf, hs] at hok
    simp at hok
/-- One number more is found, or there is none. -/
theorem cf_found {ts : List (List Int)} (hv : ∀ t ∈ ts, VT t) {S x : Int} {hd l : List Int} (hi : hd.length < 4) (hx : ∀ q, Ext ts S (at0 hd) hd.length q → x ≤ q hd.length) (h : CfR ts S (hd ++ [x]) l true) : CfR ts S hd l true := by
  obtain ⟨h1, h2, h3⟩ := h.1 rfl
  have h2' := ext_next.1 h2
  refine ⟨fun _ => ⟨h1, h2'.1, fun q hq => ?_⟩, fun e => by cases e⟩
  have := hx q hq
  rcases Int.lt_or_le x (q hd.length) with h4 | h4
  · exact mf_lexE hv h2'.1 hq hi (by rw [h2'.2]; exact h4)
  · exact h3 q (ext_next.2 ⟨hq, by omega⟩)
theorem cf_next {ts : List (List Int)} {S x : Int} {hd l : List Int} (hx : ∀ q, Ext ts S (at0 hd) hd.length q → x ≤ q hd.length) (h : CfR ts S (hd ++ [x]) l false) : ∀ q, Ext ts S (at0 hd) hd.length q → x + 1 ≤ q hd.length := fun q hq => by
  have h1 := hx q hq
  have h2 := h.2 rfl q
  rcases Int.lt_or_le x (q hd.length) with h4 | h4
  · omega
  · exact absurd (ext_next.2 ⟨hq, by omega⟩) h2
theorem cf_none {ts : List (List Int)} {S x : Int} {hd l : List Int} (hi : hd.length < 4) (hl : hd.length < ts.length) (hx : ∀ q, Ext ts S (at0 hd) hd.length q → x ≤ q hd.length) (h : S - hd.sum < x ∨ ow ts hd.length < x) : CfR ts S hd l false := by
  refine ⟨(fun e => by cases e), fun _ q hq => ?_⟩
  have h1 := hx q hq
  have h2 := (ext_left hq hi).1
  have h3 := (hq.1 hd.length hi).2
  unfold ow4 at h3
  rw [if_pos hl] at h3
  omega
theorem cf_low {ts : List (List Int)} {S : Int} {hd : List Int} (hi : hd.length < 4) : (∀ q, Ext ts S (at0 hd) hd.length q → 0 ≤ q hd.length) ∧ (ts.length = hd.length + 1 → ∀ q, Ext ts S (at0 hd) hd.length q → S - hd.sum ≤ q hd.length) :=
  ⟨fun q hq => (hq.1 _ hi).1, fun e q hq => by rw [(ext_left hq hi).2 e]; exact Int.le_refl _⟩
/-- Sum after sum. -/
theorem lc_found {ts : List (List Int)} (hv : ∀ t ∈ ts, VT t) {S : Int} {l : List Int} (hx : ∀ q, In4 ts q → InC ts q → S ≤ q 0 + q 1 + q 2 + q 3) (h : CfR ts S [] l true) : l.length = ts.length ∧ IsLC ts (at0 l) ∧ S = at0 l 0 + at0 l 1 + at0 l 2 + at0 l 3 := by
  obtain ⟨h1, h2, h3⟩ := h.1 rfl
  refine ⟨h1, ⟨h2.1, h2.2.1, fun q g1 g2 => ?_⟩, h2.2.2.1.symm⟩
  have := hx q g1 g2
  rcases Int.lt_or_le S (q 0 + q 1 + q 2 + q 3) with h4 | h4
  · exact mf_lessE hv h2.1 g1 (by rw [h2.2.2.1]; exact h4)
  · exact h3 q ⟨g1, g2, by omega, fun j hj => by simp at hj⟩
theorem lc_next {ts : List (List Int)} {S : Int} {l : List Int} (hx : ∀ q, In4 ts q → InC ts q → S ≤ q 0 + q 1 + q 2 + q 3) (h : CfR ts S [] l false) : ∀ q, In4 ts q → InC ts q → S + 1 ≤ q 0 + q 1 + q 2 + q 3 := fun q g1 g2 => by
  have h1 := hx q g1 g2
  have h2 := h.2 rfl q
  rcases Int.lt_or_le S (q 0 + q 1 + q 2 + q 3) with h4 | h4
  · omega
  · exact absurd ⟨g1, g2, by omega, fun j hj => by simp at hj⟩ h2

end Go.Proofs.Ytpildecpabeanaa

/-
  Chapter 9, the model: coreFrom.
-/
namespace Go.Proofs.Ytpildecpabeanaa
open Go.RowKit

/-- What coreFrom hands back. -/
def CfIs (ts : List (List Int)) (S : Int) (hd : List Int) (w : World) (e : Ending) (w' : World) : Prop :=
  ∃ (A : Option Addr) (c : Nat) (l : List Int) (ok : Bool), e = .returned (.tuple #[.slice A l.length c, .bool ok]) ∧ Rd w' A c l ∧ Below w.heap.size w w' ∧ CfR ts S hd l ok

theorem bl_iff {ts : List (List Int)} {p : Nat → Int} : blB ts p = false ↔ ∀ U, U < 2 ^ ts.length → ww ts U ≤ hv (ow ts) p U ts.length := by
  constructor
  · intro h U hU
    rcases Int.lt_or_le (hv (ow ts) p U ts.length) (ww ts U) with h1 | h1
    · rw [blB_true ⟨U, hU, h1⟩] at h; cases h
    · exact h1
  · exact blB_false

set_option maxHeartbeats 2000000 in
theorem ScoreFrom_full (A B D C : Option Addr) (c d f e n : Nat) (ts : List (List Int)) (hd : List Int) (S : Int) (lf : Nat) (w : World) (hn : ts.length = n) (hvt : ∀ t ∈ ts, VT t) (h4 : n ≤ 4) (hl : hd.length = n) (ho : HdOk ts hd) (hlf : (lf : Int) = S - hd.sum)
    (h : RdR w A c ts) (hS : Rd w B d (setsF (wayF ts) n)) (hW : Rd w D f (vls (fun S => ww ts S) (2 ^ n))) (hC : Rd w C e hd) :
    Calls Try.prog 92 #[.slice A n c, .slice B n d, .slice D (2 ^ n) f, .slice C n e, .int .i64 (lf : Int)] w (CfIs ts S hd w) := by
  have hpb : ∀ i, i < 4 → 0 ≤ at0 hd i ∧ at0 hd i ≤ 30 := fun i _ => by
    rcases Nat.lt_or_ge i hd.length with h1 | h1
    · have := ho.2 i h1; have := ow_bd hvt (i := i) (by omega); omega
    · rw [at0_far h1]; omega
  have HB := Lib.hid (Sblocked_any A B C D c d e f n ts hd w hn hl h hvt hS hC hW h4 hpb)
  have HF := Lib.hid (cf_full (S := S) ho (by omega) (by omega) (bl_iff (ts := ts) (p := at0 hd)))
  have HC := Lib.hid hC
  have HLN := Lib.hid hl
  generalize blB ts (at0 hd) = bl at *
  generalize 2 ^ n = P at *
  by_cases h0 : lf = 0
  · have hb0 : ((lf : Int) == 0) = true := by simp; omega
    have HR : Hid (CfR ts S hd hd (!bl)) := Lib.hid (by have := HF.out; rw [show decide (S - hd.sum = 0) = true from decide_eq_true (by omega), Bool.true_and] at this; exact this)
    clear hpb ho hvt hn hl hlf h hS hW hC HF h0
    go_enter Try.func92, Try.ntmps92
    go_wp2_with fail
    refine HB.out.mono ?_
    rintro e w2 ⟨rfl, q, rfl⟩
    go_wp2
    go_ret2
    exact ⟨C, _, hd, !bl, by rw [HLN.out]; rfl, HC.out.drewN q, below_drewN' (Below.refl _ _) q, HR.out⟩
  · have hb0 : ((lf : Int) == 0) = false := by simp; omega
    have HR : Hid (CfR ts S hd hd false) := Lib.hid (by have := HF.out; rw [show decide (S - hd.sum = 0) = false from decide_eq_false (by omega), Bool.false_and] at this; exact this)
    clear hpb ho hvt hn hl hlf h hS hW hC HF h0 HB
    go_enter Try.func92, Try.ntmps92
    go_wp2
    go_ret2
    exact ⟨C, _, hd, false, by rw [HLN.out]; rfl, HC.out, Below.refl _ _, HR.out⟩

end Go.Proofs.Ytpildecpabeanaa

/-
  Chapter 9, the model: coreFrom, by recursion, and LeastCore.
-/
namespace Go.Proofs.Ytpildecpabeanaa
open Go.RowKit

/-- coreFrom at all beginnings with m places left. -/
def CfAt (A B D : Option Addr) (c d f n m : Nat) (ts : List (List Int)) : Prop :=
  ∀ (hd : List Int) (i : Nat) (S : Int) (lf : Nat) (C : Option Addr) (e : Nat) (w : World), hd.length = i → i + m = n → HdOk ts hd → (lf : Int) = S - hd.sum → lf ≤ 200 →
    RdR w A c ts → Rd w B d (setsF (wayF ts) n) → Rd w D f (vls (fun S => ww ts S) (2 ^ n)) → Rd w C e hd →
    Calls Try.prog 92 #[.slice A n c, .slice B n d, .slice D (2 ^ n) f, .slice C i e, .int .i64 (lf : Int)] w (CfIs ts S hd w)

theorem cfA {W W1 w3 : World} {A : Option Addr} {c1 : Nat} {zs : List Int} (y : Int) (hB : Below W.heap.size W W1) (ho : Own w3 W.heap.size A c1 ([] ++ zs)) (hg : W1.grownBy w3 (ofA (some ⟨W.heap.size, 0, none⟩))) :
    Hid (Own (w3.alloc (.cells #[.int .i64 y] 3)) W.heap.size A c1 zs) ∧ Hid (Rd (w3.alloc (.cells #[.int .i64 y] 3)) (some ⟨w3.heap.size, 0, none⟩) 1 [y]) ∧ Hid (Below W.heap.size W (w3.alloc (.cells #[.int .i64 y] 3))) ∧ Hid (W.heap.size ≤ (w3.alloc (.cells #[.int .i64 y] 3)).heap.size) := by
  rw [List.nil_append] at ho
  have h3 := hB.grown hg hB.size (fun k hk => by cases hk; exact Nat.le_refl _)
  have h4 := h3.alloc h3.size (.cells #[.int .i64 y] 3)
  exact ⟨ho.below ((Below.refl w3.heap.size w3).alloc (Nat.le_refl _) _), (own_lit w3 [y] (by simp)).rd, h4, h4.size⟩
theorem cfB {w W W3 w4 : World} {A A' : Option Addr} {c1 c2 : Nat} {us vs : List Int} (hw : Hid (Below w.heap.size w W)) (hB : Hid (Below W.heap.size W W3)) (h1 : Hid (Own W3 W.heap.size A c1 us)) (ho : Own w4 W.heap.size A' c2 vs) (hg : W3.grownBy w4 (ofA A)) :
    Hid (Rd w4 A' c2 vs) ∧ Hid (Below w.heap.size w w4) :=
  ⟨ho.rd, hw.out.trans ((Own.grownBelow0 hB.out h1.out hB.out.size hg).mono hw.out.size)⟩

set_option maxRecDepth 100000 in
set_option maxHeartbeats 4000000 in
theorem ScoreFrom_step (A B D : Option Addr) (c d f n m : Nat) (ts : List (List Int)) (hn : ts.length = n) (hvt : ∀ t ∈ ts, VT t) (h4 : n ≤ 4) (ih : CfAt A B D c d f n m ts) : CfAt A B D c d f n (m + 1) ts := by
  intro hd i S lf C e w hi him ho hlf hl2 h hS hW hC
  have HN := Lib.hid hn
  have HV := Lib.hid hvt
  have HI := Lib.hid hi
  have hin : i < n := by omega
  have hob := ow_bd hvt (i := i) (by omega)
  obtain ⟨M, hM⟩ : ∃ M : Nat, (M : Int) = min (lf : Int) (ow ts i) := ⟨(min (lf : Int) (ow ts i)).toNat, by omega⟩
  have hMl : M ≤ 30 := by omega
  have hsl : (setsF (wayF ts) n).length = n := setsF_len' _ _
  have HSL := Lib.hid hsl
  have HNONE := Lib.hid (fun (k : Nat) (hx : ∀ q, Ext ts S (at0 hd) i q → (k : Int) ≤ q i) (hk : M < k) => (by
    subst hi
    exact cf_none (l := []) (by omega) (by omega) hx (by omega) : CfR ts S hd [] false))
  have HFOUND := Lib.hid (fun (k : Nat) (l : List Int) (hx : ∀ q, Ext ts S (at0 hd) i q → (k : Int) ≤ q i) (hr : CfR ts S (hd ++ [(k : Int)]) l true) => (by
    subst hi
    exact cf_found hvt (by omega) hx hr : CfR ts S hd l true))
  have HNEXT := Lib.hid (fun (k : Nat) (l : List Int) (hx : ∀ q, Ext ts S (at0 hd) i q → (k : Int) ≤ q i) (hr : CfR ts S (hd ++ [(k : Int)]) l false) => (by
    subst hi
    have := cf_next hx hr
    exact fun q hq => by have := this q hq; push_cast; exact this : ∀ q, Ext ts S (at0 hd) i q → ((k + 1 : Nat) : Int) ≤ q i))
  have HLOW : Hid ((∀ q, Ext ts S (at0 hd) i q → ((0 : Nat) : Int) ≤ q i) ∧ (n = i + 1 → ∀ q, Ext ts S (at0 hd) i q → (lf : Int) ≤ q i)) := Lib.hid (by
    subst hi
    have := cf_low (ts := ts) (S := S) (hd := hd) (by omega)
    exact ⟨this.1, fun e q hq => by rw [hlf]; exact this.2 (by omega) q hq⟩)
  have HIH := Lib.hid (fun (k : Nat) (hk : k ≤ M) (C2 : Option Addr) (e2 : Nat) (w2 : World) (hb : Below w.heap.size w w2) (hC2 : Rd w2 C2 e2 (hd ++ [(k : Int)])) => (by
    exact ih (hd ++ [(k : Int)]) (i + 1) S (lf - k) C2 e2 w2 (by simp; omega) (by omega) (ho.next (by omega) (by omega) (by rw [hi]; omega)) (by simp; omega) (by omega) (h.below hb) (hS.below hb) (hW.below hb) hC2 :
    Calls Try.prog 92 #[.slice A n c, .slice B n d, .slice D (2 ^ n) f, .slice C2 (i + 1) e2, .int .i64 ((lf - k : Nat) : Int)] w2 (CfIs ts S (hd ++ [(k : Int)]) w2)))
  have HR := Lib.hid h
  have HRS := Lib.hid hS
  have HRC := Lib.hid hC
  generalize 2 ^ n = P at *
  obtain ⟨o, hoo⟩ : ∃ o, o = ow ts i := ⟨_, rfl⟩
  rw [← hoo] at hM hob
  have HO := Lib.hid hoo
  have hmin : min (lf : Int) o = (M : Int) := hM.symm
  have hMlf : M ≤ lf := by omega
  have hni : ((i : Int) == (n : Int)) = false := by simp; omega
  have hwn : IntKind.i64.wrap ((n : Int) - 1) = (n : Int) - 1 := IntWalk.i64_in _ (by omega)
  by_cases hlast : n = i + 1
  · have hl1 : ((i : Int) == (n : Int) - 1) = true := by simp; omega
    have HX0 := Lib.hid (HLOW.out.2 hlast)
    clear ih hn hvt hi him ho hlf h hS hW hC hsl HLOW hoo hM hlast
    go_enter Try.func92, Try.ntmps92
    go_wp2
    go_loopw [14] (fun xv wr => ∃ k : Nat, xv = .int .i64 (k : Int) ∧ k ≤ 1000 ∧ Hid (Below w.heap.size w wr) ∧ Hid (∀ q, Ext ts S (at0 hd) i q → (k : Int) ≤ q i)) (fun xv _ => M + 1 - (intOf xv).toNat)
    case atStart => exact ⟨lf, rfl, by omega, Lib.hid (Below.refl _ _), HX0⟩
    case round =>
      obtain ⟨k, rfl, hk1000, HB, HX⟩ := hrel
      obtain ⟨b1, off1, br, ofr, c', s, rfl, hs8, hsx, hc1, hc2⟩ := own_at (HR.out.below HB.out) HN.out HV.out hin
      obtain ⟨b2, off2, s', rfl, _, hs', hc3⟩ := (HRS.out.below HB.out).at_ (k := i) (by rw [HSL.out]; exact hin)
      obtain rfl : s' = (s : Int) := by have := hs'.out; rw [hsx] at this; injection this with this; exact this.symm
      rw [← HO.out] at hc2
      have hs0 : (0 : Int) ≤ (s : Int) := by omega
      have hs7 : (s : Int) < 8 := by omega
      have hi0 : (0 : Int) ≤ (i : Int) := by omega
      have hin' : (i : Int) < (n : Int) := by omega
      clear hsx hs'
      by_cases hkM : k ≤ M
      · have hkM' : (k : Int) ≤ (M : Int) := by omega
        go_wp2_with fail
        go_quiet (fail)
        all_goals
          obtain ⟨W, hW⟩ : ∃ W, W = wr.drewN nq := ⟨_, rfl⟩
          have HBW : Hid (Below w.heap.size w W) := Lib.hid (by rw [hW]; exact below_drewN' HB.out _)
          rw [← hW]
          clear hW hc1 hc2 hc3
          have HE0 := Lib.hid (own_empty W)
          have HB0 := Lib.hid ((Below.refl W.heap.size W).alloc (Nat.le_refl _) (.cells #[] 3))
          have HRT := Lib.hid ((HRC.out.below HBW.out).below HB0.out)
          have HS0 := Lib.hid HB0.out.size
          have hsub : IntKind.i64.wrap ((lf : Int) - (k : Int)) = ((lf - k : Nat) : Int) := by rw [show (lf : Int) - (k : Int) = ((lf - k : Nat) : Int) by omega]; exact IntWalk.i64_in _ (by omega)
          go_wp2_with (first
            | (at_builtin; refine wpList_append_any rfl _ _ 23 Try.underlying23 rfl W.heap.size (some ⟨W.heap.size, 0, none⟩) 0 [] 0 rfl rfl HE0.out _ _ hd i HI.out rfl HRT.out (by omega) HS0.out ?_; intro A2 c2 w2 o2 g2; obtain ⟨HO2, HL2, HB2, HS2⟩ := cfA (k : Int) HB0.out o2 g2; clear o2 g2)
            | (at_builtin; refine wpList_append_any rfl _ _ 23 Try.underlying23 rfl W.heap.size A2 c2 hd i HI.out rfl HO2.out _ _ [(k : Int)] 1 rfl rfl HL2.out (by omega) HS2.out ?_; intro A4 c4 w4 o4 g4; obtain ⟨HR4, HB4⟩ := cfB HBW HB2 HO2 o4 g4; clear o4 g4)
            | (go_at_call 92; refine (HIH.out k hkM _ _ _ HB4.out HR4.out).mono ?_; rintro e w5 ⟨A5, c5, l, ok, rfl, r5, b5, hcf⟩; have HB5 := Lib.hid (HB4.out.trans (b5.mono HB4.out.size)); have HR5 := Lib.hid r5; have HCF := Lib.hid hcf; clear b5 r5 hcf; rcases ok with _ | _))
          · have HX' := Lib.hid (HNEXT.out k l HX.out HCF.out)
            go_wp2
            go_roundw
            case rel => exact ⟨k + 1, by go_num, by omega, HB5, HX'⟩
            case measure => simp [intOf]; omega
          all_goals
            have HR6 := Lib.hid (HFOUND.out k l HX.out HCF.out)
            try go_wp2
            all_goals
              go_ret2
              exact ⟨A5, c5, l, true, rfl, HR5.out, HB5.out, HR6.out⟩
      · have hkM' : ¬ (k : Int) ≤ (M : Int) := by omega
        have HR0 := Lib.hid (HNONE.out k HX.out (by omega))
        go_wp2_with fail
        go_quiet (fail)
        all_goals
          go_wp2
          all_goals
            go_ret2
            exact ⟨none, 0, [], false, rfl, Rd.nil _, below_drewN' HB.out _, HR0.out⟩
  · have hl1 : ((i : Int) == (n : Int) - 1) = false := by simp; omega
    have HX0 := Lib.hid (HLOW.out.1)
    clear ih hn hvt hi him ho hlf h hS hW hC hsl HLOW hoo hM hlast
    go_enter Try.func92, Try.ntmps92
    go_wp2
    go_loopw [14] (fun xv wr => ∃ k : Nat, xv = .int .i64 (k : Int) ∧ k ≤ 1000 ∧ Hid (Below w.heap.size w wr) ∧ Hid (∀ q, Ext ts S (at0 hd) i q → (k : Int) ≤ q i)) (fun xv _ => M + 1 - (intOf xv).toNat)
    case atStart => exact ⟨0, rfl, by omega, Lib.hid (Below.refl _ _), HX0⟩
    case round =>
      obtain ⟨k, rfl, hk1000, HB, HX⟩ := hrel
      obtain ⟨b1, off1, br, ofr, c', s, rfl, hs8, hsx, hc1, hc2⟩ := own_at (HR.out.below HB.out) HN.out HV.out hin
      obtain ⟨b2, off2, s', rfl, _, hs', hc3⟩ := (HRS.out.below HB.out).at_ (k := i) (by rw [HSL.out]; exact hin)
      obtain rfl : s' = (s : Int) := by have := hs'.out; rw [hsx] at this; injection this with this; exact this.symm
      rw [← HO.out] at hc2
      have hs0 : (0 : Int) ≤ (s : Int) := by omega
      have hs7 : (s : Int) < 8 := by omega
      have hi0 : (0 : Int) ≤ (i : Int) := by omega
      have hin' : (i : Int) < (n : Int) := by omega
      clear hsx hs'
      by_cases hkM : k ≤ M
      · have hkM' : (k : Int) ≤ (M : Int) := by omega
        go_wp2_with fail
        go_quiet (fail)
        all_goals
          obtain ⟨W, hW⟩ : ∃ W, W = wr.drewN nq := ⟨_, rfl⟩
          have HBW : Hid (Below w.heap.size w W) := Lib.hid (by rw [hW]; exact below_drewN' HB.out _)
          rw [← hW]
          clear hW hc1 hc2 hc3
          have HE0 := Lib.hid (own_empty W)
          have HB0 := Lib.hid ((Below.refl W.heap.size W).alloc (Nat.le_refl _) (.cells #[] 3))
          have HRT := Lib.hid ((HRC.out.below HBW.out).below HB0.out)
          have HS0 := Lib.hid HB0.out.size
          have hsub : IntKind.i64.wrap ((lf : Int) - (k : Int)) = ((lf - k : Nat) : Int) := by rw [show (lf : Int) - (k : Int) = ((lf - k : Nat) : Int) by omega]; exact IntWalk.i64_in _ (by omega)
          go_wp2_with (first
            | (at_builtin; refine wpList_append_any rfl _ _ 23 Try.underlying23 rfl W.heap.size (some ⟨W.heap.size, 0, none⟩) 0 [] 0 rfl rfl HE0.out _ _ hd i HI.out rfl HRT.out (by omega) HS0.out ?_; intro A2 c2 w2 o2 g2; obtain ⟨HO2, HL2, HB2, HS2⟩ := cfA (k : Int) HB0.out o2 g2; clear o2 g2)
            | (at_builtin; refine wpList_append_any rfl _ _ 23 Try.underlying23 rfl W.heap.size A2 c2 hd i HI.out rfl HO2.out _ _ [(k : Int)] 1 rfl rfl HL2.out (by omega) HS2.out ?_; intro A4 c4 w4 o4 g4; obtain ⟨HR4, HB4⟩ := cfB HBW HB2 HO2 o4 g4; clear o4 g4)
            | (go_at_call 92; refine (HIH.out k hkM _ _ _ HB4.out HR4.out).mono ?_; rintro e w5 ⟨A5, c5, l, ok, rfl, r5, b5, hcf⟩; have HB5 := Lib.hid (HB4.out.trans (b5.mono HB4.out.size)); have HR5 := Lib.hid r5; have HCF := Lib.hid hcf; clear b5 r5 hcf; rcases ok with _ | _))
          · have HX' := Lib.hid (HNEXT.out k l HX.out HCF.out)
            go_wp2
            go_roundw
            case rel => exact ⟨k + 1, by go_num, by omega, HB5, HX'⟩
            case measure => simp [intOf]; omega
          all_goals
            have HR6 := Lib.hid (HFOUND.out k l HX.out HCF.out)
            try go_wp2
            all_goals
              go_ret2
              exact ⟨A5, c5, l, true, rfl, HR5.out, HB5.out, HR6.out⟩
      · have hkM' : ¬ (k : Int) ≤ (M : Int) := by omega
        have HR0 := Lib.hid (HNONE.out k HX.out (by omega))
        go_wp2_with fail
        go_quiet (fail)
        all_goals
          go_wp2
          all_goals
            go_ret2
            exact ⟨none, 0, [], false, rfl, Rd.nil _, below_drewN' HB.out _, HR0.out⟩

theorem ScoreFrom_all (A B D : Option Addr) (c d f n : Nat) (ts : List (List Int)) (hn : ts.length = n) (hvt : ∀ t ∈ ts, VT t) (h4 : n ≤ 4) : ∀ m, CfAt A B D c d f n m ts
  | 0 => fun hd i S lf C e w hi him ho hlf _ h hS hW hC => by
    obtain rfl : i = n := by omega
    exact ScoreFrom_full A B D C c d f e i ts hd S lf w hn hvt h4 hi ho hlf h hS hW hC
  | m + 1 => ScoreFrom_step A B D c d f n m ts hn hvt h4 (ScoreFrom_all A B D c d f n ts hn hvt h4 m)

/-- What the model's LeastCore hands back: a list, and its sum. -/
def SLcIs (w : World) (ts : List (List Int)) (e : Ending) (w' : World) : Prop :=
  Below w.heap.size w w' ∧ (((VTs ts ∧ ts.length ≤ 3) ∧ ∃ A c l, e = .returned (.tuple #[.slice A l.length c, .int .i64 (sm4 (at0 l))]) ∧ Rd w' A c l ∧ l.length = ts.length ∧ IsLC ts (at0 l)) ∨
    (¬ (VTs ts ∧ ts.length ≤ 3) ∧ e = .returned (.tuple #[.slice none 0 0, .int .i64 (-1)])))

set_option maxRecDepth 100000 in
set_option maxHeartbeats 4000000 in
theorem SLeastCore_any (A : Option Addr) (c : Nat) (ts : List (List Int)) (w : World) (h : RdR w A c ts) (hl : ts.length ≤ 1099511627776) (hl2 : ∀ r ∈ ts, r.length ≤ 1099511627776) :
    Calls Try.prog 34 #[.slice A ts.length c] w (SLcIs w ts) := by
  have HC := Lib.hid (SvalidTables_any A c ts w h hl hl2)
  rcases hb : vtsB ts with _ | _
  · have HE : Hid (¬ (VTs ts ∧ ts.length ≤ 3)) := Lib.hid (fun h => by rw [vtsB_true h.1] at hb; cases hb)
    rw [hb] at HC
    clear hb h
    go_enter Try.func34, Try.ntmps34
    go_wp2_with (go_at_call 74; refine HC.out.mono ?_; rintro e w1 ⟨rfl, q1, rfl⟩)
    go_ret2
    exact ⟨below_drewN' (Below.refl _ _) q1, .inr ⟨HE.out, rfl⟩⟩
  · rw [hb] at HC
    have hv := vtsB_iff.1 hb
    clear hb
    by_cases h3 : ts.length ≤ 3
    · have h4 := hv.1.2
      obtain ⟨n, hn⟩ : ∃ n, n = ts.length := ⟨_, rfl⟩
      have HYES := Lib.hid (And.intro hv h3)
      have HN := Lib.hid hn.symm
      have HB := Lib.hid (fun (q : Nat) => SbestSplit_any A c n ts (w.drewN q) (h.drewN q) hv hn.symm)
      have HWS := Lib.hid (fun (w1 : World) (hb : Below w.heap.size w w1) => SworthsOf_any A c n ts w1 hn.symm (h.below hb) (by omega) hv.2)
      have HCF := Lib.hid (fun (B D C : Option Addr) (d f e : Nat) (S : Nat) (w1 : World) (hS200 : S ≤ 200) (hb : Below w.heap.size w w1) (hS : Rd w1 B d (setsF (wayF ts) n)) (hW : Rd w1 D f (vls (fun S => ww ts S) (2 ^ n))) (hC : Rd w1 C e []) =>
        ScoreFrom_all A B D c d f n ts hn.symm hv.2 (by omega) n [] 0 (S : Int) S C e w1 rfl (by omega) ⟨by simp, fun j hj => by simp at hj⟩ (by simp) hS200 (h.below hb) hS hW hC)
      have HOC := Lib.hid (And.intro (ow4_in hv.2) (ow4_core hv.2 (by omega : ts.length ≤ 4)))
      obtain ⟨T0, hT0⟩ : ∃ T0 : Nat, (T0 : Int) = ow4 ts 0 + ow4 ts 1 + ow4 ts 2 + ow4 ts 3 := by
        have b0 := ow4_bd hv.2 0; have b1 := ow4_bd hv.2 1; have b2 := ow4_bd hv.2 2; have b3 := ow4_bd hv.2 3
        exact ⟨(ow4 ts 0 + ow4 ts 1 + ow4 ts 2 + ow4 ts 3).toNat, by omega⟩
      have hT200 : T0 ≤ 120 := by
        have b0 := ow4_bd hv.2 0; have b1 := ow4_bd hv.2 1; have b2 := ow4_bd hv.2 2; have b3 := ow4_bd hv.2 3
        omega
      have HF := Lib.hid (fun (S : Nat) (l : List Int) (hx : ∀ q, In4 ts q → InC ts q → (S : Int) ≤ q 0 + q 1 + q 2 + q 3) (hr : CfR ts (S : Int) [] l true) => lc_found hv.2 hx hr)
      have HX : Hid (∀ (S : Nat) (l : List Int), (∀ q, In4 ts q → InC ts q → (S : Int) ≤ q 0 + q 1 + q 2 + q 3) → CfR ts (S : Int) [] l false → ∀ q, In4 ts q → InC ts q → ((S + 1 : Nat) : Int) ≤ q 0 + q 1 + q 2 + q 3) := Lib.hid (fun S l hx hr q g1 g2 => by have := lc_next hx hr q g1 g2; push_cast; exact this)
      have HTOP : Hid (∀ S : Nat, (∀ q, In4 ts q → InC ts q → (S : Int) ≤ q 0 + q 1 + q 2 + q 3) → S ≤ T0) := Lib.hid (fun S hx => by have := hx _ HOC.out.1 HOC.out.2; omega)
      have hn3 : decide (3 < (n : Int)) = false := by simp; omega
      rw [← hn] at HC ⊢
      have hX0 : Hid (∀ q, In4 ts q → InC ts q → ((0 : Nat) : Int) ≤ q 0 + q 1 + q 2 + q 3) := Lib.hid (fun q g1 _ => by have h0 := (g1 0 (by omega)).1; have h1 := (g1 1 (by omega)).1; have h2 := (g1 2 (by omega)).1; have h3 := (g1 3 (by omega)).1; simp; omega)
      generalize 2 ^ n = P at *
      clear hv h3 h4 hn HOC hT0 h
      go_enter Try.func34, Try.ntmps34
      go_wp2_with fail
      refine HC.out.mono ?_
      rintro e w1 ⟨rfl, q1, rfl⟩
      go_wp2_with fail
      refine (HB.out q1).mono ?_
      rintro e w2 ⟨g2, c2, rfl, o2, b2⟩
      have HS2 := Lib.hid o2.rd
      have HB2 : Hid (Below w.heap.size w w2) := Lib.hid ((below_drewN' (Below.refl _ w) q1).trans (b2.mono (Nat.le_refl _)))
      clear o2 b2
      go_wp2_with fail
      refine (HWS.out _ HB2.out).mono ?_
      rintro e w4 ⟨g4, c4, rfl, o4, b4⟩
      have HB4 := Lib.hid (HB2.out.trans (b4.mono HB2.out.size))
      have HS4 := Lib.hid (HS2.out.below b4)
      have HW4 := Lib.hid o4.rd
      clear o4 b4
      go_wp2_with fail
      go_loopw [6] (fun sv wr => ∃ S : Nat, S ≤ 120 ∧ sv = .int .i64 (S : Int) ∧ Hid (Below w4.heap.size w4 wr) ∧ Hid (∀ q, In4 ts q → InC ts q → (S : Int) ≤ q 0 + q 1 + q 2 + q 3)) (fun sv _ => 121 - (intOf sv).toNat)
      case atStart => exact ⟨0, by omega, rfl, Lib.hid (Below.refl _ _), hX0⟩
      case round =>
        obtain ⟨S, hS120, rfl, HBW, HXS⟩ := hrel
        have HEA := Lib.hid (own_empty wr).rd
        have HBA := Lib.hid ((HB4.out.trans (HBW.out.mono HB4.out.size)).alloc (HB4.out.trans (HBW.out.mono HB4.out.size)).size (.cells #[] 3))
        have HBB := Lib.hid (HBW.out.alloc HBW.out.size (.cells #[] 3))
        go_wp2_with fail
        refine (HCF.out _ _ _ _ _ _ S _ (by omega) HBA.out (HS4.out.below HBB.out) (HW4.out.below HBB.out) HEA.out).mono ?_
        rintro e w5 ⟨A5, c5, l, ok, rfl, r5, b5, hcf⟩
        have HB5 := Lib.hid (HBB.out.trans (b5.mono HBB.out.size))
        have HR5 := Lib.hid r5
        have HCF5 := Lib.hid hcf
        clear b5 r5 hcf
        rcases ok with _ | _
        · have HX' := Lib.hid (HX.out S l HXS.out HCF5.out)
          have hS' : S + 1 ≤ 120 := by have := HTOP.out (S + 1) HX'.out; omega
          go_wp2
          go_roundw
          case rel => exact ⟨S + 1, hS', by go_num, HB5, HX'⟩
          case measure => simp [intOf]; omega
        · have HFO := Lib.hid (HF.out S l HXS.out HCF5.out)
          go_wp2
          go_ret2
          exact ⟨HB4.out.trans (HB5.out.mono HB4.out.size), .inl ⟨HYES.out, A5, c5, l, by rw [HFO.out.2.2]; rfl, HR5.out, HFO.out.1, HFO.out.2.1⟩⟩
    · have HE : Hid (¬ (VTs ts ∧ ts.length ≤ 3)) := Lib.hid (fun h => h3 h.2)
      have hn3 : decide (3 < (ts.length : Int)) = true := by simp; omega
      clear hv h3 h
      go_enter Try.func34, Try.ntmps34
      go_wp2_with (go_at_call 74; refine HC.out.mono ?_; rintro e w1 ⟨rfl, q1, rfl⟩)
      go_ret2
      exact ⟨below_drewN' (Below.refl _ _) q1, .inr ⟨HE.out, rfl⟩⟩

end Go.Proofs.Ytpildecpabeanaa
