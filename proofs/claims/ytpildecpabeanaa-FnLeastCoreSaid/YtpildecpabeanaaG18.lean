/-
  Chapter 9, the program: two payments compared.
-/
import Derived.Test.YtpildecpabeanaaG17
import Derived.DeepKeys
namespace Go.Proofs.Ytpildecpabeanaa
open Go.RowKit
theorem wf_small {x : Int} (h : 0 ≤ x ∧ x ≤ 1000) : (Lit.int .i64 x).wf = true := by
  have e : IntKind.i64.min = -9223372036854775808 := by decide
  simp [Lit.wf, e]
  omega
theorem keyI (d : Nat) {x : Int} (h : (Lit.int .i64 x).wf = true) : Try.prog.keyLits (d + 1) 3 [.int .i64 x] = some [.int .i64 x] := by
  unfold Program.keyLits
  rw [Try.underlying3]
  simp [h]
theorem keyA (d : Nat) {x0 x1 x2 x3 : Int} (h0 : (Lit.int .i64 x0).wf = true) (h1 : (Lit.int .i64 x1).wf = true) (h2 : (Lit.int .i64 x2).wf = true) (h3 : (Lit.int .i64 x3).wf = true) :
    Try.prog.keyLits (d + 1 + 1) 69 [.int .i64 x0, .int .i64 x1, .int .i64 x2, .int .i64 x3] = some [.int .i64 x0, .int .i64 x1, .int .i64 x2, .int .i64 x3] := by
  have c1 : Try.prog.cellsOf 3 = 1 := by kernel_rfl
  have c4 : Try.prog.cellsOf 69 = 4 := by kernel_rfl
  have k0 := keyI d h0
  have k1 := keyI d h1
  have k2 := keyI d h2
  have k3 := keyI d h3
  unfold Program.keyLits
  rw [Try.underlying69]
  simp only [c1, c4]
  rw [if_pos (by rfl), show List.range 4 = [0, 1, 2, 3] from rfl]
  simp only [List.mapM_cons, List.mapM_nil, List.drop, List.take, k0, k1, k2, k3]
  rfl
theorem keyS {x0 x1 x2 x3 x4 : Int} (h0 : (Lit.int .i64 x0).wf = true) (h1 : (Lit.int .i64 x1).wf = true) (h2 : (Lit.int .i64 x2).wf = true) (h3 : (Lit.int .i64 x3).wf = true) (h4 : (Lit.int .i64 x4).wf = true) :
    Try.prog.keyLits 10 71 [.int .i64 x0, .int .i64 x1, .int .i64 x2, .int .i64 x3, .int .i64 x4] = some [.int .i64 x0, .int .i64 x1, .int .i64 x2, .int .i64 x3, .int .i64 x4] := by
  have c1 : Try.prog.cellsOf 3 = 1 := by kernel_rfl
  have c4 : Try.prog.cellsOf 69 = 4 := by kernel_rfl
  have c5 : Try.prog.cellsOf 71 = 5 := by kernel_rfl
  have ka := keyA 7 h0 h1 h2 h3
  have ki := keyI 8 h4
  unfold Program.keyLits
  rw [Try.underlying71]
  simp only [c5]
  rw [if_pos ⟨by rfl, by kernel_rfl⟩]
  simp only [List.mapM_cons, List.mapM_nil, c1, c4, List.drop, List.take, ka, ki]
  rfl
theorem run_eq5 {x0 x1 x2 x3 x4 y0 y1 y2 y3 y4 : Int} (h0 : 0 ≤ x0 ∧ x0 ≤ 1000) (h1 : 0 ≤ x1 ∧ x1 ≤ 1000) (h2 : 0 ≤ x2 ∧ x2 ≤ 1000) (h3 : 0 ≤ x3 ∧ x3 ≤ 1000) (h4 : 0 ≤ x4 ∧ x4 ≤ 1000) (g0 : 0 ≤ y0 ∧ y0 ≤ 1000) (g1 : 0 ≤ y1 ∧ y1 ≤ 1000) (g2 : 0 ≤ y2 ∧ y2 ≤ 1000) (g3 : 0 ≤ y3 ∧ y3 ≤ 1000) (g4 : 0 ≤ y4 ∧ y4 ≤ 1000) (w : World) :
    (Op.equalIn 10000 71 (.agg #[.int .i64 x0, .int .i64 x1, .int .i64 x2, .int .i64 x3, .int .i64 x4]) (.agg #[.int .i64 y0, .int .i64 y1, .int .i64 y2, .int .i64 y3, .int .i64 y4])).run Try.prog w = .ok (decide (x0 = y0 ∧ x1 = y1 ∧ x2 = y2 ∧ x3 = y3 ∧ x4 = y4)) w := by
  obtain ⟨r, hr, hiff⟩ := run_equalIn_deep (P := Try.prog) 9996 4 71 (by kernel_rfl) w 10 10 (.agg #[.int .i64 x0, .int .i64 x1, .int .i64 x2, .int .i64 x3, .int .i64 x4]) (.agg #[.int .i64 y0, .int .i64 y1, .int .i64 y2, .int .i64 y3, .int .i64 y4]) [.int .i64 x0, .int .i64 x1, .int .i64 x2, .int .i64 x3, .int .i64 x4] [.int .i64 y0, .int .i64 y1, .int .i64 y2, .int .i64 y3, .int .i64 y4] (by kernel_rfl) (by kernel_rfl) (keyS (wf_small h0) (wf_small h1) (wf_small h2) (wf_small h3) (wf_small h4)) (keyS (wf_small g0) (wf_small g1) (wf_small g2) (wf_small g3) (wf_small g4))
  have e : r = decide (x0 = y0 ∧ x1 = y1 ∧ x2 = y2 ∧ x3 = y3 ∧ x4 = y4) := by
    rw [Bool.eq_iff_iff, hiff]
    simp
  rw [← e]
  exact hr
end Go.Proofs.Ytpildecpabeanaa

/-
  Chapter 9, the program: the least payments in the core.
-/
namespace Go.Proofs.Ytpildecpabeanaa
open Go.RowKit

theorem set5 {l : List Int} (h : l.length = 5) (a b c d e : Int) : ((((l.set 0 a).set 1 b).set 2 c).set 3 d).set 4 e = [a, b, c, d, e] := by
  match l, h with
  | [_, _, _, _, _], _ => rfl
theorem Pm.put5 {w : World} {m : Nat} {l : List Int} (h : Pm w m l) (a b c d e : Int) : Pm (((((w.setCell ⟨m, 0, none⟩ (.int .i64 a)).setCell ⟨m, 1, none⟩ (.int .i64 b)).setCell ⟨m, 2, none⟩ (.int .i64 c)).setCell ⟨m, 3, none⟩ (.int .i64 d)).setCell ⟨m, 4, none⟩ (.int .i64 e)) m [a, b, c, d, e] := by
  have h1 := ((((h.set_ (k := 0) a).set_ (k := 1) b).set_ (k := 2) c).set_ (k := 3) d).set_ (k := 4) e
  rwa [set5 h.1] at h1
theorem Pm.off5 {w : World} {m m' : Nat} {l : List Int} {a b c d e : Value} (h : Pm w m l) (hne : m ≠ m') : Pm (((((w.setCell ⟨m', 0, none⟩ a).setCell ⟨m', 1, none⟩ b).setCell ⟨m', 2, none⟩ c).setCell ⟨m', 3, none⟩ d).setCell ⟨m', 4, none⟩ e) m l :=
  ((((h.other hne).other hne).other hne).other hne).other hne
theorem Cb.other {w : World} {m m' k : Nat} {v : Value} {vs : List Value} (h : Cb w m vs) (hne : m ≠ m') : Cb (w.setCell ⟨m', k, none⟩ v) m vs := h.keep (Below.heap_setCell w _ v m hne)
theorem Cb.off5 {w : World} {m m' : Nat} {vs : List Value} {a b c d e : Value} (h : Cb w m vs) (hne : m ≠ m') : Cb (((((w.setCell ⟨m', 0, none⟩ a).setCell ⟨m', 1, none⟩ b).setCell ⟨m', 2, none⟩ c).setCell ⟨m', 3, none⟩ d).setCell ⟨m', 4, none⟩ e) m vs :=
  ((((h.other hne).other hne).other hne).other hne).other hne
theorem below_off5 {w wr : World} {m B : Nat} {a b c d e : Value} (h : Below B w wr) (hm : B ≤ m) : Below B w (((((wr.setCell ⟨m, 0, none⟩ a).setCell ⟨m, 1, none⟩ b).setCell ⟨m, 2, none⟩ c).setCell ⟨m, 3, none⟩ d).setCell ⟨m, 4, none⟩ e) :=
  ((((h.setCell (p := ⟨m, 0, none⟩) hm _).setCell (p := ⟨m, 1, none⟩) hm _).setCell (p := ⟨m, 2, none⟩) hm _).setCell (p := ⟨m, 3, none⟩) hm _).setCell (p := ⟨m, 4, none⟩) hm _
/-- The payments in a block, as a list. -/
def pmL (p : Nat → Int) : List Int := [p 0, p 1, p 2, p 3, sm4 p]
def rdC (w : World) (m k : Nat) : Int := match w.cell? ⟨m, k, none⟩ with | some (.int _ x) => x | _ => 0
/-- How far it is to the end, as it stands in memory. -/
def mzW (w : World) (m : Nat) : Nat := (mz (rdC w m)).toNat
theorem mzW_pm {w : World} {m : Nat} {l : List Int} (h : Pm w m l) : mzW w m = (mz (T l)).toNat := by
  obtain ⟨h0, h1, h2, h3, _⟩ := h.all
  unfold mzW mz rdC
  rw [h0, h1, h2, h3]
theorem InO.bd {o p : Nat → Int} (ho : O30 o) (h : InO o p) : ∀ i, i < 4 → 0 ≤ p i ∧ p i ≤ 30 := fun i hi => by
  obtain ⟨a0, a1, a2, a3⟩ := h
  obtain ⟨b0, b1, b2, b3⟩ := ho
  rcases nat4 hi with rfl | rfl | rfl | rfl <;> omega
theorem mz_down {w w' : World} {m : Nat} {p q : Nat → Int} {o : Nat → Int} (ho : O30 o) (hp : InO o p) (hq : InO o q) (h : Pm w m (pmL p)) (h' : Pm w' m (pmL q)) (hl : mz q < mz p) : mzW w' m < mzW w m := by
  rw [mzW_pm h, mzW_pm h']
  have e : ∀ x : Nat → Int, mz (T (pmL x)) = mz x := fun x => rfl
  rw [e, e]
  have a := hp.bd ho
  have b := hq.bd ho
  have b0 := b 0 (by omega); have b1 := b 1 (by omega); have b2 := b 2 (by omega); have b3 := b 3 (by omega)
  have hz : 0 ≤ mz q := by unfold mz; omega
  omega
theorem sm4_bd {o p : Nat → Int} (ho : O30 o) (h : InO o p) : 0 ≤ sm4 p ∧ sm4 p ≤ 120 := by
  have a := h.bd ho
  have b0 := a 0 (by omega); have b1 := a 1 (by omega); have b2 := a 2 (by omega); have b3 := a 3 (by omega)
  unfold sm4; omega
theorem byF_congr {p q : Nat → Int} (S : Nat) (h : Eq4 p q) : byF p S 4 = byF q S 4 := by
  obtain ⟨h0, h1, h2, h3⟩ := h
  simp only [byF, h0, h1, h2, h3]
theorem hasP_congr {o p q : Nat → Int} {l : List Int} {P : Nat} (h : Eq4 q p) (hq : HasP o q l P) : HasP o p l P := by
  refine ⟨fun i hi => ?_, fun S hS => by rw [← byF_congr S h]; exact hq.2 S hS⟩
  have := hq.1 i hi
  obtain ⟨h0, h1, h2, h3⟩ := h
  rcases nat4 hi with rfl | rfl | rfl | rfl <;> omega

end Go.Proofs.Ytpildecpabeanaa

/-
  Chapter 9, the program: the least payments in the core, by trying all.
-/
namespace Go.Proofs.Ytpildecpabeanaa
open Go.RowKit

/-- What leastPayments hands back. -/
def LeastIs (o : Nat → Int) (l : List Int) (P : Nat) (w : World) (e : Ending) (w' : World) : Prop :=
  (∃ b : Nat → Int, e = .returned (pmV b (sm4 b)) ∧ InO o b ∧ HasP o b l P ∧ ∀ q, InO o q → HasP o q l P → MF b ≤ MF q) ∧ Below w.heap.size w w'

set_option maxRecDepth 100000 in
set_option maxHeartbeats 4000000 in
theorem leastPayments_any (o : Nat → Int) (A : Option Addr) (P c : Nat) (l : List Int) (w : World) (h : Rd w A c l) (hl : l.length = P) (h16 : P ≤ 16) (ho : O30 o) (hC : HasP o o l P) :
    Calls Try.prog 91 #[coV o (sm4 o) A P c] w (LeastIs o l P w) := by
  have hsz : ∀ (w : World) (o : Obj), (w.alloc o).heap.size = w.heap.size + 1 := fun w o => by simp
  obtain ⟨W, hW⟩ : ∃ W, W = (((w.alloc (.cells #[.int .i64 (o 0), .int .i64 (o 1), .int .i64 (o 2), .int .i64 (o 3), .int .i64 (sm4 o), .slice A P c] 73)).alloc (.cells #[.int .i64 0, .int .i64 0, .int .i64 0, .int .i64 0, .int .i64 0] 71)).alloc (.cells #[.int .i64 (o 0), .int .i64 (o 1), .int .i64 (o 2), .int .i64 (o 3), .int .i64 (sm4 o)] 71)).alloc (.cells #[.int .i64 0, .int .i64 0, .int .i64 0, .int .i64 0, .int .i64 0] 71) := ⟨_, rfl⟩
  obtain ⟨w1, hw1⟩ : ∃ w1, w1 = w.alloc (.cells #[.int .i64 (o 0), .int .i64 (o 1), .int .i64 (o 2), .int .i64 (o 3), .int .i64 (sm4 o), .slice A P c] 73) := ⟨_, rfl⟩
  have s1 : w1.heap.size = w.heap.size + 1 := by rw [hw1, hsz]
  obtain ⟨w2, hw2⟩ : ∃ w2, w2 = w1.alloc (.cells #[.int .i64 0, .int .i64 0, .int .i64 0, .int .i64 0, .int .i64 0] 71) := ⟨_, rfl⟩
  have s2 : w2.heap.size = w.heap.size + 1 + 1 := by rw [hw2, hsz, s1]
  obtain ⟨w3, hw3⟩ : ∃ w3, w3 = w2.alloc (.cells #[.int .i64 (o 0), .int .i64 (o 1), .int .i64 (o 2), .int .i64 (o 3), .int .i64 (sm4 o)] 71) := ⟨_, rfl⟩
  have s3 : w3.heap.size = w.heap.size + 1 + 1 + 1 := by rw [hw3, hsz, s2]
  have hW' : W = w3.alloc (.cells #[.int .i64 0, .int .i64 0, .int .i64 0, .int .i64 0, .int .i64 0] 71) := by rw [hw3, hw2, hw1, hW]
  have HB : Hid (Below w.heap.size w W) := Lib.hid (by
    rw [hW', hw3, hw2, hw1]
    exact ((((Below.refl _ w).alloc (Nat.le_refl _) _).alloc (by rw [hsz]; omega) _).alloc (by rw [hsz, hsz]; omega) _).alloc (by rw [hsz, hsz, hsz]; omega) _)
  have b1 : Below w1.heap.size w1 W := by
    rw [hW', hw3, hw2]
    exact (((Below.refl _ w1).alloc (Nat.le_refl _) _).alloc (by rw [hsz]; omega) _).alloc (by rw [hsz, hsz]; omega) _
  have HC0 : Hid (Cb W w.heap.size [.int .i64 (o 0), .int .i64 (o 1), .int .i64 (o 2), .int .i64 (o 3), .int .i64 (sm4 o), .slice A P c]) := Lib.hid (by
    have h1 : Cb w1 w.heap.size [.int .i64 (o 0), .int .i64 (o 1), .int .i64 (o 2), .int .i64 (o 3), .int .i64 (sm4 o), .slice A P c] := ⟨rfl, by rw [hw1]; exact heap_alloc_new w _⟩
    exact h1.below b1)
  have HZ0 : Hid (Pm W (w.heap.size + 1) (List.replicate 5 0)) := Lib.hid (by
    have h1 := Pm.alloc (Pm.alloc (Pm.new w1 (List.replicate 5 0) rfl) (.cells #[.int .i64 (o 0), .int .i64 (o 1), .int .i64 (o 2), .int .i64 (o 3), .int .i64 (sm4 o)] 71)) (.cells #[.int .i64 0, .int .i64 0, .int .i64 0, .int .i64 0, .int .i64 0] 71)
    rw [s1] at h1
    rw [hW', hw3, hw2]; exact h1)
  have HQ0 : Hid (Pm W (w.heap.size + 1 + 1) (pmL o)) := Lib.hid (by
    have h1 := Pm.alloc (Pm.new w2 (pmL o) rfl) (.cells #[.int .i64 0, .int .i64 0, .int .i64 0, .int .i64 0, .int .i64 0] 71)
    rw [s2] at h1
    rw [hW', hw3]; exact h1)
  have HP0 : Hid (Pm W (w.heap.size + 1 + 1 + 1) (pmL (fun _ => 0))) := Lib.hid (by
    have h1 := Pm.new w3 (List.replicate 5 0) rfl
    rw [s3] at h1
    rw [hW']; exact h1)
  have HO := Lib.hid ho
  have HR := Lib.hid (h.below HB.out)
  have HST : Hid (BestTo o (fun q => HasP o q l P) (fun _ => 0) o) := Lib.hid (BestTo.start ho ⟨rfl, rfl, rfl, rfl⟩ hC)
  have HI0 : Hid (InO o (fun _ => 0)) := Lib.hid ⟨⟨Int.le_refl _, ho.1.1⟩, ⟨Int.le_refl _, ho.2.1.1⟩, ⟨Int.le_refl _, ho.2.2.1.1⟩, ⟨Int.le_refl _, ho.2.2.2.1⟩⟩
  have HHAS := Lib.hid (fun (p : Nat → Int) (hp : InO o p) (w' : World) (hb : Below w.heap.size w w') => has_any o p (sm4 o) (sm4 p) A P c l w' (h.below hb) hl h16 (hp.bd ho))
  have HOS := Lib.hid (sm4_bd ho (InO.refl ho))
  have HOB := Lib.hid ((InO.refl ho).bd ho)
  have HW := Lib.hid hW
  clear hW hW' hw1 hw2 hw3 s1 s2 s3 b1 hsz ho hC h hl
  unfold coV
  go_enter Try.func91, Try.ntmps91
  go_wp2_with fail
  rw [← HW.out]
  clear HW
  go_loopw [16] (fun _ wr => ∃ (p b : Nat → Int), Hid (InO o p) ∧ Hid (BestTo o (fun q => HasP o q l P) p b) ∧ Hid (Pm wr (w.heap.size + 1 + 1 + 1) (pmL p)) ∧ Hid (Pm wr (w.heap.size + 1 + 1) (pmL b)) ∧ Hid (Pm wr (w.heap.size + 1) (List.replicate 5 0)) ∧ Hid (Cb wr w.heap.size [.int .i64 (o 0), .int .i64 (o 1), .int .i64 (o 2), .int .i64 (o 3), .int .i64 (sm4 o), .slice A P c]) ∧ Hid (Below w.heap.size w wr)) (fun _ wr => mzW wr (w.heap.size + 1 + 1 + 1))
  case atStart => exact ⟨_, _, HI0, HST, HP0, HQ0, HZ0, HC0, HB⟩
  case round =>
    obtain ⟨p, b, HI, HBT, HPr, HQr, HZr, HCr, HBr⟩ := hrel
    have hpb := HI.out.bd HO.out
    have hp0 := hpb 0 (by omega)
    have hp1 := hpb 1 (by omega)
    have hp2 := hpb 2 (by omega)
    have hp3 := hpb 3 (by omega)
    have hsp := sm4_bd HO.out HI.out
    have ho0 := HOB.out 0 (by omega)
    have ho1 := HOB.out 1 (by omega)
    have ho2 := HOB.out 2 (by omega)
    have ho3 := HOB.out 3 (by omega)
    have hso := HOS.out
    have heq := fun (w1 : World) => run_eq5 (x0 := p 0) (x1 := p 1) (x2 := p 2) (x3 := p 3) (x4 := sm4 p) (y0 := o 0) (y1 := o 1) (y2 := o 2) (y3 := o 3) (y4 := sm4 o) (by omega) (by omega) (by omega) (by omega) (by omega) (by omega) (by omega) (by omega) (by omega) (by omega) w1
    clear hpb hp0 hp1 hp2 hp3 hsp ho0 ho1 ho2 ho3 hso
    have q0 : wr.cell? ⟨w.heap.size + 1 + 1 + 1, 0, none⟩ = some (.int .i64 (p 0)) := HPr.out.all.1
    have q1 : wr.cell? ⟨w.heap.size + 1 + 1 + 1, 1, none⟩ = some (.int .i64 (p 1)) := HPr.out.all.2.1
    have q2 : wr.cell? ⟨w.heap.size + 1 + 1 + 1, 2, none⟩ = some (.int .i64 (p 2)) := HPr.out.all.2.2.1
    have q3 : wr.cell? ⟨w.heap.size + 1 + 1 + 1, 3, none⟩ = some (.int .i64 (p 3)) := HPr.out.all.2.2.2.1
    have q4 : wr.cell? ⟨w.heap.size + 1 + 1 + 1, 4, none⟩ = some (.int .i64 (sm4 p)) := HPr.out.all.2.2.2.2
    have k0 := HCr.out.cell (k := 0) rfl
    have k1 := HCr.out.cell (k := 1) rfl
    have k2 := HCr.out.cell (k := 2) rfl
    have k3 := HCr.out.cell (k := 3) rfl
    have k4 := HCr.out.cell (k := 4) rfl
    have k5 := HCr.out.cell (k := 5) rfl
    have b4 : wr.cell? ⟨w.heap.size + 1 + 1, 4, none⟩ = some (.int .i64 (sm4 b)) := HQr.out.all.2.2.2.2
    by_cases he : Eq4 p o
    · have hd : decide (p 0 = o 0 ∧ p 1 = o 1 ∧ p 2 = o 2 ∧ p 3 = o 3 ∧ sm4 p = sm4 o) = true := by
        obtain ⟨e0, e1, e2, e3⟩ := he
        rw [decide_eq_true_iff]
        exact ⟨e0, e1, e2, e3, by unfold sm4; omega⟩
      have HLS := Lib.hid (HBT.out.last he)
      have HBI := Lib.hid HBT.out.inO
      have HBC := Lib.hid HBT.out.core
      have b0 : wr.cell? ⟨w.heap.size + 1 + 1, 0, none⟩ = some (.int .i64 (b 0)) := HQr.out.all.1
      have b1 : wr.cell? ⟨w.heap.size + 1 + 1, 1, none⟩ = some (.int .i64 (b 1)) := HQr.out.all.2.1
      have b2 : wr.cell? ⟨w.heap.size + 1 + 1, 2, none⟩ = some (.int .i64 (b 2)) := HQr.out.all.2.2.1
      have b3 : wr.cell? ⟨w.heap.size + 1 + 1, 3, none⟩ = some (.int .i64 (b 3)) := HQr.out.all.2.2.2.1
      have hz := HZr.out
      have f0 := hz.free 0
      have f1 := hz.free 1
      have f2 := hz.free 2
      have f3 := hz.free 3
      have f4 := hz.free 4
      obtain ⟨r0, r1, r2, r3, r4⟩ := hz.all
      have a0 := hz.set_ (k := 0) (b 0)
      have s0 := hz.got (k := 0) (by omega) (b 0)
      have a1 := a0.set_ (k := 1) (b 1)
      have s1 := a0.got (k := 1) (by omega) (b 1)
      have a2 := a1.set_ (k := 2) (b 2)
      have s2 := a1.got (k := 2) (by omega) (b 2)
      have a3 := a2.set_ (k := 3) (b 3)
      have s3 := a2.got (k := 3) (by omega) (b 3)
      have s4 := a3.got (k := 4) (by omega) (sm4 b)
      have HBF := Lib.hid (below_off5 (m := w.heap.size + 1) (a := .int .i64 (b 0)) (b := .int .i64 (b 1)) (c := .int .i64 (b 2)) (d := .int .i64 (b 3)) (e := .int .i64 (sm4 b)) HBr.out (by omega))
      clear hz a0 a1 a2 a3 he
      go_wp2_with fail
      refine bodyPost_ret (by simp [results, Try.results91, go_sem, s0, s1, s2, s3, s4]; try rfl) rfl ?_
      exact ⟨⟨b, rfl, HBI.out, HBC.out, HLS.out⟩, HBF.out⟩
    · have hd : decide (p 0 = o 0 ∧ p 1 = o 1 ∧ p 2 = o 2 ∧ p 3 = o 3 ∧ sm4 p = sm4 o) = false := by
        rw [decide_eq_false_iff_not]
        rintro ⟨e0, e1, e2, e3, _⟩
        exact he ⟨e0, e1, e2, e3⟩
      have HNX := Lib.hid (fun (w' : World) => next_pay p o (sm4 p) (sm4 o) w' (HI.out.bd HO.out) (by simp [czS, cz, sm4]) (last_some he))
      unfold pmV at HNX
      clear he
      by_cases hsum : sm4 p < sm4 b
      · have hs' : decide (sm4 p < sm4 b) = true := by simpa using hsum
        have HSUM := Lib.hid hsum
        have HHS := Lib.hid (HHAS.out p HI.out wr HBr.out)
        unfold coV pmV at HHS
        clear hsum
        by_cases hh : HasP o p l P
        · rw [hasB_true hh] at HHS
          have HHP := Lib.hid hh
          clear hh
          go_wp2_with (first
            | (go_at_call 80; refine HHS.out.mono ?_; rintro e w5 ⟨rfl, b5⟩; have HP5 := Lib.hid (HPr.out.keep (b5.block _ HPr.out.lt)); have HQ5 := Lib.hid (HQr.out.keep (b5.block _ HQr.out.lt)); have HZ5 := Lib.hid (HZr.out.keep (b5.block _ HZr.out.lt)); have HC5 := Lib.hid (HCr.out.below b5); have HB5 := Lib.hid (HBr.out.trans (b5.mono HBr.out.size)); clear b5; have vq0 : w5.cell? ⟨w.heap.size + 1 + 1 + 1, 0, none⟩ = some (.int .i64 (p 0)) := HP5.out.all.1; have vq1 : w5.cell? ⟨w.heap.size + 1 + 1 + 1, 1, none⟩ = some (.int .i64 (p 1)) := HP5.out.all.2.1; have vq2 : w5.cell? ⟨w.heap.size + 1 + 1 + 1, 2, none⟩ = some (.int .i64 (p 2)) := HP5.out.all.2.2.1; have vq3 : w5.cell? ⟨w.heap.size + 1 + 1 + 1, 3, none⟩ = some (.int .i64 (p 3)) := HP5.out.all.2.2.2.1; have vq4 : w5.cell? ⟨w.heap.size + 1 + 1 + 1, 4, none⟩ = some (.int .i64 (sm4 p)) := HP5.out.all.2.2.2.2; have vk0 := HC5.out.cell (k := 0) rfl; have vk1 := HC5.out.cell (k := 1) rfl; have vk2 := HC5.out.cell (k := 2) rfl; have vk3 := HC5.out.cell (k := 3) rfl; have vk4 := HC5.out.cell (k := 4) rfl; obtain ⟨z0, z1, z2, z3, z4⟩ := HQ5.out.all; have y0 := HQ5.out.free 0; have y1 := HQ5.out.free 1; have y2 := HQ5.out.free 2; have y3 := HQ5.out.free 3; have y4 := HQ5.out.free 4; have HQn := Lib.hid (Pm.put5 HQ5.out (p 0) (p 1) (p 2) (p 3) (sm4 p)); have HPn : Hid (Pm (((((w5.setCell ⟨w.heap.size + 1 + 1, 0, none⟩ (.int .i64 (p 0))).setCell ⟨w.heap.size + 1 + 1, 1, none⟩ (.int .i64 (p 1))).setCell ⟨w.heap.size + 1 + 1, 2, none⟩ (.int .i64 (p 2))).setCell ⟨w.heap.size + 1 + 1, 3, none⟩ (.int .i64 (p 3))).setCell ⟨w.heap.size + 1 + 1, 4, none⟩ (.int .i64 (sm4 p))) (w.heap.size + 1 + 1 + 1) (pmL p)) := Lib.hid (Pm.off5 HP5.out (by omega)); have HZn : Hid (Pm (((((w5.setCell ⟨w.heap.size + 1 + 1, 0, none⟩ (.int .i64 (p 0))).setCell ⟨w.heap.size + 1 + 1, 1, none⟩ (.int .i64 (p 1))).setCell ⟨w.heap.size + 1 + 1, 2, none⟩ (.int .i64 (p 2))).setCell ⟨w.heap.size + 1 + 1, 3, none⟩ (.int .i64 (p 3))).setCell ⟨w.heap.size + 1 + 1, 4, none⟩ (.int .i64 (sm4 p))) (w.heap.size + 1) (List.replicate 5 0)) := Lib.hid (Pm.off5 HZ5.out (by omega)); have HCn : Hid (Cb (((((w5.setCell ⟨w.heap.size + 1 + 1, 0, none⟩ (.int .i64 (p 0))).setCell ⟨w.heap.size + 1 + 1, 1, none⟩ (.int .i64 (p 1))).setCell ⟨w.heap.size + 1 + 1, 2, none⟩ (.int .i64 (p 2))).setCell ⟨w.heap.size + 1 + 1, 3, none⟩ (.int .i64 (p 3))).setCell ⟨w.heap.size + 1 + 1, 4, none⟩ (.int .i64 (sm4 p))) w.heap.size [.int .i64 (o 0), .int .i64 (o 1), .int .i64 (o 2), .int .i64 (o 3), .int .i64 (sm4 o), .slice A P c]) := Lib.hid (Cb.off5 HC5.out (by omega)); have HBn : Hid (Below w.heap.size w (((((w5.setCell ⟨w.heap.size + 1 + 1, 0, none⟩ (.int .i64 (p 0))).setCell ⟨w.heap.size + 1 + 1, 1, none⟩ (.int .i64 (p 1))).setCell ⟨w.heap.size + 1 + 1, 2, none⟩ (.int .i64 (p 2))).setCell ⟨w.heap.size + 1 + 1, 3, none⟩ (.int .i64 (p 3))).setCell ⟨w.heap.size + 1 + 1, 4, none⟩ (.int .i64 (sm4 p)))) := Lib.hid (below_off5 HB5.out (by omega)); obtain ⟨n0, n1, n2, n3, n4⟩ := HPn.out.all; have m0 := HCn.out.cell (k := 0) rfl; have m1 := HCn.out.cell (k := 1) rfl; have m2 := HCn.out.cell (k := 2) rfl; have m3 := HCn.out.cell (k := 3) rfl; have m4 := HCn.out.cell (k := 4) rfl; simp only [show ∀ x : Nat → Int, T (pmL x) 0 = x 0 from fun _ => rfl, show ∀ x : Nat → Int, T (pmL x) 1 = x 1 from fun _ => rfl, show ∀ x : Nat → Int, T (pmL x) 2 = x 2 from fun _ => rfl, show ∀ x : Nat → Int, T (pmL x) 3 = x 3 from fun _ => rfl, show ∀ x : Nat → Int, T (pmL x) 4 = sm4 x from fun _ => rfl] at n0 n1 n2 n3 n4 z0 z1 z2 z3 z4)
            | (go_at_call 144; refine (HNX.out _).mono ?_; rintro e w6 ⟨⟨a, hla, rfl⟩, b6⟩; have HLA := Lib.hid hla; have HP6 := Lib.hid (HPn.out.keep (b6.block _ HPn.out.lt)); have HQ6 := Lib.hid (HQn.out.keep (b6.block _ HQn.out.lt)); have HZ6 := Lib.hid (HZn.out.keep (b6.block _ HZn.out.lt)); have HC6 := Lib.hid (HCn.out.below b6); have HB6 := Lib.hid (HBn.out.trans (b6.mono HBn.out.size)); clear b6 hla; obtain ⟨r0, r1, r2, r3, r4⟩ := HP6.out.all; have f0 := HP6.out.free 0; have f1 := HP6.out.free 1; have f2 := HP6.out.free 2; have f3 := HP6.out.free 3; have f4 := HP6.out.free 4))
          have HNS := Lib.hid (next_says HO.out HI.out HLA.out)
          have HBT' := Lib.hid (BestTo.take HO.out HI.out HBT.out HLA.out HSUM.out HHP.out)
          have HP7 := Lib.hid (Pm.put5 HP6.out (T (nxL p a) 0) (T (nxL p a) 1) (T (nxL p a) 2) (T (nxL p a) 3) (T (nxL p a) 4))
          have hpl : [T (nxL p a) 0, T (nxL p a) 1, T (nxL p a) 2, T (nxL p a) 3, T (nxL p a) 4] = pmL (T (nxL p a)) := by unfold pmL; rw [← HNS.out.2.1]
          rw [hpl] at HP7
          exact ⟨⟨T (nxL p a), p, Lib.hid HNS.out.1, HBT', HP7, Lib.hid (Pm.off5 HQ6.out (by omega)), Lib.hid (Pm.off5 HZ6.out (by omega)), Lib.hid (Cb.off5 HC6.out (by omega)), Lib.hid (below_off5 HB6.out (by omega))⟩, mz_down HO.out HI.out HNS.out.1 HPr.out HP7.out HNS.out.2.2.1⟩
        · have HNO := Lib.hid (fun (h : sm4 p < sm4 b ∧ HasP o p l P) => hh h.2)
          rw [hasB_false hh] at HHS
          clear hh
          go_wp2_with (first
            | (go_at_call 80; refine HHS.out.mono ?_; rintro e w5 ⟨rfl, b5⟩; have HP5 := Lib.hid (HPr.out.keep (b5.block _ HPr.out.lt)); have HQ5 := Lib.hid (HQr.out.keep (b5.block _ HQr.out.lt)); have HZ5 := Lib.hid (HZr.out.keep (b5.block _ HZr.out.lt)); have HC5 := Lib.hid (HCr.out.below b5); have HB5 := Lib.hid (HBr.out.trans (b5.mono HBr.out.size)); clear b5; have vq0 : w5.cell? ⟨w.heap.size + 1 + 1 + 1, 0, none⟩ = some (.int .i64 (p 0)) := HP5.out.all.1; have vq1 : w5.cell? ⟨w.heap.size + 1 + 1 + 1, 1, none⟩ = some (.int .i64 (p 1)) := HP5.out.all.2.1; have vq2 : w5.cell? ⟨w.heap.size + 1 + 1 + 1, 2, none⟩ = some (.int .i64 (p 2)) := HP5.out.all.2.2.1; have vq3 : w5.cell? ⟨w.heap.size + 1 + 1 + 1, 3, none⟩ = some (.int .i64 (p 3)) := HP5.out.all.2.2.2.1; have vq4 : w5.cell? ⟨w.heap.size + 1 + 1 + 1, 4, none⟩ = some (.int .i64 (sm4 p)) := HP5.out.all.2.2.2.2; have vk0 := HC5.out.cell (k := 0) rfl; have vk1 := HC5.out.cell (k := 1) rfl; have vk2 := HC5.out.cell (k := 2) rfl; have vk3 := HC5.out.cell (k := 3) rfl; have vk4 := HC5.out.cell (k := 4) rfl)
            | (go_at_call 144; refine (HNX.out _).mono ?_; rintro e w6 ⟨⟨a, hla, rfl⟩, b6⟩; have HLA := Lib.hid hla; have HP6 := Lib.hid (HP5.out.keep (b6.block _ HP5.out.lt)); have HQ6 := Lib.hid (HQ5.out.keep (b6.block _ HQ5.out.lt)); have HZ6 := Lib.hid (HZ5.out.keep (b6.block _ HZ5.out.lt)); have HC6 := Lib.hid (HC5.out.below b6); have HB6 := Lib.hid (HB5.out.trans (b6.mono HB5.out.size)); clear b6 hla; obtain ⟨r0, r1, r2, r3, r4⟩ := HP6.out.all; have f0 := HP6.out.free 0; have f1 := HP6.out.free 1; have f2 := HP6.out.free 2; have f3 := HP6.out.free 3; have f4 := HP6.out.free 4))
          have HNS := Lib.hid (next_says HO.out HI.out HLA.out)
          have HBT' := Lib.hid (BestTo.skip HO.out HI.out HBT.out HLA.out HNO.out (fun q hq hcq => hasP_congr hq hcq))
          have HP7 := Lib.hid (Pm.put5 HP6.out (T (nxL p a) 0) (T (nxL p a) 1) (T (nxL p a) 2) (T (nxL p a) 3) (T (nxL p a) 4))
          have hpl : [T (nxL p a) 0, T (nxL p a) 1, T (nxL p a) 2, T (nxL p a) 3, T (nxL p a) 4] = pmL (T (nxL p a)) := by unfold pmL; rw [← HNS.out.2.1]
          rw [hpl] at HP7
          exact ⟨⟨T (nxL p a), b, Lib.hid HNS.out.1, HBT', HP7, Lib.hid (Pm.off5 HQ6.out (by omega)), Lib.hid (Pm.off5 HZ6.out (by omega)), Lib.hid (Cb.off5 HC6.out (by omega)), Lib.hid (below_off5 HB6.out (by omega))⟩, mz_down HO.out HI.out HNS.out.1 HPr.out HP7.out HNS.out.2.2.1⟩
      · have hs' : decide (sm4 p < sm4 b) = false := by simpa using hsum
        have HNO := Lib.hid (fun (h : sm4 p < sm4 b ∧ HasP o p l P) => hsum h.1)
        clear hsum
        go_wp2_with (go_at_call 144; refine (HNX.out _).mono ?_; rintro e w6 ⟨⟨a, hla, rfl⟩, b6⟩; have HLA := Lib.hid hla; have HP6 := Lib.hid (HPr.out.keep (b6.block _ HPr.out.lt)); have HQ6 := Lib.hid (HQr.out.keep (b6.block _ HQr.out.lt)); have HZ6 := Lib.hid (HZr.out.keep (b6.block _ HZr.out.lt)); have HC6 := Lib.hid (HCr.out.below b6); have HB6 := Lib.hid (HBr.out.trans (b6.mono HBr.out.size)); clear b6 hla; obtain ⟨r0, r1, r2, r3, r4⟩ := HP6.out.all; have f0 := HP6.out.free 0; have f1 := HP6.out.free 1; have f2 := HP6.out.free 2; have f3 := HP6.out.free 3; have f4 := HP6.out.free 4)
        have HNS := Lib.hid (next_says HO.out HI.out HLA.out)
        have HBT' := Lib.hid (BestTo.skip HO.out HI.out HBT.out HLA.out HNO.out (fun q hq hcq => hasP_congr hq hcq))
        have HP7 := Lib.hid (Pm.put5 HP6.out (T (nxL p a) 0) (T (nxL p a) 1) (T (nxL p a) 2) (T (nxL p a) 3) (T (nxL p a) 4))
        have hpl : [T (nxL p a) 0, T (nxL p a) 1, T (nxL p a) 2, T (nxL p a) 3, T (nxL p a) 4] = pmL (T (nxL p a)) := by unfold pmL; rw [← HNS.out.2.1]
        rw [hpl] at HP7
        exact ⟨⟨T (nxL p a), b, Lib.hid HNS.out.1, HBT', HP7, Lib.hid (Pm.off5 HQ6.out (by omega)), Lib.hid (Pm.off5 HZ6.out (by omega)), Lib.hid (Cb.off5 HC6.out (by omega)), Lib.hid (below_off5 HB6.out (by omega))⟩, mz_down HO.out HI.out HNS.out.1 HPr.out HP7.out HNS.out.2.2.1⟩

end Go.Proofs.Ytpildecpabeanaa

/-
  Chapter 9, plain: what trying all finds is the least core.
-/
namespace Go.Proofs.Ytpildecpabeanaa
open Go.RowKit

theorem has_iffF {ts : List (List Int)} {p : Nat → Int} (h4 : ts.length ≤ 4) (hz : ∀ i, ts.length ≤ i → i < 4 → p i = 0) : HasP (at0 (owL ts)) p (leL ts) (2 ^ ts.length) ↔ InC ts p := by
  have hp := (pow_len h4).1
  have e1 : ∀ S, S < 2 ^ ts.length → byF (at0 (owL ts)) S 4 + byF p (2 ^ ts.length - 1 - S) 4 = hv (ow ts) p S ts.length := fun S hS => by
    rw [by_up h4 hS, by_up h4 (show 2 ^ ts.length - 1 - S < 2 ^ ts.length by omega), by_hv h4 hS _ (Nat.le_refl _)]
    exact hv_congr (fun i hi => at0_owL ts hi) (fun _ _ => rfl)
  constructor
  · rintro ⟨h1, h2⟩
    refine ⟨fun i hi => by rw [← at0_owL ts hi]; exact h1 i (by omega), fun S hS => ?_⟩
    have h3 := h2 (2 ^ ts.length - 1 - S) (by omega)
    rw [leL_at ts (by omega)] at h3
    unfold leG at h3
    rw [show 2 ^ ts.length - 1 - (2 ^ ts.length - 1 - S) = S by omega] at h3
    rw [← e1 S hS]; omega
  · rintro ⟨h1, h2⟩
    refine ⟨fun i hi => ?_, fun S hS => ?_⟩
    · rcases Nat.lt_or_ge i ts.length with h3 | h3
      · rw [at0_owL ts h3]; exact h1 i h3
      · rw [hz i h3 hi, at0_out (by rw [owL_len]; exact h3)]; exact Int.le_refl _
    · have h3 := h2 (2 ^ ts.length - 1 - S) (by omega)
      rw [← e1 _ (by omega), show 2 ^ ts.length - 1 - (2 ^ ts.length - 1 - S) = S by omega] at h3
      rw [leL_at ts hS]
      unfold leG
      omega
theorem at0_ow4 (ts : List (List Int)) (i : Nat) : at0 (owL ts) i = ow4 ts i := by
  unfold ow4
  split
  · exact at0_owL ts (by assumption)
  · exact at0_out (by rw [owL_len]; omega)
theorem inO_iff {ts : List (List Int)} {p : Nat → Int} : InO (at0 (owL ts)) p ↔ In4 ts p := by
  constructor
  · rintro ⟨a0, a1, a2, a3⟩ i hi
    rw [at0_ow4] at a0 a1 a2 a3
    rcases nat4 hi with rfl | rfl | rfl | rfl <;> assumption
  · intro h
    refine ⟨?_, ?_, ?_, ?_⟩ <;> rw [at0_ow4]
    · exact h 0 (by omega)
    · exact h 1 (by omega)
    · exact h 2 (by omega)
    · exact h 3 (by omega)
theorem in4_zero {ts : List (List Int)} {p : Nat → Int} (h : In4 ts p) : ∀ i, ts.length ≤ i → i < 4 → p i = 0 := fun i hi h4 => by
  have := h i h4
  unfold ow4 at this
  rw [if_neg (by omega)] at this
  omega
theorem owO30 {ts : List (List Int)} (hv : ∀ t ∈ ts, VT t) : O30 (at0 (owL ts)) := by
  refine ⟨?_, ?_, ?_, ?_⟩ <;> rw [at0_ow4] <;> exact ow4_bd hv _
theorem own_core {ts : List (List Int)} (hv : ∀ t ∈ ts, VT t) (h4 : ts.length ≤ 4) : HasP (at0 (owL ts)) (at0 (owL ts)) (leL ts) (2 ^ ts.length) :=
  (has_iffF h4 (fun i hi _ => at0_out (by rw [owL_len]; exact hi))).2 ((inC_own hv h4).congr (fun i hi => (at0_owL ts hi).symm))
/-- What trying all finds. -/
theorem least_lc {ts : List (List Int)} (h4 : ts.length ≤ 4) {b : Nat → Int} (h1 : InO (at0 (owL ts)) b) (h2 : HasP (at0 (owL ts)) b (leL ts) (2 ^ ts.length))
    (h3 : ∀ q, InO (at0 (owL ts)) q → HasP (at0 (owL ts)) q (leL ts) (2 ^ ts.length) → MF b ≤ MF q) : IsLC ts b := by
  have i1 := inO_iff.1 h1
  refine ⟨i1, (has_iffF h4 (in4_zero i1)).1 h2, fun q hq hc => h3 q (inO_iff.2 hq) ((has_iffF h4 (in4_zero hq)).2 hc)⟩
theorem owL_sum {ts : List (List Int)} (h4 : ts.length ≤ 4) : (owL ts).sum = sm4 (at0 (owL ts)) := by
  have h : (owL ts).length ≤ 4 := by rw [owL_len]; exact h4
  generalize owL ts = l at *
  match l, h with
  | [], _ => rfl
  | [a], _ => simp [sm4, at0]
  | [a, b], _ => simp [sm4, at0]
  | [a, b, c], _ => simp [sm4, at0]; omega
  | [a, b, c, d], _ => simp [sm4, at0]; omega
  | _ :: _ :: _ :: _ :: _ :: _, h => simp at h

end Go.Proofs.Ytpildecpabeanaa
