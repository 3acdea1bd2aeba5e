/-
  Chapter 9, the program: payments of some bidders as a struct.
-/
import Derived.Test.YtpildecpabeanaaG12
import Derived.Test.YtpildecpabeanaaG01
import Derived.Test.YtpildecpabeanaaG06
import Derived.Laws.CopyOwn
import Derived.Test.YtpildecpabeanaaG05
import Derived.Test.YtpildecpabeanaaG00
import Derived.RangeFuncNested
import Derived.RangeFuncBound
import Derived.RangeFuncCalls
import Derived.RangeFuncLeaves
import Derived.RangeFuncFrom
import Derived.Shelf.Abstract
import Derived.Shelf.RegionOpen
import Derived.OwnWalkIn
import Derived.TacticsInMore
import Derived.LoopNIn
import Derived.LoopIn
namespace Go.Proofs.Ytpildecpabeanaa
open Go.RowKit

/-- Block m is payments. -/
def Pm (w : World) (m : Nat) (l : List Int) : Prop := l.length = 5 ∧ w.heap[m]? = some (.cells (l.map (Value.int .i64)).toArray 71)
theorem Pm.cell {w : World} {m : Nat} {l : List Int} (h : Pm w m l) {k : Nat} (hk : k < 5) : w.cell? ⟨m, k, none⟩ = some (.int .i64 (T l k)) := by
  have hk' : k < l.length := by rw [h.1]; exact hk
  unfold World.cell?
  rw [h.2]
  simp [T, hk']
theorem Pm.free {w : World} {m : Nat} {l : List Int} (h : Pm w m l) (k : Nat) : w.frozen? ⟨m, k, none⟩ = false := by
  unfold World.frozen?
  rw [h.2]
  simp
theorem Pm.new (w : World) (l : List Int) (hl : l.length = 5) : Pm (w.alloc (.cells (l.map (Value.int .i64)).toArray 71)) w.heap.size l := ⟨hl, by show (w.heap.push _)[_]? = _; simp⟩
theorem Pm.keep {w w' : World} {m : Nat} {l : List Int} (h : Pm w m l) (he : w'.heap[m]? = w.heap[m]?) : Pm w' m l := ⟨h.1, he.trans h.2⟩
theorem Pm.lt {w : World} {m : Nat} {l : List Int} (h : Pm w m l) : m < w.heap.size := by
  rcases Nat.lt_or_ge m w.heap.size with h1 | h1
  · exact h1
  · have := h.2; rw [Array.getElem?_eq_none h1] at this; cases this
theorem Pm.alloc {w : World} {m : Nat} {l : List Int} (h : Pm w m l) (o : Obj) : Pm (w.alloc o) m l := h.keep (Below.heap_alloc w o m h.lt)
theorem Pm.other {w : World} {m m' k : Nat} {v : Value} {l : List Int} (h : Pm w m l) (hne : m ≠ m') : Pm (w.setCell ⟨m', k, none⟩ v) m l := h.keep (Below.heap_setCell w _ v m hne)
theorem Pm.set_ {w : World} {m k : Nat} {l : List Int} (h : Pm w m l) (x : Int) : Pm (w.setCell ⟨m, k, none⟩ (.int .i64 x)) m (l.set k x) := by
  refine ⟨by rw [List.length_set]; exact h.1, ?_⟩
  simp only [World.setCell, Array.getElem?_modify, if_true, h.2]
  simp [List.map_set]

theorem Pm.got {w : World} {m k : Nat} {l : List Int} (h : Pm w m l) (hk : k < 5) (x : Int) : (w.setCell ⟨m, k, none⟩ (.int .i64 x)).cell? ⟨m, k, none⟩ = some (.int .i64 x) := by
  rw [(h.set_ x).cell hk, T_set (by rw [h.1]; exact hk), if_pos rfl]
theorem Pm.all {w : World} {m : Nat} {l : List Int} (h : Pm w m l) : w.cell? ⟨m, 0, none⟩ = some (.int .i64 (T l 0)) ∧ w.cell? ⟨m, 1, none⟩ = some (.int .i64 (T l 1)) ∧ w.cell? ⟨m, 2, none⟩ = some (.int .i64 (T l 2)) ∧ w.cell? ⟨m, 3, none⟩ = some (.int .i64 (T l 3)) ∧ w.cell? ⟨m, 4, none⟩ = some (.int .i64 (T l 4)) :=
  ⟨h.cell (by omega), h.cell (by omega), h.cell (by omega), h.cell (by omega), h.cell (by omega)⟩

/-- Number i of a list, 0 behind it. -/
def at0 (xs : List Int) (i : Nat) : Int := xs.getD i 0
theorem below_al4p {w wr : World} {k : Nat} {v : Value} (h : Below w.heap.size w wr) : Below w.heap.size w (wr.setCell ⟨w.heap.size, k, none⟩ v) := h.setCell (Nat.le_refl _) _
theorem splice_four {xs : List Int} (h : xs.length ≤ 4) : (splice [Value.int .i64 0, .int .i64 0, .int .i64 0, .int .i64 0, .int .i64 0] 0 (xs.map (Value.int .i64))) = [at0 xs 0, at0 xs 1, at0 xs 2, at0 xs 3, 0].map (Value.int .i64) := by
  match xs, h with
  | [], _ => rfl
  | [a], _ => rfl
  | [a, b], _ => rfl
  | [a, b, c], _ => rfl
  | [a, b, c, d], _ => rfl
  | _ :: _ :: _ :: _ :: _ :: _, h => simp at h
theorem int_size : (Try.prog.info? 3).map (·.size) = some 1 := by kernel_rfl
theorem addr_add (b o j : Nat) : (⟨b, o, none⟩ : Addr).add j = ⟨b, o + j, none⟩ := by unfold Addr.add; split <;> simp_all
theorem Rd.cells {w : World} {A : Option Addr} {c : Nat} {xs : List Int} (h : Rd w A c xs) (h0 : 0 < (xs.map (Value.int .i64)).length) : ∃ ad, A = some ad ∧ ∀ j v, (xs.map (Value.int .i64))[j]? = some v → w.cell? (ad.add j) = some v := by
  obtain ⟨b, off, x0, hA, _⟩ := h.at_ (k := 0) (by simpa using h0)
  refine ⟨⟨b, off, none⟩, hA, fun j v hj => ?_⟩
  rw [List.getElem?_map] at hj
  have hl : j < xs.length := by
    rcases Nat.lt_or_ge j xs.length with h1 | h1
    · exact h1
    · rw [List.getElem?_eq_none h1] at hj; cases hj
  obtain ⟨b', off', x, hA', _, hx, hc⟩ := h.at_ hl
  rw [hA] at hA'
  cases hA'
  rw [addr_add, hc]
  rw [hx.out] at hj
  simpa using hj

open Go in
theorem copy_run {A : Option Addr} {c n g : Nat} {xs : List Int} {w0 : World} (hn : xs.length = n) (h : Rd w0 A c xs) (h4 : n ≤ 4) (hp : Pm w0 g (List.replicate 5 0)) :
    ∃ w5, (Builtin.copy_ #[23, 23] 3 #[.slice (some ⟨g, 0, none⟩) 4 4, .slice A n c]).run Try.prog w0 = .ok (goInt n) w5 ∧ Pm w5 g [at0 xs 0, at0 xs 1, at0 xs 2, at0 xs 3, 0] ∧ (∀ B w, B ≤ g → Below B w w0 → Below B w w5) ∧ ∀ m, m ≠ g → w5.heap[m]? = w0.heap[m]? := by
  subst hn
  have hsp := splice_four h4
  by_cases h0 : 0 < xs.length
  · obtain ⟨ad, rfl, hc⟩ := h.cells (by simpa using h0)
    have hrun := run_copy_row (P := Try.prog) w0 23 23 3 3 g 0 4 4 ad xs.length c [Value.int .i64 0, .int .i64 0, .int .i64 0, .int .i64 0, .int .i64 0].toArray 71 (xs.map (Value.int .i64)) Try.underlying23 int_size hp.2 (by rw [List.length_map]; exact (Nat.min_eq_left h4).symm) hc (by simp; omega) (fun v hv => by obtain ⟨x, _, rfl⟩ := List.mem_map.1 hv; rfl)
    refine ⟨_, hrun.trans (by rw [List.length_map]), ⟨rfl, ?_⟩, fun B w hB hb => below_setRow hb hB _, fun m hm => setRow_other w0 g m _ hm⟩
    have e := setRow_heap w0 g _ ([Value.int .i64 0, .int .i64 0, .int .i64 0, .int .i64 0, .int .i64 0].toArray.toList.take 0 ++ xs.map (Value.int .i64) ++ [Value.int .i64 0, .int .i64 0, .int .i64 0, .int .i64 0, .int .i64 0].toArray.toList.drop (0 + xs.length)).toArray 71 _ hp.2
    rw [e, ← hsp]
    simp [splice]
  · obtain rfl : xs = [] := List.eq_nil_of_length_eq_zero (by omega)
    have hrun := run_copy_none (P := Try.prog) w0 23 23 3 3 (some ⟨g, 0, none⟩) A 4 4 0 c Try.underlying23 int_size (by decide)
    exact ⟨w0, hrun, hp, fun B w _ hb => hb, fun m _ => rfl⟩

set_option maxRecDepth 100000 in
set_option maxHeartbeats 1000000 in
theorem paymentsOf_any (A : Option Addr) (c n : Nat) (xs : List Int) (w : World) (hn : xs.length = n) (h : Rd w A c xs) (h4 : n ≤ 4) (hb : ∀ x ∈ xs, 0 ≤ x ∧ x ≤ 30) :
    Calls Try.prog 81 #[.slice A n c] w fun e w' => e = .returned (pmV (at0 xs) xs.sum) ∧ Below w.heap.size w w' := by
  obtain ⟨w0, hw0⟩ : ∃ w0, w0 = (w.alloc (.cells #[.int .i64 0, .int .i64 0, .int .i64 0, .int .i64 0, .int .i64 0] 71)).alloc (.cells #[.int .i64 0, .int .i64 0, .int .i64 0, .int .i64 0, .int .i64 0] 71) := ⟨_, rfl⟩
  have hP0 : Pm w0 w.heap.size (List.replicate 5 0) := by rw [hw0]; exact Pm.alloc (Pm.new w (List.replicate 5 0) rfl) _
  have hP1 : Pm w0 (w.heap.size + 1) (List.replicate 5 0) := by
    have h1 := Pm.new (w.alloc (.cells #[.int .i64 0, .int .i64 0, .int .i64 0, .int .i64 0, .int .i64 0] 71)) (List.replicate 5 0) rfl
    simp only [show ∀ (w : World) (o : Obj), (w.alloc o).heap.size = w.heap.size + 1 from fun w o => by simp] at h1
    rw [hw0]; exact h1
  have hB0 : Below w.heap.size w w0 := by rw [hw0]; exact ((Below.refl _ w).alloc (Nat.le_refl _) _).alloc (by simp) _
  obtain ⟨w5, hcp, hp5, hb5, hk5⟩ := copy_run hn (h.below hB0) h4 hP1
  have hq5 := hP0.keep (hk5 w.heap.size (by omega))
  have HB5 := Lib.hid (hb5 _ _ (by omega) hB0)
  rw [hw0] at hcp
  have HSM := Lib.hid (sumU_any A c n xs.sum xs w5 hn rfl (h.below HB5.out) (by omega) (fun x hx => ⟨(hb x hx).1, by have := (hb x hx).2; omega⟩))
  obtain ⟨S, hS⟩ : ∃ S, S = xs.sum := ⟨_, rfl⟩
  rw [← hS] at HSM ⊢
  unfold pmV
  generalize at0 xs 0 = x0 at *
  generalize at0 xs 1 = x1 at *
  generalize at0 xs 2 = x2 at *
  generalize at0 xs 3 = x3 at *
  have f5 := hp5.free 4
  have c5 : w5.cell? ⟨w.heap.size + 1, 4, none⟩ = some (.int .i64 0) := hp5.cell (by omega)
  have hp6 := hp5.set_ (k := 4) S
  have hq6 := hq5.other (m' := w.heap.size + 1) (k := 4) (v := .int .i64 S) (by omega)
  obtain ⟨d0, d1, d2, d3, d4⟩ := hp6.all
  simp only [show T ([x0, x1, x2, x3, 0].set 4 S) 0 = x0 from rfl, show T ([x0, x1, x2, x3, 0].set 4 S) 1 = x1 from rfl, show T ([x0, x1, x2, x3, 0].set 4 S) 2 = x2 from rfl, show T ([x0, x1, x2, x3, 0].set 4 S) 3 = x3 from rfl, show T ([x0, x1, x2, x3, 0].set 4 S) 4 = S from rfl] at d0 d1 d2 d3 d4
  have HB6 : Hid (Below w.heap.size w (w5.setCell ⟨w.heap.size + 1, 4, none⟩ (.int .i64 S))) := Lib.hid (HB5.out.setCell (by show w.heap.size ≤ w.heap.size + 1; omega) _)
  obtain ⟨W, hW⟩ : ∃ W, W = w5.setCell ⟨w.heap.size + 1, 4, none⟩ (.int .i64 S) := ⟨_, rfl⟩
  have f0 := hq6.free 0
  have f1 := hq6.free 1
  have f2 := hq6.free 2
  have f3 := hq6.free 3
  have f4 := hq6.free 4
  obtain ⟨r0, r1, r2, r3, r4⟩ := hq6.all
  have a0 := hq6.set_ (k := 0) x0
  have s0 := hq6.got (k := 0) (by omega) x0
  have a1 := a0.set_ (k := 1) x1
  have s1 := a0.got (k := 1) (by omega) x1
  have a2 := a1.set_ (k := 2) x2
  have s2 := a1.got (k := 2) (by omega) x2
  have a3 := a2.set_ (k := 3) x3
  have s3 := a2.got (k := 3) (by omega) x3
  have s4 := a3.got (k := 4) (by omega) S
  have HB : Hid (Below w.heap.size w (((((w5.setCell ⟨w.heap.size + 1, 4, none⟩ (.int .i64 S)).setCell ⟨w.heap.size, 0, none⟩ (.int .i64 x0)).setCell ⟨w.heap.size, 1, none⟩ (.int .i64 x1)).setCell ⟨w.heap.size, 2, none⟩ (.int .i64 x2)).setCell ⟨w.heap.size, 3, none⟩ (.int .i64 x3) |>.setCell ⟨w.heap.size, 4, none⟩ (.int .i64 S))) := Lib.hid (below_al4p (below_al4p (below_al4p (below_al4p (below_al4p HB6.out)))))
  clear hp6 hq6 hp5 hq5 hS hb hn h hw0 hP0 hP1 hB0 hb5 hk5 a0 a1 a2 a3 hW
  go_enter Try.func81, Try.ntmps81
  go_wp2_with (go_at_call 135; refine HSM.out.mono ?_; rintro e w6 ⟨rfl, rfl⟩)
  refine bodyPost_ret (by simp [results, Try.results81, go_sem, s0, s1, s2, s3, s4]; try rfl) rfl ?_
  exact ⟨rfl, HB.out⟩

end Go.Proofs.Ytpildecpabeanaa

/-
  Chapter 9, the program: whether payments are in the core.
-/
namespace Go.Proofs.Ytpildecpabeanaa
open Go.RowKit

/-- The core as a value. -/
def coV (m : Nat → Int) (s : Int) (A : Option Addr) (P c : Nat) : Value := .agg #[.int .i64 (m 0), .int .i64 (m 1), .int .i64 (m 2), .int .i64 (m 3), .int .i64 s, .slice A P c]
theorem idx4 (f : Nat → Int) {k : Nat} (hk : k < 4) (w : World) :
    (Instr.index 69 (.agg #[.int .i64 (f 0), .int .i64 (f 1), .int .i64 (f 2), .int .i64 (f 3)]) (.int .i64 (k : Int))).run Try.prog w = .ok (.int .i64 (f k)) w := by
  rcases nat4 hk with rfl | rfl | rfl | rfl <;> kernel_rfl
/-- What has asks. -/
def HasP (m p : Nat → Int) (l : List Int) (P : Nat) : Prop := (∀ i, i < 4 → p i ≤ m i) ∧ ∀ S, S < P → T l S ≤ byF p S 4
noncomputable def hasB (m p : Nat → Int) (l : List Int) (P : Nat) : Bool := @decide (HasP m p l P) (Classical.propDecidable _)
theorem hasB_true {m p : Nat → Int} {l : List Int} {P : Nat} (h : HasP m p l P) : hasB m p l P = true := by unfold hasB; simp [h]
theorem hasB_false {m p : Nat → Int} {l : List Int} {P : Nat} (h : ¬ HasP m p l P) : hasB m p l P = false := by unfold hasB; simp [h]

set_option maxRecDepth 100000 in
set_option maxHeartbeats 1000000 in
theorem has_any (m p : Nat → Int) (s t : Int) (A : Option Addr) (P c : Nat) (l : List Int) (w : World) (h : Rd w A c l) (hl : l.length = P) (h16 : P ≤ 16) (hp : ∀ i, i < 4 → 0 ≤ p i ∧ p i ≤ 30) :
    Calls Try.prog 80 #[coV m s A P c, pmV p t] w fun e w' => e = .returned (.bool (hasB m p l P)) ∧ Below w.heap.size w w' := by
  have HI := Lib.hid (fun (k : Nat) (hk : k < 4) (w1 : World) => idx4 p hk w1)
  have HBY := Lib.hid (fun (S : Nat) (hS : S < P) (w1 : World) => by_any p t S w1 (by omega) hp)
  unfold pmV at HBY
  have HT := Lib.hid (fun h => hasB_true (m := m) (p := p) (l := l) (P := P) h)
  have HF := Lib.hid (fun h => hasB_false (m := m) (p := p) (l := l) (P := P) h)
  obtain ⟨W, hW⟩ : ∃ W, W = (w.alloc (.cells #[.int .i64 (m 0), .int .i64 (m 1), .int .i64 (m 2), .int .i64 (m 3), .int .i64 s, .slice A P c] 73)).alloc (.cells #[.int .i64 (p 0), .int .i64 (p 1), .int .i64 (p 2), .int .i64 (p 3), .int .i64 t] 71) := ⟨_, rfl⟩
  have HB : Hid (Below w.heap.size w W) := Lib.hid (by rw [hW]; exact ((Below.refl _ w).alloc (Nat.le_refl _) _).alloc (by simp) _)
  have hne : w.heap.size ≠ w.heap.size + 1 := by omega
  have hM : ∀ k v, #[Value.int .i64 (m 0), .int .i64 (m 1), .int .i64 (m 2), .int .i64 (m 3), .int .i64 s, .slice A P c][k]? = some v → W.cell? ⟨w.heap.size, k, none⟩ = some v := fun k v hv => by
    have e : W.heap[w.heap.size]? = some (.cells #[.int .i64 (m 0), .int .i64 (m 1), .int .i64 (m 2), .int .i64 (m 3), .int .i64 s, .slice A P c] 73) := by
      rw [hW, Below.heap_alloc _ _ _ (by simp)]
      show (w.heap.push _)[_]? = _
      simp
    unfold World.cell?
    rw [e]
    simpa using hv
  have hQ : Pm W (w.heap.size + 1) [p 0, p 1, p 2, p 3, t] := by
    have h1 := Pm.new (w.alloc (.cells #[.int .i64 (m 0), .int .i64 (m 1), .int .i64 (m 2), .int .i64 (m 3), .int .i64 s, .slice A P c] 73)) [p 0, p 1, p 2, p 3, t] rfl
    simp only [show ∀ (w : World) (o : Obj), (w.alloc o).heap.size = w.heap.size + 1 from fun w o => by simp] at h1
    rw [hW]; exact h1
  have HMK : Hid (∀ k, k < 4 → W.cell? ⟨w.heap.size, k, none⟩ = some (.int .i64 (m k))) := Lib.hid (fun k hk => hM k _ (by rcases nat4 hk with rfl | rfl | rfl | rfl <;> rfl))
  have HM5 : Hid (W.cell? ⟨w.heap.size, 5, none⟩ = some (.slice A P c)) := Lib.hid (hM 5 _ rfl)
  have HQ0 : Hid (W.cell? ⟨w.heap.size + 1, 0, none⟩ = some (.int .i64 (p 0)) ∧ W.cell? ⟨w.heap.size + 1, 1, none⟩ = some (.int .i64 (p 1)) ∧ W.cell? ⟨w.heap.size + 1, 2, none⟩ = some (.int .i64 (p 2)) ∧ W.cell? ⟨w.heap.size + 1, 3, none⟩ = some (.int .i64 (p 3)) ∧ W.cell? ⟨w.heap.size + 1, 4, none⟩ = some (.int .i64 t)) :=
    Lib.hid hQ.all
  have HSZ : Hid (w.heap.size + 1 < W.heap.size) := Lib.hid (by rw [hW]; simp)
  have HR := Lib.hid (h.below HB.out)
  have HW := Lib.hid hW
  clear hW hM hQ h hp
  unfold pmV coV
  go_enter Try.func80, Try.ntmps80
  go_wp2_with fail
  rw [← HW.out]
  clear HW
  go_loopw [11] (fun iv wr => ∃ (k q : Nat), k ≤ 4 ∧ iv = .int .i64 (k : Int) ∧ wr = W.drewN q ∧ Hid (∀ i, i < k → p i ≤ m i)) (fun iv _ => 4 - (intOf iv).toNat)
  case atStart => exact ⟨0, 0, by omega, rfl, rfl, Lib.hid (fun i hi => absurd hi (by omega))⟩
  case round =>
    obtain ⟨k, q, hk, rfl, rfl, HK⟩ := hrel
    by_cases hlt : k < 4
    · have hi := HI.out k hlt
      have hc := HMK.out k hlt
      have hk4 : (k : Int) < 4 := by omega
      have hk0 : (0 : Int) ≤ (k : Int) := by omega
      by_cases hgt : m k < p k
      · have HE := Lib.hid (HF.out (fun hh => by have := hh.1 k hlt; omega))
        have hgt' : decide (m k < p k) = true := by simpa using hgt
        clear hgt
        go_wp2
        go_ret
        exact ⟨by rw [HE.out]; rfl, below_drewN' HB.out _⟩
      · have HK1 : Hid (∀ i, i < k + 1 → p i ≤ m i) := Lib.hid (fun i hi => by
          rcases Nat.lt_or_ge i k with h1 | h1
          · exact HK.out i h1
          · rw [show i = k by omega]; omega)
        have hgt' : decide (m k < p k) = false := by simpa using hgt
        clear hgt
        go_wp2
        go_roundw
        case rel => exact ⟨k + 1, _, hlt, by go_num, rfl, HK1⟩
        case measure => simp [intOf]; omega
    · obtain rfl : k = 4 := by omega
      have hc5 := HM5.out
      rw [show ((4 : Nat) : Int) = (4 : Int) from rfl]
      go_wp2
      go_loopw [26] (fun iv wr => ∃ (k : Nat), k ≤ P ∧ iv = .int .i64 (k : Int) ∧ Hid (Below W.heap.size W wr) ∧ Hid (∀ S, S < k → T l S ≤ byF p S 4)) (fun iv _ => P - (intOf iv).toNat)
      case atStart => exact ⟨0, by omega, rfl, Lib.hid (below_drewN' (Below.refl _ _) _), Lib.hid (fun i hi => absurd hi (by omega))⟩
      case round =>
        obtain ⟨k, hk, rfl, HB2, HS⟩ := hrel
        by_cases hlt2 : k < P
        · obtain ⟨b, off, x, rfl, _, hx, hcx⟩ := (HR.out.below HB2.out).at_ (k := k) (by omega)
          have hTx := T_of hx.out
          have HKEEP := Lib.hid (fun (a : Addr) (v : Value) (hv : W.cell? a = some v) => (HB2.out.cell (p := a) (World.block_lt_of_cell? W _ hv)).trans hv)
          have k5 := HKEEP.out _ _ hc5
          have k0 := HKEEP.out _ _ HQ0.out.1
          have k1 := HKEEP.out _ _ HQ0.out.2.1
          have k2 := HKEEP.out _ _ HQ0.out.2.2.1
          have k3 := HKEEP.out _ _ HQ0.out.2.2.2.1
          have k4 := HKEEP.out _ _ HQ0.out.2.2.2.2
          have hk0 : (0 : Int) ≤ (k : Int) := by omega
          have hkP : (k : Int) < (P : Int) := by omega
          have HB1 := Lib.hid (HBY.out k hlt2)
          obtain ⟨y, hy⟩ : ∃ y, y = byF p k 4 := ⟨_, rfl⟩
          rw [← hy] at HB1
          by_cases hgt : y < x
          · have HE := Lib.hid (HF.out (fun hh => by have := hh.2 k hlt2; rw [hTx, ← hy] at this; omega))
            have hgt' : decide (y < x) = true := by simpa using hgt
            clear hgt hy hTx hx
            go_wp2_with (go_at_call 134; refine (HB1.out _).mono ?_; rintro e w5 ⟨rfl, b5⟩)
            go_ret
            exact ⟨by rw [HE.out]; rfl, HB.out.trans ((HB2.out.trans (b5.mono HB2.out.size)).mono HB.out.size)⟩
          · have HS1 : Hid (∀ S, S < k + 1 → T l S ≤ byF p S 4) := Lib.hid (fun i hi => by
              rcases Nat.lt_or_ge i k with h1 | h1
              · exact HS.out i h1
              · rw [show i = k by omega, hTx, ← hy]; omega)
            have hgt' : decide (y < x) = false := by simpa using hgt
            clear hgt hy hTx hx
            go_wp2_with (go_at_call 134; refine (HB1.out _).mono ?_; rintro e w5 ⟨rfl, b5⟩)
            have HB5 := Lib.hid (HB2.out.trans (b5.mono HB2.out.size))
            clear b5
            go_roundw
            case rel => exact ⟨k + 1, hlt2, by go_num, HB5, HS1⟩
            case measure => simp [intOf]; omega
        · obtain rfl : k = P := by omega
          have HE := Lib.hid (HT.out ⟨HK.out, HS.out⟩)
          go_wp2
          go_ret
          exact ⟨by rw [HE.out]; rfl, HB.out.trans (HB2.out.mono HB.out.size)⟩

end Go.Proofs.Ytpildecpabeanaa

/-
  Chapter 9, the program: WorthWith, what all things are worth to each set of bidders, and IsNested.
-/
namespace Go.Proofs.Ytpildecpabeanaa
open Go.RowKit

set_option maxRecDepth 100000 in
set_option maxHeartbeats 1000000 in
theorem worthsToSets_any (A : Option Addr) (c n : Nat) (ts : List (List Int)) (w : World) (hn : ts.length = n) (h : RdR w A c ts) (h4 : n ≤ 4) (hv : ∀ t ∈ ts, VT t) :
    Calls Try.prog 94 #[.slice A n c] w (ValsIs w (fun S => ww ts S) (2 ^ n)) := by
  have hsh := sh_bit (k := n) (by omega)
  have hp16 := pow_len (n := n) (by omega)
  have HW := Lib.hid (fun (k : Nat) (w1 : World) (hk : k < 16) (hb : Below w.heap.size w w1) => worthToSome_any A c n k ts w1 hn (h.below hb) h4 hk hv)
  obtain ⟨P, hP⟩ : ∃ P, P = 2 ^ n := ⟨_, rfl⟩
  rw [← hP] at hsh hp16 ⊢
  have hp1 := hp16.1
  have hp2 := hp16.2
  clear hn h hv hP hp16
  obtain ⟨f, hf⟩ : ∃ f : Nat → Int, f = (fun S => ww ts S) := ⟨_, rfl⟩
  rw [← hf]
  have HF : Hid (∀ S, ww ts S = f S) := Lib.hid (fun S => by rw [hf])
  clear hf
  have hP0 : (0 : Int) ≤ (P : Int) := by omega
  go_enter Try.func94, Try.ntmps94
  go_wp2_with (at_make; refine wpList_make_ints rfl _ _ rfl w.heap.size P (congrArg (Value.int .i64) hsh) (congrArg (Value.int .i64) hsh) (by omega) (Nat.le_refl _) ?_; intro w3 ho3 hb3)
  have HO3 : Hid (Own w3 w.heap.size (some ⟨w.heap.size, 0, none⟩) P (filled (vls f P) 0)) := Lib.hid (by rw [filled_zero, vls_len]; exact ho3)
  have HB3 := Lib.hid hb3
  clear ho3 hb3
  go_loopw [11] (fun i wr => ∃ k : Nat, k ≤ P ∧ i = .int .i64 (k : Int) ∧ Hid (Own wr w.heap.size (some ⟨w.heap.size, 0, none⟩) P (filled (vls f P) k)) ∧ Hid (Below w.heap.size w wr)) (fun i _ => P - (intOf i).toNat)
  case atStart => exact ⟨0, Nat.zero_le _, rfl, HO3, HB3⟩
  case round =>
    obtain ⟨k, hk, rfl, HO, HB⟩ := hrel
    by_cases hlt : k < P
    · have HW1 := Lib.hid (HW.out k wr (by omega) HB.out)
      rw [HF.out k] at HW1
      have hjl : k < (filled (vls f P) k).length := by rw [filled_len _ _ (by rw [vls_len]; exact hk), vls_len]; exact hlt
      obtain ⟨y, hy⟩ := at_some hjl
      have HY := Lib.hid hy
      have hkP : (k : Int) < (P : Int) := by omega
      have hk0 : (0 : Int) ≤ (k : Int) := by omega
      clear hjl hy
      go_wp2_with (go_at_call 145; refine HW1.out.mono ?_; rintro e w5 ⟨rfl, b5⟩; have HO5 := Lib.hid (HO.out.below b5); have hc5 := HO5.out.cell HY.out; have hf5 := HO5.out.free k; have HST := Lib.hid (HO5.out.set_ k (f k)); have HB5 := Lib.hid ((HB.out.trans (b5.mono HB.out.size)).setCell (p := ⟨w.heap.size, k, none⟩) (Nat.le_refl _) (.int .i64 (f k))); clear b5)
      have HP6 : Hid (Own (w5.setCell ⟨w.heap.size, k, none⟩ (.int .i64 (f k))) w.heap.size (some ⟨w.heap.size, 0, none⟩) P (filled (vls f P) (k + 1))) := Lib.hid (by
        have h := HST.out
        rwa [filled_set _ _ _ (vls_at hlt)] at h)
      clear HST
      go_roundw
      case rel => exact ⟨k + 1, hlt, by go_num, HP6, HB5⟩
      case measure => simp [intOf]; omega
    · obtain rfl : k = P := by omega
      have HE : Hid (Own wr w.heap.size (some ⟨w.heap.size, 0, none⟩) k (vls f k)) := Lib.hid (by
        have h1 := filled_all (vls f k)
        rw [vls_len] at h1
        have h2 := HO.out
        rwa [h1] at h2)
      go_wp2
      go_ret
      exact ⟨w.heap.size, _, rfl, HE.out, HB.out⟩

/-- What IsNested tells. -/
noncomputable def nsB (ts : List (List Int)) : Bool := vtsB ts && neB (ww ts) (2 ^ ts.length)

set_option maxHeartbeats 1000000 in
theorem IsNested_any (A : Option Addr) (c : Nat) (ts : List (List Int)) (w : World) (h : RdR w A c ts) (hl2 : ∀ r ∈ ts, r.length ≤ 1099511627776) :
    Calls Try.prog 37 #[.slice A ts.length c] w fun e w' => e = .returned (.bool (nsB ts)) ∧ Below w.heap.size w w' := by
  have HC := Lib.hid (areTables_any A c ts w h hl2)
  rcases hb : vtsB ts with _ | _
  · have HE : Hid (nsB ts = false) := Lib.hid (by unfold nsB; rw [hb]; rfl)
    rw [hb] at HC
    clear hb
    go_enter Try.func37, Try.ntmps37
    go_wp2_with (go_at_call 77; refine HC.out.mono ?_; rintro e w1 ⟨rfl, hb⟩)
    go_ret
    exact ⟨by rw [HE.out]; rfl, hb⟩
  · rw [hb] at HC
    have hv := vtsB_iff.1 hb
    have h4 := hv.1.2
    have HE : Hid (nsB ts = neB (T (vls (ww ts) (2 ^ ts.length))) (2 ^ ts.length)) := Lib.hid (by
      unfold nsB
      rw [hb, Bool.true_and]
      have e : ∀ S, S < 2 ^ ts.length → T (vls (ww ts) (2 ^ ts.length)) S = ww ts S := fun S hS => T_of (vls_at hS)
      have hiff : Ne2 (ww ts) (2 ^ ts.length) ↔ Ne2 (T (vls (ww ts) (2 ^ ts.length))) (2 ^ ts.length) := by
        have key : ∀ a, a < 2 ^ ts.length → ∀ b, b < 2 ^ ts.length → a ||| b < 2 ^ ts.length ∧ a &&& b < 2 ^ ts.length := fun a ha b hb => ⟨Nat.or_lt_two_pow ha hb, Nat.lt_of_le_of_lt Nat.and_le_left ha⟩
        constructor
        · intro hh a ha b hb
          rw [e _ (key a ha b hb).1, e _ (key a ha b hb).2, e a ha, e b hb]
          exact hh a ha b hb
        · intro hh a ha b hb
          have := hh a ha b hb
          rwa [e _ (key a ha b hb).1, e _ (key a ha b hb).2, e a ha, e b hb] at this
      by_cases hh : Ne2 (ww ts) (2 ^ ts.length)
      · rw [neB_true hh, neB_true (hiff.1 hh)]
      · rw [neB_false hh, neB_false (fun x => hh (hiff.2 x))])
    have HS := Lib.hid (fun (w1 : World) (h1 : Below w.heap.size w w1) => worthsToSets_any A c ts.length ts w1 rfl (h.below h1) h4 hv.2)
    have HBD : Hid (∀ s, s < 2 ^ ts.length → 0 ≤ T (vls (ww ts) (2 ^ ts.length)) s ∧ T (vls (ww ts) (2 ^ ts.length)) s ≤ 120) := Lib.hid (fun s hs => by rw [T_of (vls_at hs)]; exact ww_bd hv.2 h4 s)
    have HA := Lib.hid (fun (A1 : Option Addr) (c1 : Nat) (w1 : World) (h1 : Rd w1 A1 c1 (vls (ww ts) (2 ^ ts.length))) => addsLess_any A1 c1 ts.length (2 ^ ts.length) (vls (ww ts) (2 ^ ts.length)) w1 h1 rfl h4 (vls_len _ _) HBD.out)
    have HFX : Hid ((fun S => ww ts S) = ww ts) := Lib.hid rfl
    generalize neB (T (vls (ww ts) (2 ^ ts.length))) (2 ^ ts.length) = v at *
    generalize 2 ^ ts.length = P at *
    clear hb hv HBD
    go_enter Try.func37, Try.ntmps37
    go_wp2_with (first
      | (go_at_call 77; refine HC.out.mono ?_; rintro e w1 ⟨rfl, hb1⟩; have HB1 := Lib.hid hb1; clear hb1)
      | (go_at_call 94; refine (HS.out _ HB1.out).mono ?_; rintro e w2 ⟨g2, c2, rfl, o2, b2⟩; have HR2 := Lib.hid o2.rd; have HB2 := Lib.hid (HB1.out.trans (b2.mono HB1.out.size)); clear o2 b2)
      | (go_at_call 93; refine (HA.out _ c2 _ HR2.out).mono ?_; rintro e w3 ⟨rfl, q, rfl⟩))
    go_ret
    exact ⟨by rw [HE.out]; rfl, below_drewN' HB2.out q⟩

end Go.Proofs.Ytpildecpabeanaa

/-
  Chapter 1, the program: a loop over all bids, where the body knows what lies behind the slice that it is handed.
-/
namespace Go.Proofs.Ytpildecpabeanaa
open Go.RowKit Go.Shelf
attribute [local go_sem] Oper.semAt_some

/-- What the iterator leans on behind a round: its own block and the box of the top. -/
def SameTwo (bt g0 : Nat) (A B : World) : Prop := ∀ k, k = bt ∨ k = g0 → B.heap[k]? = A.heap[k]?

/-- An iterator over all bids of n bidders up to the top. -/
def IterB (P : Program) (gf : Nat) (lb : Array Value) (top n bt : Nat) (w0 : World) : Prop :=
  ∀ (l : Nat) (J : Option (List Int) → World → Prop) (Jx : World → Prop) (W : World), Below w0.heap.size w0 W →
    (∀ s A B, J s A → A.grownBy B (some W.heap.size) → J s B) → (∀ A B, Jx A → A.grownBy B (some W.heap.size) → Jx B) →
    (∀ ys gb c Wp W1, J (some ys) Wp → Below Wp.heap.size Wp W1 → Wp.heap.size ≤ gb → Fit top n ys → W.heap.size < gb → Own W1 W.heap.size (some ⟨gb, 0, none⟩) c ys →
      YieldAt Fence.wide 3 P l #[.slice (some ⟨gb, 0, none⟩) ys.length c] W1 fun e W' =>
        (e = .returned (.bool true) ∧ J (nextF ys top) W' ∧ SameTwo bt W.heap.size W1 W') ∨ (e = .returned (.bool false) ∧ Jx W')) →
    J (some (List.replicate n 0)) W →
    CallsIn Fence.wide 4 P gf (#[.func (.yield l) #[] #[]] ++ lb) W fun e W' => (∃ v, e = .returned v) ∧ (J none W' ∨ Jx W')

/-- What the loop's own turns leave as it is: those of its record, of the block for deferred calls, and of the iterator's own block. -/
def Stays (B : Nat) (I : World → Prop) : Prop :=
  ∀ (A C : World) (r : Nat), I A → A.grownBy C (some r) → (r = B + 2 ∨ (B ≤ r ∧ ∃ o, A.heap[r]? = some o ∧ o.isCells = false)) → I C

theorem Stays.alloc {B : Nat} {I : World → Prop} (h : Stays B I) {A : World} (o : Obj) (hA : I A) : I (A.alloc o) :=
  h A _ (B + 2) hA (World.grownBy_alloc A o _) (.inl rfl)
theorem Stays.put {B : Nat} {I : World → Prop} (h : Stays B I) {A : World} {k : Nat} {o : Obj} (o' : Obj) (hA : I A) (hB : B ≤ k) (hk : A.heap[k]? = some o) (ho : o.isCells = false) : I (A.putObj k o') :=
  h A _ k hA (grownBy_putObj' A k o') (.inr ⟨hB, o, hk, ho⟩)

/-- How a round may end. -/
def roundEnds (bt g0 : Nat) (I : Option (List Int) → World → Prop) (Ix : World → Prop) (s : Option (List Int)) (W : World) : Exit → Act → World → Prop
  | .normal, _, W' => KeepsOthers W W' ∧ SameTwo bt g0 W W' ∧ I s W'
  | .ret, _, W' => KeepsOthers W W' ∧ Ix W'
  | _, _, _ => False

set_option maxHeartbeats 1000000 in
theorem range_known {P : Program} {g : Operand} {p : Tmp} {assign body : Code} {Q : Exit → Act → World → Prop} {a : Act} {w : World} {gf : Nat} {lb : Array Value} {top n bt : Nat}
    (hg : a.eval g = .func (.func gf) #[] lb) (eg : Enters P gf) (hit : IterB P gf lb top n bt w) (hbt : bt < w.heap.size)
    (I : Option (List Int) → World → Prop) (Ix : World → Prop) (hI : ∀ s, Stays w.heap.size (I s)) (hIx : Stays w.heap.size Ix) (h0 : I (some (List.replicate n 0)) w) (a₁ : Value → Act)
    (hassign : ∀ (l : Nat) (v : Value) (W : World) (K : Act → World → Prop), K (a₁ v) W →
      assign.wpIn (Fence.wide.inRound l) 3 P (Exit.then K (fun _ _ _ => False)) { tmps := (#[p].zip #[v]).foldl (fun t (p, v) => t.setIfInBounds p v) a.tmps, defers := [] } W)
    (hbody : ∀ (l : Nat) (ys : List Int) (gb c : Nat) (Wp W : World), I (some ys) Wp → Wp.grownBy W (some (w.heap.size + 1)) → Wp.heap.size ≤ gb → I (some ys) W → Fit top n ys → w.heap.size + 2 < gb → Own W (w.heap.size + 2) (some ⟨gb, 0, none⟩) c ys →
      body.wpIn (Fence.wide.inRound l) 3 P (roundEnds bt (w.heap.size + 2) I Ix (nextF ys top) W) (a₁ (.slice (some ⟨gb, 0, none⟩) ys.length c)) W)
    (hdone : ∀ (D : Nat) (W : World), w.heap.size ≤ D → I none W → W.heap[D]? = some (.deferred (some [])) → Q .normal { a with defers := { target := .collected D, args := #[] } :: a.defers } W)
    (hstop : ∀ (D : Nat) (W : World), w.heap.size ≤ D → Ix W → W.heap[D]? = some (.deferred (some [])) → Code.ret.wpIn Fence.wide 5 P Q { a with defers := { target := .collected D, args := #[] } :: a.defers } W) :
    (Code.rangeFunc g #[p] assign body).wpIn Fence.wide 5 P Q a w := by
  refine wpIn_rangeFunc fun fn hfn => ?_
  -- the record in its states
  let R : LoopState → Option Code → Obj := fun st pe => .loop { state := st, pending := pe, fn, tmps := a.tmps, params := #[p], assign, body, defers := w.heap.size }
  let W1 : World := (w.alloc (.deferred (some []))).alloc (R .ready none)
  have hs : W1.heap.size = w.heap.size + 2 := by simp [W1]
  have hrec : W1.heap[w.heap.size + 1]? = some (R .ready none) := by
    have := World.alloc_heap_new (w.alloc (.deferred (some []))) (R .ready none)
    rwa [World.size_alloc] at this
  have hdef : W1.heap[w.heap.size]? = some (.deferred (some [])) := (Below.heap_alloc _ _ _ (by simp)).trans (World.alloc_heap_new w _)
  have hbel : Below w.heap.size w W1 := ((Below.refl _ w).alloc (Nat.le_refl _) _).alloc (by simp) _
  refine ⟨w.heap.size + 1, [{ target := .collected w.heap.size, args := #[] }], W1, { target := .fn (.func gf) lb, args := #[.func (.yield (w.heap.size + 1)) #[] #[]] }, W1, gf,
    #[.func (.yield (w.heap.size + 1)) #[] #[]] ++ lb, W1, run_enterLoop_outer _ _ _ _ _, ?_, fun _ _ => trivial, ?_, (fun h => by cases h), ?_⟩
  · simp only [resolve, hg]
    simp [go_sem]
  · simp [invoke, go_sem]
    exact eg _ _
  · refine (hit (w.heap.size + 1) (fun s W => I s W ∧ W.heap[w.heap.size + 1]? = some (R .ready none) ∧ W.heap[w.heap.size]? = some (.deferred (some [])))
      (fun W => Ix W ∧ W.heap[w.heap.size + 1]? = some (R .done (some .ret)) ∧ W.heap[w.heap.size]? = some (.deferred (some []))) W1 hbel ?_ ?_ ?_ ?_).mono ?_
    · rintro s A C ⟨hi, hl, hk⟩ hgr
      rw [hs] at hgr
      exact ⟨hI s A C _ hi hgr (.inl rfl), (hgr.block _ (Array.getElem?_eq_some_iff.1 hl).1 (by simp)).trans hl, (hgr.block _ (Array.getElem?_eq_some_iff.1 hk).1 (by simp)).trans hk⟩
    · rintro A C ⟨hi, hl, hk⟩ hgr
      rw [hs] at hgr
      exact ⟨hIx A C _ hi hgr (.inl rfl), (hgr.block _ (Array.getElem?_eq_some_iff.1 hl).1 (by simp)).trans hl, (hgr.block _ (Array.getElem?_eq_some_iff.1 hk).1 (by simp)).trans hk⟩
    · rintro ys gb c Wp W ⟨hip, hlp, hkp⟩ hbp hge hfit hgb hown
      rw [hs] at hgb hown
      have hgp : Wp.grownBy W (some (w.heap.size + 2)) := ⟨hbp.os, hbp.tape, hbp.output, hbp.size, fun i hi _ => hbp.block i hi⟩
      have hgl : Wp.grownBy W (some (w.heap.size + 1)) := ⟨hbp.os, hbp.tape, hbp.output, hbp.size, fun i hi _ => hbp.block i hi⟩
      have hi := hI _ Wp W _ hip hgp (.inl rfl)
      have hl := (hbp.block _ (Array.getElem?_eq_some_iff.1 hlp).1).trans hlp
      have hk := (hbp.block _ (Array.getElem?_eq_some_iff.1 hkp).1).trans hkp
      have hlt := (Array.getElem?_eq_some_iff.1 hl).1
      refine ⟨fn, _, assign, body, run_yield (r := { state := .ready, pending := none, fn, tmps := a.tmps, params := #[p], assign, body, defers := w.heap.size }) hl rfl,
        roundIn_of_wpIn hfn (hassign _ _ W _ ⟨_, run_beginRound hl rfl, ?_⟩)⟩
      -- the round is on: the record says so
      have hl2 := World.putObj_heap_same (w := W) (o := R .busy none) hlt
      have hk2 := (World.putObj_heap_other (w := W) (r := w.heap.size + 1) (o := R .busy none) (k := w.heap.size) (by omega)).trans hk
      have ho2 : Own (W.putObj (w.heap.size + 1) (R .busy none)) (w.heap.size + 2) (some ⟨gb, 0, none⟩) c ys :=
        World.ownsRow.kept hown (grownBy_putObj' W _ _) (.inr (by simp [Value.ownBlock]; omega))
      refine wpIn_mono (hbody _ ys gb c Wp _ hip (hgl.trans (grownBy_putObj' W _ _)) hge ((hI _).put _ hi (by omega) hl rfl) hfit hgb ho2) ?_
      rintro e a3 W3 hp
      cases e with
      | normal =>
        obtain ⟨hk3, hs3, hi3⟩ := hp
        have hl3 := hk3.same _ _ hl2 rfl
        refine ⟨_, _, run_endRound none hl3, .inl ⟨rfl, ⟨(hI _).put _ hi3 (by omega) hl3 rfl, World.putObj_heap_same (Array.getElem?_eq_some_iff.1 hl3).1, (World.putObj_heap_other (by omega)).trans (hk3.same _ _ hk2 rfl)⟩, fun k hkk => ?_⟩⟩
        rw [hs] at hkk
        have hne : k ≠ w.heap.size + 1 := by omega
        rw [World.putObj_heap_other hne, hs3 k hkk, World.putObj_heap_other hne]
      | ret =>
        obtain ⟨hk3, hi3⟩ := hp
        have hl3 := hk3.same _ _ hl2 rfl
        exact ⟨_, _, run_endRound (some .ret) hl3, .inr ⟨rfl, hIx.put _ hi3 (by omega) hl3 rfl, World.putObj_heap_same (Array.getElem?_eq_some_iff.1 hl3).1, (World.putObj_heap_other (by omega)).trans (hk3.same _ _ hk2 rfl)⟩⟩
      | exit id => exact hp.elim
      | goto t => exact hp.elim
      | panic ch => exact hp.elim
      | outgrown => exact hp.elim
    · exact ⟨(hI _).alloc _ ((hI _).alloc _ h0), hrec, hdef⟩
    · rintro e W2 ⟨⟨v, rfl⟩, ⟨hi, hl, hk⟩ | ⟨hi, hl, hk⟩⟩
      · exact ⟨none, _, run_endLoop hl (by simp), hdone _ _ (Nat.le_refl _) ((hI _).put _ hi (by omega) hl rfl) ((World.putObj_heap_other (by omega)).trans hk)⟩
      · exact ⟨some .ret, _, run_endLoop hl (by simp), hstop _ _ (Nat.le_refl _) (hIx.put _ hi (by omega) hl rfl) ((World.putObj_heap_other (by omega)).trans hk)⟩

end Go.Proofs.Ytpildecpabeanaa
