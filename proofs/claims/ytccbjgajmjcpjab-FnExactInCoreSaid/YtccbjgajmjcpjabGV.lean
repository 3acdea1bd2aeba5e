/-
  Chapter 9, the program: what bidders pay as a struct; what those of a set pay together.
-/
import Derived.Test.YtccbjgajmjcpjabGS
import Derived.Test.YtccbjgajmjcpjabNe
import Derived.Test.YtccbjgajmjcpjabWx
import Derived.Test.YtccbjgajmjcpjabGW
import Derived.Laws.CopyOwn
import Derived.Test.YtccbjgajmjcpjabWq
import Derived.Test.YtccbjgajmjcpjabOne
namespace Go.Proofs.Ytccbjgajmjcpjab
open Go.RowKit

/-- Payments as a value. -/
def pmV (p : Nat → Int) (s : Int) : Value := .agg #[.int .i64 (p 0), .int .i64 (p 1), .int .i64 (p 2), .int .i64 (p 3), .int .i64 s]
/-- What those of a set pay, of the first k. -/
def byF (p : Nat → Int) (S : Nat) : Nat → Int
  | 0 => 0
  | k + 1 => byF p S k + (if S / 2 ^ k % 2 = 1 then p k else 0)

theorem byF_bd {p : Nat → Int} (S : Nat) (hp : ∀ i, i < 4 → 0 ≤ p i ∧ p i ≤ 30) : ∀ k, k ≤ 4 → 0 ≤ byF p S k ∧ byF p S k ≤ 30 * k
  | 0, _ => by simp [byF]
  | k + 1, hk => by
    have h1 := byF_bd S hp k (by omega)
    have h2 := hp k (by omega)
    simp only [byF]
    split <;> omega
theorem nat4 {k : Nat} (h : k < 4) : k = 0 ∨ k = 1 ∨ k = 2 ∨ k = 3 := by omega

set_option maxHeartbeats 1000000 in
theorem by_any (p : Nat → Int) (s : Int) (S : Nat) (w : World) (hS : S < 16) (hp : ∀ i, i < 4 → 0 ≤ p i ∧ p i ≤ 30) :
    Calls Try.prog 153 #[pmV p s, .int .i64 (S : Int)] w fun e w' => e = .returned (.int .i64 (byF p S 4)) ∧ Below w.heap.size w w' := by
  have HBD := Lib.hid (byF_bd S hp)
  have HPB := Lib.hid hp
  have HCE : Hid (∀ k, k < 4 → (w.alloc (.cells #[.int .i64 (p 0), .int .i64 (p 1), .int .i64 (p 2), .int .i64 (p 3), .int .i64 s] 79)).cell? ⟨w.heap.size, k, none⟩ = some (.int .i64 (p k))) := Lib.hid (fun k hk => by
    rcases nat4 hk with rfl | rfl | rfl | rfl <;> simp)
  have HB : Hid (Below w.heap.size w (w.alloc (.cells #[.int .i64 (p 0), .int .i64 (p 1), .int .i64 (p 2), .int .i64 (p 3), .int .i64 s] 79))) := Lib.hid ((Below.refl _ w).alloc (Nat.le_refl _) _)
  clear hp
  unfold pmV
  go_enter Try.func153, Try.ntmps153
  go_wp2_with fail
  generalize w.alloc (.cells #[.int .i64 (p 0), .int .i64 (p 1), .int .i64 (p 2), .int .i64 (p 3), .int .i64 s] 79) = W at *
  go_loopw [5, 7] (fun pv iv wr => ∃ (k q : Nat), k ≤ 4 ∧ iv = .int .i64 (k : Int) ∧ pv = .int .i64 (byF p S k) ∧ wr = W.drewN q) (fun _ iv _ => 4 - (intOf iv).toNat)
  case atStart => exact ⟨0, 0, by omega, rfl, rfl, rfl⟩
  case round =>
    obtain ⟨k, q, hk, rfl, rfl, rfl⟩ := hrel
    by_cases hlt : k < 4
    · have han := and_ne (u := S) (k := k) hS hlt
      have hc := HCE.out k hlt
      have hk4 : (k : Int) < 4 := by omega
      have hk0 : (0 : Int) ≤ (k : Int) := by omega
      by_cases hb : S / 2 ^ k % 2 = 1
      · have HE : Hid (byF p S (k + 1) = byF p S k + p k) := Lib.hid (by simp only [byF]; rw [if_pos hb])
        rw [decide_eq_true hb] at han
        have h1 := HBD.out k (by omega)
        have h2 := HPB.out k hlt
        obtain ⟨x, hx⟩ : ∃ x, x = byF p S k := ⟨_, rfl⟩
        rw [← hx] at h1 HE ⊢
        obtain ⟨y, hy⟩ : ∃ y, y = p k := ⟨_, rfl⟩
        rw [← hy] at h2 HE hc
        have e1 : IntKind.i64.wrap (x + y) = x + y := IntWalk.i64_in _ (by omega)
        clear hx hy hb h1 h2
        go_wp2
        go_roundw
        case rel => exact ⟨k + 1, _, hlt, by go_num, by rw [HE.out], rfl⟩
        case measure => simp [intOf]; omega
      · have HE : Hid (byF p S (k + 1) = byF p S k) := Lib.hid (by simp only [byF]; rw [if_neg hb]; omega)
        rw [decide_eq_false hb] at han
        clear hb
        go_wp2
        go_roundw
        case rel => exact ⟨k + 1, _, hlt, by go_num, by rw [HE.out], rfl⟩
        case measure => simp [intOf]; omega
    · obtain rfl : k = 4 := by omega
      go_wp2
      go_ret
      exact ⟨rfl, below_drewN' HB.out q⟩

end Go.Proofs.Ytccbjgajmjcpjab

/-
  Chapter 9, the program: payments of some bidders as a struct.
-/
namespace Go.Proofs.Ytccbjgajmjcpjab
open Go.RowKit

/-- Block m is payments. -/
def Pm (w : World) (m : Nat) (l : List Int) : Prop := l.length = 5 ∧ w.heap[m]? = some (.cells (l.map (Value.int .i64)).toArray 79)
theorem Pm.cell {w : World} {m : Nat} {l : List Int} (h : Pm w m l) {k : Nat} (hk : k < 5) : w.cell? ⟨m, k, none⟩ = some (.int .i64 (T l k)) := by
  have hk' : k < l.length := by rw [h.1]; exact hk
  unfold World.cell?
  rw [h.2]
  simp [T, hk']
theorem Pm.free {w : World} {m : Nat} {l : List Int} (h : Pm w m l) (k : Nat) : w.frozen? ⟨m, k, none⟩ = false := by
  unfold World.frozen?
  rw [h.2]
  simp
theorem Pm.new (w : World) (l : List Int) (hl : l.length = 5) : Pm (w.alloc (.cells (l.map (Value.int .i64)).toArray 79)) w.heap.size l := ⟨hl, by show (w.heap.push _)[_]? = _; simp⟩
theorem Pm.keep {w w' : World} {m : Nat} {l : List Int} (h : Pm w m l) (he : w'.heap[m]? = w.heap[m]?) : Pm w' m l := ⟨h.1, he.trans h.2⟩
theorem Pm.lt {w : World} {m : Nat} {l : List Int} (h : Pm w m l) : m < w.heap.size := by
  rcases Nat.lt_or_ge m w.heap.size with h1 | h1
  · exact h1
  · have := h.2; rw [Array.getElem?_eq_none h1] at this; cases this
theorem Pm.alloc {w : World} {m : Nat} {l : List Int} (h : Pm w m l) (o : Obj) : Pm (w.alloc o) m l := h.keep (Below.heap_alloc w o m h.lt)
theorem Pm.other {w : World} {m m' k : Nat} {v : Value} {l : List Int} (h : Pm w m l) (hne : m ≠ m') : Pm (w.setCell ⟨m', k, none⟩ v) m l := h.keep (Below.heap_setCell w _ v m hne)
theorem Pm.set_ {w : World} {m k : Nat} {l : List Int} (h : Pm w m l) (x : Int) : Pm (w.setCell ⟨m, k, none⟩ (.int .i64 x)) m (l.set k x) := by
  refine ⟨by rw [List.length_set]; exact h.1, ?_⟩
  simp only [World.setCell, Array.getElem?_modify, if_true, h.2]
  simp [List.map_set]

theorem Pm.got {w : World} {m k : Nat} {l : List Int} (h : Pm w m l) (hk : k < 5) (x : Int) : (w.setCell ⟨m, k, none⟩ (.int .i64 x)).cell? ⟨m, k, none⟩ = some (.int .i64 x) := by
  rw [(h.set_ x).cell hk, T_set (by rw [h.1]; exact hk), if_pos rfl]
theorem Pm.all {w : World} {m : Nat} {l : List Int} (h : Pm w m l) : w.cell? ⟨m, 0, none⟩ = some (.int .i64 (T l 0)) ∧ w.cell? ⟨m, 1, none⟩ = some (.int .i64 (T l 1)) ∧ w.cell? ⟨m, 2, none⟩ = some (.int .i64 (T l 2)) ∧ w.cell? ⟨m, 3, none⟩ = some (.int .i64 (T l 3)) ∧ w.cell? ⟨m, 4, none⟩ = some (.int .i64 (T l 4)) :=
  ⟨h.cell (by omega), h.cell (by omega), h.cell (by omega), h.cell (by omega), h.cell (by omega)⟩

/-- Number i of a list, 0 behind it. -/
def at0 (xs : List Int) (i : Nat) : Int := xs.getD i 0
theorem below_al4p {w wr : World} {k : Nat} {v : Value} (h : Below w.heap.size w wr) : Below w.heap.size w (wr.setCell ⟨w.heap.size, k, none⟩ v) := h.setCell (Nat.le_refl _) _
theorem splice_four {xs : List Int} (h : xs.length ≤ 4) : (splice [Value.int .i64 0, .int .i64 0, .int .i64 0, .int .i64 0, .int .i64 0] 0 (xs.map (Value.int .i64))) = [at0 xs 0, at0 xs 1, at0 xs 2, at0 xs 3, 0].map (Value.int .i64) := by
  match xs, h with
  | [], _ => rfl
  | [a], _ => rfl
  | [a, b], _ => rfl
  | [a, b, c], _ => rfl
  | [a, b, c, d], _ => rfl
  | _ :: _ :: _ :: _ :: _ :: _, h => simp at h
theorem int_size : (Try.prog.info? 3).map (·.size) = some 1 := by kernel_rfl
theorem addr_add (b o j : Nat) : (⟨b, o, none⟩ : Addr).add j = ⟨b, o + j, none⟩ := by unfold Addr.add; split <;> simp_all
theorem Rd.cells {w : World} {A : Option Addr} {c : Nat} {xs : List Int} (h : Rd w A c xs) (h0 : 0 < (xs.map (Value.int .i64)).length) : ∃ ad, A = some ad ∧ ∀ j v, (xs.map (Value.int .i64))[j]? = some v → w.cell? (ad.add j) = some v := by
  obtain ⟨b, off, x0, hA, _⟩ := h.at_ (k := 0) (by simpa using h0)
  refine ⟨⟨b, off, none⟩, hA, fun j v hj => ?_⟩
  rw [List.getElem?_map] at hj
  have hl : j < xs.length := by
    rcases Nat.lt_or_ge j xs.length with h1 | h1
    · exact h1
    · rw [List.getElem?_eq_none h1] at hj; cases hj
  obtain ⟨b', off', x, hA', _, hx, hc⟩ := h.at_ hl
  rw [hA] at hA'
  cases hA'
  rw [addr_add, hc]
  rw [hx.out] at hj
  simpa using hj

open Go in
theorem copy_run {A : Option Addr} {c n g : Nat} {xs : List Int} {w0 : World} (hn : xs.length = n) (h : Rd w0 A c xs) (h4 : n ≤ 4) (hp : Pm w0 g (List.replicate 5 0)) :
    ∃ w5, (Builtin.copy_ #[26, 26] 3 #[.slice (some ⟨g, 0, none⟩) 4 4, .slice A n c]).run Try.prog w0 = .ok (goInt n) w5 ∧ Pm w5 g [at0 xs 0, at0 xs 1, at0 xs 2, at0 xs 3, 0] ∧ (∀ B w, B ≤ g → Below B w w0 → Below B w w5) ∧ ∀ m, m ≠ g → w5.heap[m]? = w0.heap[m]? := by
  subst hn
  have hsp := splice_four h4
  by_cases h0 : 0 < xs.length
  · obtain ⟨ad, rfl, hc⟩ := h.cells (by simpa using h0)
    have hrun := run_copy_row (P := Try.prog) w0 26 26 3 3 g 0 4 4 ad xs.length c [Value.int .i64 0, .int .i64 0, .int .i64 0, .int .i64 0, .int .i64 0].toArray 79 (xs.map (Value.int .i64)) Try.underlying26 int_size hp.2 (by rw [List.length_map]; exact (Nat.min_eq_left h4).symm) hc (by simp; omega) (fun v hv => by obtain ⟨x, _, rfl⟩ := List.mem_map.1 hv; rfl)
    refine ⟨_, hrun.trans (by rw [List.length_map]), ⟨rfl, ?_⟩, fun B w hB hb => below_setRow hb hB _, fun m hm => setRow_other w0 g m _ hm⟩
    have e := setRow_heap w0 g _ ([Value.int .i64 0, .int .i64 0, .int .i64 0, .int .i64 0, .int .i64 0].toArray.toList.take 0 ++ xs.map (Value.int .i64) ++ [Value.int .i64 0, .int .i64 0, .int .i64 0, .int .i64 0, .int .i64 0].toArray.toList.drop (0 + xs.length)).toArray 79 _ hp.2
    rw [e, ← hsp]
    simp [splice]
  · obtain rfl : xs = [] := List.eq_nil_of_length_eq_zero (by omega)
    have hrun := run_copy_none (P := Try.prog) w0 26 26 3 3 (some ⟨g, 0, none⟩) A 4 4 0 c Try.underlying26 int_size (by decide)
    exact ⟨w0, hrun, hp, fun B w _ hb => hb, fun m _ => rfl⟩

set_option maxRecDepth 100000 in
set_option maxHeartbeats 1000000 in
theorem paymentsOf_any (A : Option Addr) (c n : Nat) (xs : List Int) (w : World) (hn : xs.length = n) (h : Rd w A c xs) (h4 : n ≤ 4) (hb : ∀ x ∈ xs, 0 ≤ x ∧ x ≤ 30) :
    Calls Try.prog 97 #[.slice A n c] w fun e w' => e = .returned (pmV (at0 xs) xs.sum) ∧ Below w.heap.size w w' := by
  obtain ⟨w0, hw0⟩ : ∃ w0, w0 = (w.alloc (.cells #[.int .i64 0, .int .i64 0, .int .i64 0, .int .i64 0, .int .i64 0] 79)).alloc (.cells #[.int .i64 0, .int .i64 0, .int .i64 0, .int .i64 0, .int .i64 0] 79) := ⟨_, rfl⟩
  have hP0 : Pm w0 w.heap.size (List.replicate 5 0) := by rw [hw0]; exact Pm.alloc (Pm.new w (List.replicate 5 0) rfl) _
  have hP1 : Pm w0 (w.heap.size + 1) (List.replicate 5 0) := by
    have h1 := Pm.new (w.alloc (.cells #[.int .i64 0, .int .i64 0, .int .i64 0, .int .i64 0, .int .i64 0] 79)) (List.replicate 5 0) rfl
    simp only [show ∀ (w : World) (o : Obj), (w.alloc o).heap.size = w.heap.size + 1 from fun w o => by simp] at h1
    rw [hw0]; exact h1
  have hB0 : Below w.heap.size w w0 := by rw [hw0]; exact ((Below.refl _ w).alloc (Nat.le_refl _) _).alloc (by simp) _
  obtain ⟨w5, hcp, hp5, hb5, hk5⟩ := copy_run hn (h.below hB0) h4 hP1
  have hq5 := hP0.keep (hk5 w.heap.size (by omega))
  have HB5 := Lib.hid (hb5 _ _ (by omega) hB0)
  rw [hw0] at hcp
  have HSM := Lib.hid (sumU_any A c n xs.sum xs w5 hn rfl (h.below HB5.out) (by omega) (fun x hx => ⟨(hb x hx).1, by have := (hb x hx).2; omega⟩))
  obtain ⟨S, hS⟩ : ∃ S, S = xs.sum := ⟨_, rfl⟩
  rw [← hS] at HSM ⊢
  unfold pmV
  generalize at0 xs 0 = x0 at *
  generalize at0 xs 1 = x1 at *
  generalize at0 xs 2 = x2 at *
  generalize at0 xs 3 = x3 at *
  have f5 := hp5.free 4
  have c5 : w5.cell? ⟨w.heap.size + 1, 4, none⟩ = some (.int .i64 0) := hp5.cell (by omega)
  have hp6 := hp5.set_ (k := 4) S
  have hq6 := hq5.other (m' := w.heap.size + 1) (k := 4) (v := .int .i64 S) (by omega)
  obtain ⟨d0, d1, d2, d3, d4⟩ := hp6.all
  simp only [show T ([x0, x1, x2, x3, 0].set 4 S) 0 = x0 from rfl, show T ([x0, x1, x2, x3, 0].set 4 S) 1 = x1 from rfl, show T ([x0, x1, x2, x3, 0].set 4 S) 2 = x2 from rfl, show T ([x0, x1, x2, x3, 0].set 4 S) 3 = x3 from rfl, show T ([x0, x1, x2, x3, 0].set 4 S) 4 = S from rfl] at d0 d1 d2 d3 d4
  have HB6 : Hid (Below w.heap.size w (w5.setCell ⟨w.heap.size + 1, 4, none⟩ (.int .i64 S))) := Lib.hid (HB5.out.setCell (by show w.heap.size ≤ w.heap.size + 1; omega) _)
  obtain ⟨W, hW⟩ : ∃ W, W = w5.setCell ⟨w.heap.size + 1, 4, none⟩ (.int .i64 S) := ⟨_, rfl⟩
  have f0 := hq6.free 0
  have f1 := hq6.free 1
  have f2 := hq6.free 2
  have f3 := hq6.free 3
  have f4 := hq6.free 4
  obtain ⟨r0, r1, r2, r3, r4⟩ := hq6.all
  have a0 := hq6.set_ (k := 0) x0
  have s0 := hq6.got (k := 0) (by omega) x0
  have a1 := a0.set_ (k := 1) x1
  have s1 := a0.got (k := 1) (by omega) x1
  have a2 := a1.set_ (k := 2) x2
  have s2 := a1.got (k := 2) (by omega) x2
  have a3 := a2.set_ (k := 3) x3
  have s3 := a2.got (k := 3) (by omega) x3
  have s4 := a3.got (k := 4) (by omega) S
  have HB : Hid (Below w.heap.size w (((((w5.setCell ⟨w.heap.size + 1, 4, none⟩ (.int .i64 S)).setCell ⟨w.heap.size, 0, none⟩ (.int .i64 x0)).setCell ⟨w.heap.size, 1, none⟩ (.int .i64 x1)).setCell ⟨w.heap.size, 2, none⟩ (.int .i64 x2)).setCell ⟨w.heap.size, 3, none⟩ (.int .i64 x3) |>.setCell ⟨w.heap.size, 4, none⟩ (.int .i64 S))) := Lib.hid (below_al4p (below_al4p (below_al4p (below_al4p (below_al4p HB6.out)))))
  clear hp6 hq6 hp5 hq5 hS hb hn h hw0 hP0 hP1 hB0 hb5 hk5 a0 a1 a2 a3 hW
  go_enter Try.func97, Try.ntmps97
  go_wp2_with (go_at_call 154; refine HSM.out.mono ?_; rintro e w6 ⟨rfl, rfl⟩)
  refine bodyPost_ret (by simp [results, Try.results97, go_sem, s0, s1, s2, s3, s4]; try rfl) rfl ?_
  exact ⟨rfl, HB.out⟩

end Go.Proofs.Ytccbjgajmjcpjab

/-
  Chapter 9, the program: whether payments are in the core.
-/
namespace Go.Proofs.Ytccbjgajmjcpjab
open Go.RowKit

/-- The core as a value. -/
def coV (m : Nat → Int) (s : Int) (A : Option Addr) (P c : Nat) : Value := .agg #[.int .i64 (m 0), .int .i64 (m 1), .int .i64 (m 2), .int .i64 (m 3), .int .i64 s, .slice A P c]
theorem idx4 (f : Nat → Int) {k : Nat} (hk : k < 4) (w : World) :
    (Instr.index 77 (.agg #[.int .i64 (f 0), .int .i64 (f 1), .int .i64 (f 2), .int .i64 (f 3)]) (.int .i64 (k : Int))).run Try.prog w = .ok (.int .i64 (f k)) w := by
  rcases nat4 hk with rfl | rfl | rfl | rfl <;> kernel_rfl
/-- What has asks. -/
def HasP (m p : Nat → Int) (l : List Int) (P : Nat) : Prop := (∀ i, i < 4 → p i ≤ m i) ∧ ∀ S, S < P → T l S ≤ byF p S 4
noncomputable def hasB (m p : Nat → Int) (l : List Int) (P : Nat) : Bool := @decide (HasP m p l P) (Classical.propDecidable _)
theorem hasB_true {m p : Nat → Int} {l : List Int} {P : Nat} (h : HasP m p l P) : hasB m p l P = true := by unfold hasB; simp [h]
theorem hasB_false {m p : Nat → Int} {l : List Int} {P : Nat} (h : ¬ HasP m p l P) : hasB m p l P = false := by unfold hasB; simp [h]

set_option maxRecDepth 100000 in
set_option maxHeartbeats 1000000 in
theorem has_any (m p : Nat → Int) (s t : Int) (A : Option Addr) (P c : Nat) (l : List Int) (w : World) (h : Rd w A c l) (hl : l.length = P) (h16 : P ≤ 16) (hp : ∀ i, i < 4 → 0 ≤ p i ∧ p i ≤ 30) :
    Calls Try.prog 96 #[coV m s A P c, pmV p t] w fun e w' => e = .returned (.bool (hasB m p l P)) ∧ Below w.heap.size w w' := by
  have HI := Lib.hid (fun (k : Nat) (hk : k < 4) (w1 : World) => idx4 p hk w1)
  have HBY := Lib.hid (fun (S : Nat) (hS : S < P) (w1 : World) => by_any p t S w1 (by omega) hp)
  unfold pmV at HBY
  have HT := Lib.hid (fun h => hasB_true (m := m) (p := p) (l := l) (P := P) h)
  have HF := Lib.hid (fun h => hasB_false (m := m) (p := p) (l := l) (P := P) h)
  obtain ⟨W, hW⟩ : ∃ W, W = (w.alloc (.cells #[.int .i64 (m 0), .int .i64 (m 1), .int .i64 (m 2), .int .i64 (m 3), .int .i64 s, .slice A P c] 81)).alloc (.cells #[.int .i64 (p 0), .int .i64 (p 1), .int .i64 (p 2), .int .i64 (p 3), .int .i64 t] 79) := ⟨_, rfl⟩
  have HB : Hid (Below w.heap.size w W) := Lib.hid (by rw [hW]; exact ((Below.refl _ w).alloc (Nat.le_refl _) _).alloc (by simp) _)
  have hne : w.heap.size ≠ w.heap.size + 1 := by omega
  have hM : ∀ k v, #[Value.int .i64 (m 0), .int .i64 (m 1), .int .i64 (m 2), .int .i64 (m 3), .int .i64 s, .slice A P c][k]? = some v → W.cell? ⟨w.heap.size, k, none⟩ = some v := fun k v hv => by
    have e : W.heap[w.heap.size]? = some (.cells #[.int .i64 (m 0), .int .i64 (m 1), .int .i64 (m 2), .int .i64 (m 3), .int .i64 s, .slice A P c] 81) := by
      rw [hW, Below.heap_alloc _ _ _ (by simp)]
      show (w.heap.push _)[_]? = _
      simp
    unfold World.cell?
    rw [e]
    simpa using hv
  have hQ : Pm W (w.heap.size + 1) [p 0, p 1, p 2, p 3, t] := by
    have h1 := Pm.new (w.alloc (.cells #[.int .i64 (m 0), .int .i64 (m 1), .int .i64 (m 2), .int .i64 (m 3), .int .i64 s, .slice A P c] 81)) [p 0, p 1, p 2, p 3, t] rfl
    simp only [show ∀ (w : World) (o : Obj), (w.alloc o).heap.size = w.heap.size + 1 from fun w o => by simp] at h1
    rw [hW]; exact h1
  have HMK : Hid (∀ k, k < 4 → W.cell? ⟨w.heap.size, k, none⟩ = some (.int .i64 (m k))) := Lib.hid (fun k hk => hM k _ (by rcases nat4 hk with rfl | rfl | rfl | rfl <;> rfl))
  have HM5 : Hid (W.cell? ⟨w.heap.size, 5, none⟩ = some (.slice A P c)) := Lib.hid (hM 5 _ rfl)
  have HQ0 : Hid (W.cell? ⟨w.heap.size + 1, 0, none⟩ = some (.int .i64 (p 0)) ∧ W.cell? ⟨w.heap.size + 1, 1, none⟩ = some (.int .i64 (p 1)) ∧ W.cell? ⟨w.heap.size + 1, 2, none⟩ = some (.int .i64 (p 2)) ∧ W.cell? ⟨w.heap.size + 1, 3, none⟩ = some (.int .i64 (p 3)) ∧ W.cell? ⟨w.heap.size + 1, 4, none⟩ = some (.int .i64 t)) :=
    Lib.hid hQ.all
  have HSZ : Hid (w.heap.size + 1 < W.heap.size) := Lib.hid (by rw [hW]; simp)
  have HR := Lib.hid (h.below HB.out)
  have HW := Lib.hid hW
  clear hW hM hQ h hp
  unfold pmV coV
  go_enter Try.func96, Try.ntmps96
  go_wp2_with fail
  rw [← HW.out]
  clear HW
  go_loopw [11] (fun iv wr => ∃ (k q : Nat), k ≤ 4 ∧ iv = .int .i64 (k : Int) ∧ wr = W.drewN q ∧ Hid (∀ i, i < k → p i ≤ m i)) (fun iv _ => 4 - (intOf iv).toNat)
  case atStart => exact ⟨0, 0, by omega, rfl, rfl, Lib.hid (fun i hi => absurd hi (by omega))⟩
  case round =>
    obtain ⟨k, q, hk, rfl, rfl, HK⟩ := hrel
    by_cases hlt : k < 4
    · have hi := HI.out k hlt
      have hc := HMK.out k hlt
      have hk4 : (k : Int) < 4 := by omega
      have hk0 : (0 : Int) ≤ (k : Int) := by omega
      by_cases hgt : m k < p k
      · have HE := Lib.hid (HF.out (fun hh => by have := hh.1 k hlt; omega))
        have hgt' : decide (m k < p k) = true := by simpa using hgt
        clear hgt
        go_wp2
        go_ret
        exact ⟨by rw [HE.out]; rfl, below_drewN' HB.out _⟩
      · have HK1 : Hid (∀ i, i < k + 1 → p i ≤ m i) := Lib.hid (fun i hi => by
          rcases Nat.lt_or_ge i k with h1 | h1
          · exact HK.out i h1
          · rw [show i = k by omega]; omega)
        have hgt' : decide (m k < p k) = false := by simpa using hgt
        clear hgt
        go_wp2
        go_roundw
        case rel => exact ⟨k + 1, _, hlt, by go_num, rfl, HK1⟩
        case measure => simp [intOf]; omega
    · obtain rfl : k = 4 := by omega
      have hc5 := HM5.out
      rw [show ((4 : Nat) : Int) = (4 : Int) from rfl]
      go_wp2
      go_loopw [26] (fun iv wr => ∃ (k : Nat), k ≤ P ∧ iv = .int .i64 (k : Int) ∧ Hid (Below W.heap.size W wr) ∧ Hid (∀ S, S < k → T l S ≤ byF p S 4)) (fun iv _ => P - (intOf iv).toNat)
      case atStart => exact ⟨0, by omega, rfl, Lib.hid (below_drewN' (Below.refl _ _) _), Lib.hid (fun i hi => absurd hi (by omega))⟩
      case round =>
        obtain ⟨k, hk, rfl, HB2, HS⟩ := hrel
        by_cases hlt2 : k < P
        · obtain ⟨b, off, x, rfl, _, hx, hcx⟩ := (HR.out.below HB2.out).at_ (k := k) (by omega)
          have hTx := T_of hx.out
          have HKEEP := Lib.hid (fun (a : Addr) (v : Value) (hv : W.cell? a = some v) => (HB2.out.cell (p := a) (World.block_lt_of_cell? W _ hv)).trans hv)
          have k5 := HKEEP.out _ _ hc5
          have k0 := HKEEP.out _ _ HQ0.out.1
          have k1 := HKEEP.out _ _ HQ0.out.2.1
          have k2 := HKEEP.out _ _ HQ0.out.2.2.1
          have k3 := HKEEP.out _ _ HQ0.out.2.2.2.1
          have k4 := HKEEP.out _ _ HQ0.out.2.2.2.2
          have hk0 : (0 : Int) ≤ (k : Int) := by omega
          have hkP : (k : Int) < (P : Int) := by omega
          have HB1 := Lib.hid (HBY.out k hlt2)
          obtain ⟨y, hy⟩ : ∃ y, y = byF p k 4 := ⟨_, rfl⟩
          rw [← hy] at HB1
          by_cases hgt : y < x
          · have HE := Lib.hid (HF.out (fun hh => by have := hh.2 k hlt2; rw [hTx, ← hy] at this; omega))
            have hgt' : decide (y < x) = true := by simpa using hgt
            clear hgt hy hTx hx
            go_wp2_with (go_at_call 153; refine (HB1.out _).mono ?_; rintro e w5 ⟨rfl, b5⟩)
            go_ret
            exact ⟨by rw [HE.out]; rfl, HB.out.trans ((HB2.out.trans (b5.mono HB2.out.size)).mono HB.out.size)⟩
          · have HS1 : Hid (∀ S, S < k + 1 → T l S ≤ byF p S 4) := Lib.hid (fun i hi => by
              rcases Nat.lt_or_ge i k with h1 | h1
              · exact HS.out i h1
              · rw [show i = k by omega, hTx, ← hy]; omega)
            have hgt' : decide (y < x) = false := by simpa using hgt
            clear hgt hy hTx hx
            go_wp2_with (go_at_call 153; refine (HB1.out _).mono ?_; rintro e w5 ⟨rfl, b5⟩)
            have HB5 := Lib.hid (HB2.out.trans (b5.mono HB2.out.size))
            clear b5
            go_roundw
            case rel => exact ⟨k + 1, hlt2, by go_num, HB5, HS1⟩
            case measure => simp [intOf]; omega
        · obtain rfl : k = P := by omega
          have HE := Lib.hid (HT.out ⟨HK.out, HS.out⟩)
          go_wp2
          go_ret
          exact ⟨by rw [HE.out]; rfl, HB.out.trans (HB2.out.mono HB.out.size)⟩

end Go.Proofs.Ytccbjgajmjcpjab

/-
  Chapter 9, the program: the core of bidders.
-/
namespace Go.Proofs.Ytccbjgajmjcpjab
open Go.RowKit

/-- What the bidders have of the best split. -/
noncomputable def owL (ts : List (List Int)) : List Int := vls (ow ts) ts.length
/-- What the others of each set pay at least. -/
noncomputable def leG (ts : List (List Int)) (o : Nat) : Int := ww ts (2 ^ ts.length - 1 - o) - byF (at0 (owL ts)) (2 ^ ts.length - 1 - o) 4
noncomputable def leL (ts : List (List Int)) : List Int := vls (leG ts) (2 ^ ts.length)
/-- A list filled from behind. -/
def fillB (f : Nat → Int) (P k : Nat) : List Int := vls (fun o => if P - k ≤ o then f o else 0) P
theorem fillB_len (f : Nat → Int) (P k : Nat) : (fillB f P k).length = P := vls_len _ _
theorem fillB_zero (f : Nat → Int) (P : Nat) : fillB f P 0 = List.replicate P 0 := by
  apply List.ext_getElem?
  intro i
  unfold fillB
  rcases Nat.lt_or_ge i P with h | h
  · rw [vls_at h, if_neg (by omega)]; simp [h]
  · rw [List.getElem?_eq_none (by rw [vls_len]; exact h), List.getElem?_eq_none (by simpa using h)]
theorem fillB_all (f : Nat → Int) (P : Nat) : fillB f P P = vls f P := vls_congr (fun i hi => by rw [if_pos (by omega)])
theorem fillB_set (f : Nat → Int) {P k : Nat} (h : k < P) : (fillB f P k).set (P - 1 - k) (f (P - 1 - k)) = fillB f P (k + 1) := by
  apply List.ext_getElem?
  intro i
  rcases Nat.lt_or_ge i P with hi | hi
  · rw [List.getElem?_set]
    by_cases he : P - 1 - k = i
    · rw [if_pos he, if_pos (by rw [fillB_len]; omega)]
      unfold fillB
      rw [vls_at hi, if_pos (by omega), he]
    · rw [if_neg he]
      unfold fillB
      rw [vls_at hi, vls_at hi]
      congr 1
      by_cases h1 : P - k ≤ i
      · rw [if_pos h1, if_pos (by omega)]
      · rw [if_neg h1, if_neg (by omega)]
  · rw [List.getElem?_eq_none (by rw [List.length_set, fillB_len]; exact hi), List.getElem?_eq_none (by rw [fillB_len]; exact hi)]

theorem rowx_set {w : World} {B T sz n : Nat} {v : Value} {xs : List Value} (h : w.ownsRow B T sz v n xs) {p : Addr} (u : Value) (hne : v.ownBlock ≠ some p.block) : (w.setCell p u).ownsRow B T sz v n xs := by
  refine ⟨h.1, ?_⟩
  rcases h.2 with h2 | ⟨g, cap, cur, hv, hg, hh, r⟩
  · exact .inl h2
  · refine .inr ⟨g, cap, cur, hv, hg, (Below.heap_setCell _ _ _ _ (fun e => hne ?_)).trans hh, r⟩
    rw [hv, e]; rfl
/-- Block m holds the core's six cells. -/
def Cb (w : World) (m : Nat) (vs : List Value) : Prop := vs.length = 6 ∧ w.heap[m]? = some (.cells vs.toArray 81)
theorem Cb.keep {w w' : World} {m : Nat} {vs : List Value} (h : Cb w m vs) (he : w'.heap[m]? = w.heap[m]?) : Cb w' m vs := ⟨h.1, he.trans h.2⟩
theorem Cb.lt {w : World} {m : Nat} {vs : List Value} (h : Cb w m vs) : m < w.heap.size := by
  rcases Nat.lt_or_ge m w.heap.size with h1 | h1
  · exact h1
  · have := h.2; rw [Array.getElem?_eq_none h1] at this; cases this
theorem Cb.below {w w' : World} {m : Nat} {vs : List Value} (h : Cb w m vs) (hb : Below w.heap.size w w') : Cb w' m vs := h.keep (hb.block m h.lt)
theorem Cb.cell {w : World} {m k : Nat} {vs : List Value} (h : Cb w m vs) {v : Value} (hv : vs[k]? = some v) : w.cell? ⟨m, k, none⟩ = some v := by
  unfold World.cell?
  rw [h.2]
  simpa using hv
theorem Cb.free {w : World} {m : Nat} {vs : List Value} (h : Cb w m vs) (k : Nat) : w.frozen? ⟨m, k, none⟩ = false := by
  unfold World.frozen?
  rw [h.2]
  simp
theorem Cb.set_ {w : World} {m k : Nat} {vs : List Value} (h : Cb w m vs) (v : Value) : Cb (w.setCell ⟨m, k, none⟩ v) m (vs.set k v) := by
  refine ⟨by rw [List.length_set]; exact h.1, ?_⟩
  simp only [World.setCell, Array.getElem?_modify, if_true, h.2]
  simp
theorem Cb.got {w : World} {m k : Nat} {vs : List Value} (h : Cb w m vs) (hk : k < 6) (v : Value) : (w.setCell ⟨m, k, none⟩ v).cell? ⟨m, k, none⟩ = some v :=
  (h.set_ v).cell (by rw [List.getElem?_set_self (by rw [h.1]; exact hk)])
theorem Cb.some_ {w : World} {m k : Nat} {vs : List Value} (h : Cb w m vs) (hk : k < 6) : ∃ v, w.cell? ⟨m, k, none⟩ = some v := ⟨vs[k]'(by rw [h.1]; exact hk), h.cell (List.getElem?_eq_getElem _)⟩

set_option maxRecDepth 100000 in
set_option maxHeartbeats 2000000 in
theorem coreOf_yes (A : Option Addr) (c n : Nat) (ts : List (List Int)) (w : World) (hn : ts.length = n) (h : RdR w A c ts) (hl2 : ∀ r ∈ ts, r.length ≤ 1099511627776) (hv : VTs ts) :
    Calls Try.prog 95 #[.slice A n c] w fun e w' => ∃ g, e = .returned (coV (at0 (owL ts)) (owL ts).sum (some ⟨g, 0, none⟩) (2 ^ n) (2 ^ n)) ∧ Own w' w.heap.size (some ⟨g, 0, none⟩) (2 ^ n) (leL ts) ∧ Below w.heap.size w w' := by
  have h4 : n ≤ 4 := by have := hv.1.2; omega
  have h1n : 1 ≤ n := by have := hv.1.1; omega
  obtain ⟨w0, hw0⟩ : ∃ w0, w0 = w.alloc (.cells #[.int .i64 0, .int .i64 0, .int .i64 0, .int .i64 0, .int .i64 0, .slice none 0 0] 81) := ⟨_, rfl⟩
  have HW0 := Lib.hid hw0
  have HB0 : Hid (Below w.heap.size w w0) := Lib.hid (by rw [hw0]; exact (Below.refl _ w).alloc (Nat.le_refl _) _)
  have HC0 : Hid (Cb w0 w.heap.size [.int .i64 0, .int .i64 0, .int .i64 0, .int .i64 0, .int .i64 0, .slice none 0 0]) := Lib.hid ⟨rfl, by rw [hw0]; exact heap_alloc_new w _⟩
  clear hw0
  have HBS := Lib.hid (BestSplit_yes A c n ts w0 hn (h.below HB0.out) hl2 hv)
  have HVT := Lib.hid hv
  have HPO := Lib.hid (fun (A1 : Option Addr) (c1 : Nat) (w1 : World) (h1 : Rd w1 A1 c1 (owL ts)) => paymentsOf_any A1 c1 n (owL ts) w1 (by unfold owL; rw [vls_len, hn]) h1 h4 (fun x hx => by
    unfold owL at hx
    obtain ⟨i, hi, rfl⟩ := List.mem_map.1 hx
    exact ow_bd hv.2 (List.mem_range.1 hi)))
  have HWS := Lib.hid (fun (w1 : World) (hb : Below w0.heap.size w0 w1) => worthsToSets_any A c n ts w1 hn ((h.below HB0.out).below hb) h4 hv.2)
  have hp16 := pow_len (n := n) h4
  have HLE : Hid (leL ts = vls (leG ts) (2 ^ n)) := Lib.hid (by unfold leL; rw [hn])
  have HOL : Hid ((owL ts) = vls (ow ts) n) := Lib.hid (by unfold owL; rw [hn])
  have HOB : Hid (∀ i, i < 4 → 0 ≤ at0 (owL ts) i ∧ at0 (owL ts) i ≤ 30) := Lib.hid (fun i _ => by
    unfold at0 owL
    by_cases hi : i < ts.length
    · rw [List.getD_eq_getElem?_getD, vls_at hi]; exact ow_bd hv.2 hi
    · rw [List.getD_eq_getElem?_getD, List.getElem?_eq_none (by rw [vls_len]; omega)]; simp)
  have HGE : Hid (∀ k, k < 2 ^ n → leG ts (2 ^ n - 1 - k) = ww ts k - byF (at0 (owL ts)) k 4) := Lib.hid (fun k hk => by
    unfold leG
    rw [hn, show 2 ^ n - 1 - (2 ^ n - 1 - k) = k by omega])
  have HWB : Hid (∀ S, 0 ≤ ww ts S ∧ ww ts S ≤ 120) := Lib.hid (fun S => ww_bd hv.2 (by omega) S)
  have HN := Lib.hid hn
  generalize leG ts = gL at *
  generalize at0 (owL ts) = mo at *
  generalize (owL ts).sum = sm at *
  rw [HLE.out]
  generalize 2 ^ n = P at *
  clear hn hv HLE
  go_enter Try.func95, Try.ntmps95
  go_wp2_with fail
  rw [← HW0.out]
  refine HBS.out.mono ?_
  rintro e w2 ⟨A2, c2, xs, M, rfl, o2, b2, ⟨_, hxs, hM⟩ | ⟨hno, _⟩⟩
  · have hxl : xs.length = n := by rw [hxs, setsF_len', HN.out]
    rw [hxl]
    obtain ⟨g2, rfl⟩ := own_some o2 (by omega)
    rw [HN.out] at hxs
    have HX0 := Lib.hid hxs
    clear hM
    go_wp2_with (at_make; refine wpList_make_ints rfl _ _ rfl w2.heap.size n rfl rfl (by omega) (by simp) ?_; intro w4 o4 b4)
    have HO4 : Hid (Own w4 w2.heap.size (some ⟨w2.heap.size, 0, none⟩) n (filled (owL ts) 0)) := Lib.hid (by rw [filled_zero, HOL.out, vls_len]; exact o4)
    have HS4 : Hid (Own w4 w0.heap.size (some ⟨g2, 0, none⟩) c2 (setsF (wayF ts) n)) := Lib.hid (by rw [← hxs]; exact o2.below b4)
    have HB4 := Lib.hid (b2.trans (b4.mono b2.size))
    have hg24 : g2 < w2.heap.size := o2.lt
    have hg02 : w0.heap.size ≤ g2 := (World.ownsRow.lt o2 g2 rfl).1
    clear o2 o4 b2 b4 hxs hxl
    go_loopw [24] (fun iv wr => ∃ k : Nat, k ≤ n ∧ iv = .int .i64 (k : Int) ∧ Hid (Own wr w2.heap.size (some ⟨w2.heap.size, 0, none⟩) n (filled (owL ts) k)) ∧ Hid (Own wr w0.heap.size (some ⟨g2, 0, none⟩) c2 (setsF (wayF ts) n)) ∧ Hid (Below w0.heap.size w0 wr)) (fun iv _ => n - (intOf iv).toNat)
    case atStart => exact ⟨0, Nat.zero_le _, rfl, HO4, HS4, HB4⟩
    case round =>
      obtain ⟨k, hk, rfl, HO, HS, HB⟩ := hrel
      by_cases hlt : k < n
      · obtain ⟨b, off, r, A', c', rfl, hr, hc, hcap, hrd⟩ := ((h.below HB0.out).below HB.out).at_ (k := k) (by rw [HN.out]; exact hlt)
        have hvt := HVT.out.2 r (List.mem_of_getElem? hr.out)
        obtain ⟨br, ofr, rfl⟩ := hrd.out.some_ hvt.1
        rw [hvt.1] at hc
        obtain ⟨s, hs⟩ : ∃ s, s = setOf (wayF ts) k := ⟨_, rfl⟩
        have hs8 : s < 8 := by rw [hs]; exact setOf_lt _ k
        obtain ⟨b3, o3, x, hA, hblx, hx, hcx⟩ := hrd.out.at_ (k := s) (by rw [hvt.1]; exact hs8)
        cases hA
        have hcs := HS.out.cell (show (setsF (wayF ts) n)[k]? = some (s : Int) by rw [setsF_at _ hlt, hs])
        have HOW : Hid ((owL ts)[k]? = some x) := Lib.hid (by
          rw [HOL.out, vls_at hlt]
          unfold ow
          rw [getD_row hr.out, ← hs, T_of hx.out])
        have hll : (owL ts).length = n := by rw [HOL.out, vls_len]
        have hjl : k < (filled (owL ts) k).length := by rw [filled_len _ _ (by rw [hll]; exact hk), hll]; exact hlt
        obtain ⟨y, hy⟩ := at_some hjl
        have hcy := HO.out.cell hy
        have hfy := HO.out.free k
        have HO' : Hid (Own (wr.setCell ⟨w2.heap.size, k, none⟩ (.int .i64 x)) w2.heap.size (some ⟨w2.heap.size, 0, none⟩) n (filled (owL ts) (k + 1))) := Lib.hid (by
          have h9 := HO.out.set_ k x
          rwa [filled_set _ _ _ HOW.out] at h9)
        have hst : wr.grownBy (wr.setCell ⟨w2.heap.size, k, none⟩ (.int .i64 x)) (some w2.heap.size) := (World.ownsRow.stored HO.out k (.int .i64 x)).2
        have HS' : Hid (Own (wr.setCell ⟨w2.heap.size, k, none⟩ (.int .i64 x)) w0.heap.size (some ⟨g2, 0, none⟩) c2 (setsF (wayF ts) n)) := Lib.hid (HS.out.kept_ (A2 := some ⟨w2.heap.size, 0, none⟩) hst (.inr (fun e => by have := Option.some.inj e; simp at this; omega)))
        have HB' : Hid (Below w0.heap.size w0 (wr.setCell ⟨w2.heap.size, k, none⟩ (.int .i64 x))) := Lib.hid (HB.out.setCell (p := ⟨w2.heap.size, k, none⟩) (by show w0.heap.size ≤ w2.heap.size; omega) _)
        have hs0 : (0 : Int) ≤ (s : Int) := by omega
        have hs7 : (s : Int) < 8 := by omega
        have hk0 : (0 : Int) ≤ (k : Int) := by omega
        have hkn : (k : Int) < (n : Int) := by omega
        clear hs hr hrd hvt hx hblx hcap hy hjl hll hst
        go_wp2
        go_roundw
        case rel => exact ⟨k + 1, hlt, by go_num, HO', HS', HB'⟩
        case measure => simp [intOf]; omega
      · obtain rfl : k = n := by omega
        have HOE : Hid (Own wr w2.heap.size (some ⟨w2.heap.size, 0, none⟩) k (owL ts)) := Lib.hid (by
          have h1 := filled_all (owL ts)
          rw [show (owL ts).length = k by rw [HOL.out, vls_len]] at h1
          have h2 := HO.out
          rwa [h1] at h2)
        have HP1 := Lib.hid (HPO.out (some ⟨w2.heap.size, 0, none⟩) k wr HOE.out.rd)
        have HCb := Lib.hid ((HC0.out.below HB.out))
        clear HO HS HOE
        go_wp2_with fail
        refine HP1.out.mono ?_
        rintro e w5 ⟨rfl, b5⟩
        unfold pmV
        have HB5 := Lib.hid (HB.out.trans (b5.mono HB.out.size))
        clear b5
        obtain ⟨v5, hv5⟩ : ∃ v5, v5 = w5.alloc (.cells #[.int .i64 (mo 0), .int .i64 (mo 1), .int .i64 (mo 2), .int .i64 (mo 3), .int .i64 sm] 79) := ⟨_, rfl⟩
        have HV5 := Lib.hid hv5
        have HPM : Hid (Pm v5 w5.heap.size [mo 0, mo 1, mo 2, mo 3, sm]) := Lib.hid (by rw [hv5]; exact Pm.new w5 [mo 0, mo 1, mo 2, mo 3, sm] rfl)
        have HBV : Hid (Below w0.heap.size w0 v5) := Lib.hid (by rw [hv5]; exact HB5.out.alloc HB5.out.size _)
        have hsz5 : w5.heap.size < v5.heap.size := HPM.out.lt
        clear hv5
        go_wp2_with fail
        rw [← HV5.out]
        refine (HWS.out v5 HBV.out).mono ?_
        rintro e w6 ⟨g6, c6, rfl, o6, b6⟩
        have HB6 := Lib.hid (HBV.out.trans (b6.mono HBV.out.size))
        have hsz6 : v5.heap.size ≤ w6.heap.size := b6.size
        have HPM6 := Lib.hid (HPM.out.keep (b6.block _ hsz5))
        go_wp2_with (at_make; refine wpList_make_ints rfl _ _ rfl w6.heap.size P rfl rfl (by omega) (by simp) ?_; intro w7 o7 b7)
        have HO7 : Hid (Own w7 w6.heap.size (some ⟨w6.heap.size, 0, none⟩) P (fillB gL P 0)) := Lib.hid (by rw [fillB_zero]; exact o7)
        have HS7 : Hid (Own w7 v5.heap.size (some ⟨g6, 0, none⟩) c6 (vls (fun S => ww ts S) P)) := Lib.hid (o6.below b7)
        have HB7 := Lib.hid (HB6.out.trans (b7.mono HB6.out.size))
        have HPM7 := Lib.hid (HPM6.out.keep (b7.block _ (by omega)))
        have hg6 : g6 < w6.heap.size := o6.lt
        have hsz0 : w0.heap.size ≤ w5.heap.size := HB5.out.size
        clear o6 o7 b6 b7
        have HBY := Lib.hid (fun (S : Nat) (hS : S < P) (w1 : World) => by_any mo sm S w1 (by omega) HOB.out)
        unfold pmV at HBY
        have HYB := Lib.hid (fun (S : Nat) => byF_bd S HOB.out 4 (by omega))
        go_loopw [49] (fun iv wr => ∃ j : Nat, j ≤ P ∧ iv = .int .i64 (j : Int) ∧ Hid (Own wr w6.heap.size (some ⟨w6.heap.size, 0, none⟩) P (fillB gL P j)) ∧ Hid (Own wr v5.heap.size (some ⟨g6, 0, none⟩) c6 (vls (fun S => ww ts S) P)) ∧ Hid (Pm wr w5.heap.size [mo 0, mo 1, mo 2, mo 3, sm]) ∧ Hid (Below w0.heap.size w0 wr)) (fun iv _ => P - (intOf iv).toNat)
        case atStart => exact ⟨0, Nat.zero_le _, rfl, HO7, HS7, HPM7, HB7⟩
        case round =>
          obtain ⟨j, hj, rfl, HO, HS, HPr, HB⟩ := hrel
          by_cases hlt2 : j < P
          · have hcw := HS.out.cell (vls_at (f := fun S => ww ts S) hlt2)
            have hwb := HWB.out j
            have hyb := HYB.out j
            have hge := HGE.out j hlt2
            obtain ⟨x, hx⟩ : ∃ x, x = ww ts j := ⟨_, rfl⟩
            obtain ⟨y, hy⟩ : ∃ y, y = byF mo j 4 := ⟨_, rfl⟩
            rw [← hx] at hcw hwb hge
            rw [← hy] at hyb hge
            have HGJ := Lib.hid hge
            have HB1 := Lib.hid (HBY.out j hlt2)
            rw [← hy] at HB1
            obtain ⟨q0, q1, q2, q3, q4⟩ := HPr.out.all
            simp only [show T [mo 0, mo 1, mo 2, mo 3, sm] 0 = mo 0 from rfl, show T [mo 0, mo 1, mo 2, mo 3, sm] 1 = mo 1 from rfl, show T [mo 0, mo 1, mo 2, mo 3, sm] 2 = mo 2 from rfl, show T [mo 0, mo 1, mo 2, mo 3, sm] 3 = mo 3 from rfl, show T [mo 0, mo 1, mo 2, mo 3, sm] 4 = sm from rfl] at q0 q1 q2 q3 q4
            have e1 : IntKind.i64.wrap ((P : Int) - 1) = (P : Int) - 1 := IntWalk.i64_in _ (by omega)
            have e2 : IntKind.i64.wrap ((P : Int) - 1 - (j : Int)) = ((P - 1 - j : Nat) : Int) := by rw [show (P : Int) - 1 - (j : Int) = ((P - 1 - j : Nat) : Int) by omega]; exact IntWalk.i64_in _ (by omega)
            have e3 : IntKind.i64.wrap (x - y) = x - y := IntWalk.i64_in _ (by omega)
            obtain ⟨o, ho⟩ : ∃ o, o = P - 1 - j := ⟨_, rfl⟩
            have hoP : o < P := by omega
            rw [← ho] at e2 HGJ
            have HFS : Hid ((fillB gL P j).set o (x - y) = fillB gL P (j + 1)) := Lib.hid (by rw [← HGJ.out, ho]; exact fillB_set gL hlt2)
            have hjl : o < (fillB gL P j).length := by rw [fillB_len]; exact hoP
            obtain ⟨z, hz⟩ := at_some hjl
            have HZ := Lib.hid hz
            have ho0 : (0 : Int) ≤ (o : Int) := by omega
            have hoP' : (o : Int) < (P : Int) := by omega
            have hj0 : (0 : Int) ≤ (j : Int) := by omega
            have hjP : (j : Int) < (P : Int) := by omega
            clear hx hy hge ho hz hjl hwb hyb
            go_wp2_with (go_at_call 153; refine (HB1.out _).mono ?_; rintro e w8 ⟨rfl, b8⟩; have HO8 := Lib.hid (HO.out.below b8); have hc8 := HO8.out.cell HZ.out; have hf8 := HO8.out.free o; have HST := Lib.hid (HO8.out.set_ o (x - y)); have hst := (World.ownsRow.stored HO8.out o (.int .i64 (x - y))).2; have HS8 : Hid (Own (w8.setCell ⟨w6.heap.size, o, none⟩ (.int .i64 (x - y))) v5.heap.size (some ⟨g6, 0, none⟩) c6 (vls (fun S => ww ts S) P)) := Lib.hid ((HS.out.below b8).kept_ (A2 := some ⟨w6.heap.size, 0, none⟩) hst (.inr (fun e => by have := Option.some.inj e; simp at this; omega))); have HP8 : Hid (Pm (w8.setCell ⟨w6.heap.size, o, none⟩ (.int .i64 (x - y))) w5.heap.size [mo 0, mo 1, mo 2, mo 3, sm]) := Lib.hid ((HPr.out.keep (b8.block _ HPr.out.lt)).other (by omega)); have HB8 : Hid (Below w0.heap.size w0 (w8.setCell ⟨w6.heap.size, o, none⟩ (.int .i64 (x - y)))) := Lib.hid ((HB.out.trans (b8.mono HB.out.size)).setCell (p := ⟨w6.heap.size, o, none⟩) (by show w0.heap.size ≤ w6.heap.size; omega) _); clear b8 hst)
            rw [HFS.out] at HST
            go_roundw
            case rel => exact ⟨j + 1, hlt2, by go_num, HST, HS8, HP8, HB8⟩
            case measure => simp [intOf]; omega
          · obtain rfl : j = P := by omega
            have HOE : Hid (Own wr w6.heap.size (some ⟨w6.heap.size, 0, none⟩) j (vls gL j)) := Lib.hid (by have := HO.out; rwa [fillB_all] at this)
            have HCf := Lib.hid (HC0.out.below HB.out)
            obtain ⟨q0, q1, q2, q3, q4⟩ := HPr.out.all
            simp only [show T [mo 0, mo 1, mo 2, mo 3, sm] 0 = mo 0 from rfl, show T [mo 0, mo 1, mo 2, mo 3, sm] 1 = mo 1 from rfl, show T [mo 0, mo 1, mo 2, mo 3, sm] 2 = mo 2 from rfl, show T [mo 0, mo 1, mo 2, mo 3, sm] 3 = mo 3 from rfl, show T [mo 0, mo 1, mo 2, mo 3, sm] 4 = sm from rfl] at q0 q1 q2 q3 q4
            have hc := HCf.out
            have f0 := hc.free 0
            have f1 := hc.free 1
            have f2 := hc.free 2
            have f3 := hc.free 3
            have f4 := hc.free 4
            have f5 := hc.free 5
            have r0 := hc.cell (k := 0) rfl
            have r1 := hc.cell (k := 1) rfl
            have r2 := hc.cell (k := 2) rfl
            have r3 := hc.cell (k := 3) rfl
            have r4 := hc.cell (k := 4) rfl
            have r5 := hc.cell (k := 5) rfl
            have a0 := hc.set_ (k := 0) (.int .i64 (mo 0))
            have s0 := hc.got (k := 0) (by omega) (.int .i64 (mo 0))
            have a1 := a0.set_ (k := 1) (.int .i64 (mo 1))
            have s1 := a0.got (k := 1) (by omega) (.int .i64 (mo 1))
            have a2 := a1.set_ (k := 2) (.int .i64 (mo 2))
            have s2 := a1.got (k := 2) (by omega) (.int .i64 (mo 2))
            have a3 := a2.set_ (k := 3) (.int .i64 (mo 3))
            have s3 := a2.got (k := 3) (by omega) (.int .i64 (mo 3))
            have a4 := a3.set_ (k := 4) (.int .i64 sm)
            have s4 := a3.got (k := 4) (by omega) (.int .i64 sm)
            have s5 := a4.got (k := 5) (by omega) (.slice (some ⟨w6.heap.size, 0, none⟩) j j)
            have hw0s : w.heap.size < w0.heap.size := HC0.out.lt
            have hst : ∀ (W : World) (k : Nat) (v : Value), Own W w6.heap.size (some ⟨w6.heap.size, 0, none⟩) j (vls gL j) → Own (W.setCell ⟨w.heap.size, k, none⟩ v) w6.heap.size (some ⟨w6.heap.size, 0, none⟩) j (vls gL j) := fun W k v hO => by
              unfold Own at hO ⊢
              exact rowx_set hO _ (by intro e; injection e with e; simp only at e; omega)
            have HFO : Hid (Own ((((((wr.setCell ⟨w.heap.size, 0, none⟩ (.int .i64 (mo 0))).setCell ⟨w.heap.size, 1, none⟩ (.int .i64 (mo 1))).setCell ⟨w.heap.size, 2, none⟩ (.int .i64 (mo 2))).setCell ⟨w.heap.size, 3, none⟩ (.int .i64 (mo 3))).setCell ⟨w.heap.size, 4, none⟩ (.int .i64 sm)).setCell ⟨w.heap.size, 5, none⟩ (.slice (some ⟨w6.heap.size, 0, none⟩) j j)) w.heap.size (some ⟨w6.heap.size, 0, none⟩) j (vls gL j)) := Lib.hid ((hst _ _ _ (hst _ _ _ (hst _ _ _ (hst _ _ _ (hst _ _ _ (hst _ _ _ HOE.out)))))).base (by omega))
            have HFB : Hid (Below w.heap.size w ((((((wr.setCell ⟨w.heap.size, 0, none⟩ (.int .i64 (mo 0))).setCell ⟨w.heap.size, 1, none⟩ (.int .i64 (mo 1))).setCell ⟨w.heap.size, 2, none⟩ (.int .i64 (mo 2))).setCell ⟨w.heap.size, 3, none⟩ (.int .i64 (mo 3))).setCell ⟨w.heap.size, 4, none⟩ (.int .i64 sm)).setCell ⟨w.heap.size, 5, none⟩ (.slice (some ⟨w6.heap.size, 0, none⟩) j j))) := Lib.hid (below_al4p (below_al4p (below_al4p (below_al4p (below_al4p (below_al4p (HB0.out.trans (HB.out.mono HB0.out.size))))))))
            clear hc a0 a1 a2 a3 a4 hst HO HS HB
            go_wp2
            refine bodyPost_ret (by simp [results, Try.results95, go_sem, s0, s1, s2, s3, s4, s5]; try rfl) rfl ?_
            exact ⟨w6.heap.size, rfl, HFO.out, HFB.out⟩
  · exact absurd HVT.out hno

end Go.Proofs.Ytccbjgajmjcpjab

/-
  Chapter 9, the program: InCore.
-/
namespace Go.Proofs.Ytccbjgajmjcpjab
open Go.RowKit

/-- Numbers that up to four bidders may pay. -/
def pyB (xs : List Int) : Bool := inR xs.length 1 4 && xs.all (fun x => inR x 0 30)
theorem pyB_bad {xs : List Int} (h : xs.all (fun x => inR x 0 30) = false) : pyB xs = false := by simp only [pyB, h, Bool.and_false]
theorem pyB_all {xs : List Int} (h : (xs.take xs.length).all (fun x => inR x 0 30) = true) : pyB xs = inR xs.length 1 4 := by
  rw [List.take_length] at h; simp only [pyB, h, Bool.and_true]
theorem pyB_len {xs : List Int} (h : inR xs.length 1 4 = false) : pyB xs = false := by simp only [pyB, h, Bool.false_and]

set_option maxHeartbeats 400000 in
/-- areAll at what bidders pay. -/
theorem arePays_any (A : Option Addr) (c : Nat) (xs : List Int) (w : World) (h : Rd w A c xs) (hl : xs.length ≤ 1099511627776) :
    Calls Try.prog 93 #[.slice A xs.length c, .int .i64 4, .func (.func 94) #[] #[]] w fun e w' => e = .returned (.bool (pyB xs)) ∧ w = w' := by
  by_cases h1 : 1 ≤ xs.length
  · by_cases h2 : xs.length ≤ 4
    · have HR := Lib.hid (inR_true (n := (xs.length : Int)) (lo := 1) (hi := 4) |>.2 ⟨by omega, by omega⟩)
      go_enter Try.func93, Try.ntmps93
      go_wp2
      go_loop [20] (fun i => ∃ k : Nat, k ≤ xs.length ∧ i = .int .i64 k ∧ Hid ((xs.take k).all (fun x => inR x 0 30) = true)) (fun i => xs.length - (intOf i).toNat)
      case atStart => exact ⟨0, Nat.zero_le _, rfl, Lib.hid rfl⟩
      case round =>
        obtain ⟨k, hk, rfl, HT⟩ := hrel
        by_cases hlt : k < xs.length
        · obtain ⟨b, off, x, rfl, _, hx, hc⟩ := h.at_ hlt
          go_wp2_with fail
          refine (isBid_any _ _).mono ?_
          rintro e w' ⟨rfl, rfl⟩
          cases hb : inR x 0 30 with
          | true =>
            have HT' := Lib.hid (all_step hx.out hb HT.out)
            clear hb
            go_wp2
            go_round
            case rel => exact ⟨k + 1, by omega, by go_num, HT'⟩
            case measure => simp [intOf]; omega
          | false =>
            have HE := Lib.hid (pyB_bad (all_at (p := fun x => inR x 0 30) hx.out hb))
            clear hb
            go_wp2
            go_ret
            exact ⟨by rw [HE.out]; rfl, rfl⟩
        · obtain rfl : k = xs.length := by omega
          have HE := Lib.hid (pyB_all HT.out)
          go_wp2
          go_ret
          exact ⟨by rw [HE.out, HR.out]; rfl, rfl⟩
    · have HE := Lib.hid (pyB_len (inR_false (n := (xs.length : Int)) (lo := 1) (hi := 4) |>.2 (by omega)))
      go_enter Try.func93, Try.ntmps93
      go_wp2
      go_ret
      exact ⟨by rw [HE.out]; rfl, rfl⟩
  · have HE := Lib.hid (pyB_len (inR_false (n := (xs.length : Int)) (lo := 1) (hi := 4) |>.2 (by omega)))
    go_enter Try.func93, Try.ntmps93
    go_wp2
    go_ret
    exact ⟨by rw [HE.out]; rfl, rfl⟩


set_option maxRecDepth 100000 in
theorem co_bits : ∀ n, n < 5 → ∀ S, S < 2 ^ n → ∀ k, k < 4 → ((2 ^ n - 1 - S) / 2 ^ k % 2 = if k < n then 1 - S / 2 ^ k % 2 else 0) ∧ (k < n ∨ S / 2 ^ k % 2 = 0) := by decide +kernel
theorem by_hv {o p : Nat → Int} {n S : Nat} (hn : n ≤ 4) (hS : S < 2 ^ n) : ∀ k, k ≤ n → byF o S k + byF p (2 ^ n - 1 - S) k = hv o p S k
  | 0, _ => rfl
  | k + 1, hk => by
    have ih := by_hv (o := o) (p := p) hn hS k (by omega)
    have hb := (co_bits n (by omega) S hS k (by omega)).1
    rw [if_pos (by omega)] at hb
    simp only [byF, hv, hb]
    rw [← ih]
    by_cases h1 : S / 2 ^ k % 2 = 1
    · rw [if_pos h1, if_pos h1, if_neg (by omega)]; omega
    · rw [if_neg h1, if_neg h1, if_pos (by omega)]; omega
theorem by_up {o : Nat → Int} {n S : Nat} (hn : n ≤ 4) (hS : S < 2 ^ n) : byF o S 4 = byF o S n := by
  have key : ∀ d, n + d ≤ 4 → byF o S (n + d) = byF o S n := by
    intro d
    induction d with
    | zero => intro _; rfl
    | succ d ih =>
      intro hd
      have hb := (co_bits n (by omega) S hS (n + d) (by omega)).2.resolve_left (by omega)
      show byF o S (n + d + 1) = _
      simp only [byF]
      rw [if_neg (by omega), ih (by omega)]; omega
  have := key (4 - n) (by omega)
  rwa [show n + (4 - n) = 4 by omega] at this
theorem at0_owL (ts : List (List Int)) {i : Nat} (h : i < ts.length) : at0 (owL ts) i = ow ts i := by
  unfold at0 owL; rw [List.getD_eq_getElem?_getD, vls_at h]; rfl
theorem at0_out {xs : List Int} {i : Nat} (h : xs.length ≤ i) : at0 xs i = 0 := by
  unfold at0; rw [List.getD_eq_getElem?_getD, List.getElem?_eq_none h]; rfl
theorem owL_len (ts : List (List Int)) : (owL ts).length = ts.length := vls_len _ _
theorem leL_at (ts : List (List Int)) {o : Nat} (h : o < 2 ^ ts.length) : T (leL ts) o = leG ts o := T_of (vls_at h)
theorem leL_len (ts : List (List Int)) : (leL ts).length = 2 ^ ts.length := vls_len _ _
/-- What has asks is to be in the core. -/
theorem has_iff {ts : List (List Int)} {pays : List Int} (h4 : ts.length ≤ 4) (hl : pays.length = ts.length) : HasP (at0 (owL ts)) (at0 pays) (leL ts) (2 ^ ts.length) ↔ InC ts (at0 pays) := by
  have hp := (pow_len h4).1
  have e1 : ∀ S, S < 2 ^ ts.length → byF (at0 (owL ts)) S 4 + byF (at0 pays) (2 ^ ts.length - 1 - S) 4 = hv (ow ts) (at0 pays) S ts.length := fun S hS => by
    rw [by_up h4 hS, by_up h4 (show 2 ^ ts.length - 1 - S < 2 ^ ts.length by omega), by_hv h4 hS _ (Nat.le_refl _)]
    exact hv_congr (fun i hi => at0_owL ts hi) (fun _ _ => rfl)
  constructor
  · rintro ⟨h1, h2⟩
    refine ⟨fun i hi => by rw [← at0_owL ts hi]; exact h1 i (by omega), fun S hS => ?_⟩
    have h3 := h2 (2 ^ ts.length - 1 - S) (by omega)
    rw [leL_at ts (by omega)] at h3
    unfold leG at h3
    rw [show 2 ^ ts.length - 1 - (2 ^ ts.length - 1 - S) = S by omega] at h3
    rw [← e1 S hS]; omega
  · rintro ⟨h1, h2⟩
    refine ⟨fun i hi => ?_, fun S hS => ?_⟩
    · rcases Nat.lt_or_ge i ts.length with h3 | h3
      · rw [at0_owL ts h3]; exact h1 i h3
      · rw [at0_out (by omega), at0_out (by rw [owL_len]; exact h3)]; exact Int.le_refl _
    · have h3 := h2 (2 ^ ts.length - 1 - S) (by omega)
      rw [← e1 _ (by omega), show 2 ^ ts.length - 1 - (2 ^ ts.length - 1 - S) = S by omega] at h3
      rw [leL_at ts hS]
      unfold leG
      omega

/-- What InCore tells. -/
def InB (ts : List (List Int)) (pays : List Int) : Prop := VTs ts ∧ pays.length = ts.length ∧ (∀ x ∈ pays, 0 ≤ x ∧ x ≤ 30) ∧ InC ts (at0 pays)
noncomputable def inB (ts : List (List Int)) (pays : List Int) : Bool := @decide (InB ts pays) (Classical.propDecidable _)
theorem inB_true {ts : List (List Int)} {pays : List Int} (h : InB ts pays) : inB ts pays = true := by unfold inB; simp [h]
theorem inB_false {ts : List (List Int)} {pays : List Int} (h : ¬ InB ts pays) : inB ts pays = false := by unfold inB; simp [h]
theorem inB_iff {ts : List (List Int)} {pays : List Int} : inB ts pays = true ↔ InB ts pays := by unfold inB; simp
theorem pyB_iff {xs : List Int} : pyB xs = true ↔ (1 ≤ xs.length ∧ xs.length ≤ 4) ∧ ∀ x ∈ xs, 0 ≤ x ∧ x ≤ 30 := by
  unfold pyB
  rw [Bool.and_eq_true, inR_true, List.all_eq_true]
  constructor
  · rintro ⟨h1, h2⟩; exact ⟨by omega, fun x hx => inR_true.1 (h2 x hx)⟩
  · rintro ⟨h1, h2⟩; exact ⟨by omega, fun x hx => inR_true.2 (h2 x hx)⟩

set_option maxRecDepth 100000 in
set_option maxHeartbeats 1000000 in
theorem InCore_any (A B : Option Addr) (c d : Nat) (ts : List (List Int)) (pays : List Int) (w : World) (h : RdR w A c ts) (g : Rd w B d pays) (hl2 : ∀ r ∈ ts, r.length ≤ 1099511627776) (hpl : pays.length ≤ 1099511627776) :
    Calls Try.prog 31 #[.slice A ts.length c, .slice B pays.length d] w fun e w' => e = .returned (.bool (inB ts pays)) ∧ Below w.heap.size w w' := by
  have HC := Lib.hid (areTables_any A c ts w h hl2)
  rcases hb : vtsB ts with _ | _
  · have HE : Hid (inB ts pays = false) := Lib.hid (inB_false (fun h => by rw [vtsB_true h.1] at hb; cases hb))
    rw [hb] at HC
    clear hb
    go_enter Try.func31, Try.ntmps31
    go_wp2_with (go_at_call 68; refine HC.out.mono ?_; rintro e w1 ⟨rfl, hb⟩)
    go_ret
    exact ⟨by rw [HE.out]; rfl, hb⟩
  · rw [hb] at HC
    have hv := vtsB_iff.1 hb
    clear hb
    by_cases hl : pays.length = ts.length
    · have HA := Lib.hid (fun (w1 : World) (hb : Below w.heap.size w w1) => arePays_any B d pays w1 (g.below hb) hpl)
      obtain ⟨n, hn⟩ : ∃ n, n = ts.length := ⟨_, rfl⟩
      have h4 : n ≤ 4 := by have := hv.1.2; omega
      rcases hp : pyB pays with _ | _
      · have HE : Hid (inB ts pays = false) := Lib.hid (inB_false (fun h => by
          rw [pyB_iff.2 ⟨⟨by have := h.1.1.1; omega, by omega⟩, h.2.2.1⟩] at hp; cases hp))
        rw [hp, hl, ← hn] at HA
        rw [← hn] at HC
        rw [hl, ← hn]
        clear hp hn hv hl
        go_enter Try.func31, Try.ntmps31
        go_wp2_with (first
          | (go_at_call 68; refine HC.out.mono ?_; rintro e w1 ⟨rfl, hb⟩; have HB1 := Lib.hid hb; clear hb)
          | (go_at_call 93; refine (HA.out _ HB1.out).mono ?_; rintro e w2 ⟨rfl, rfl⟩))
        go_ret
        exact ⟨by rw [HE.out]; rfl, HB1.out⟩
      · have hpx := pyB_iff.1 hp
        have HE : Hid (inB ts pays = hasB (at0 (owL ts)) (at0 pays) (leL ts) (2 ^ n)) := Lib.hid (by
          have hi := has_iff hv.1.2 hl
          rw [← hn] at hi
          by_cases hh : InC ts (at0 pays)
          · rw [inB_true ⟨hv, hl, hpx.2, hh⟩, hasB_true (hi.2 hh)]
          · rw [inB_false (fun h => hh h.2.2.2), hasB_false (fun h => hh (hi.1 h))])
        have HCO := Lib.hid (fun (w1 : World) (hb : Below w.heap.size w w1) => coreOf_yes A c n ts w1 hn.symm (h.below hb) hl2 hv)
        have HPO := Lib.hid (fun (w1 : World) (hb : Below w.heap.size w w1) => paymentsOf_any B d n pays w1 (by omega) (g.below hb) h4 hpx.2)
        have HPB : Hid (∀ i, i < 4 → 0 ≤ at0 pays i ∧ at0 pays i ≤ 30) := Lib.hid (fun i _ => by
          by_cases hi : i < pays.length
          · unfold at0; rw [List.getD_eq_getElem?_getD, List.getElem?_eq_getElem hi]; exact hpx.2 _ (List.getElem_mem hi)
          · rw [at0_out (by omega)]; omega)
        have HLL : Hid ((leL ts).length = 2 ^ n) := Lib.hid (by rw [leL_len, hn])
        have hp16 := pow_len h4
        rw [hp, hl, ← hn] at HA
        rw [← hn] at HC
        rw [hl, ← hn]
        generalize 2 ^ n = P at *
        have HHS := Lib.hid (fun (g7 : Nat) (w1 : World) (h1 : Rd w1 (some ⟨g7, 0, none⟩) P (leL ts)) => has_any (at0 (owL ts)) (at0 pays) (owL ts).sum pays.sum (some ⟨g7, 0, none⟩) P P (leL ts) w1 h1 HLL.out hp16.2 HPB.out)
        generalize leL ts = ll at *
        generalize at0 (owL ts) = mo at *
        generalize (owL ts).sum = sm at *
        generalize at0 pays = pa at *
        generalize pays.sum = ps at *
        clear hp hn hv hl hpx
        go_enter Try.func31, Try.ntmps31
        go_wp2_with (first
          | (go_at_call 68; refine HC.out.mono ?_; rintro e w1 ⟨rfl, hb⟩; have HB1 := Lib.hid hb; clear hb)
          | (go_at_call 93; refine (HA.out _ HB1.out).mono ?_; rintro e w2 ⟨rfl, rfl⟩)
          | (go_at_call 95; refine (HCO.out _ HB1.out).mono ?_; rintro e w3 ⟨g7, rfl, o3, b3⟩; have HR3 := Lib.hid o3.rd; have HB3 := Lib.hid (HB1.out.trans (b3.mono HB1.out.size)); clear o3 b3)
          | (go_at_call 97; refine (HPO.out _ HB3.out).mono ?_; rintro e w4 ⟨rfl, b4⟩; have HR4 := Lib.hid (HR3.out.below b4); have HB4 := Lib.hid (HB3.out.trans (b4.mono HB3.out.size)); clear b4)
          | (go_at_call 96; refine (HHS.out g7 _ HR4.out).mono ?_; rintro e w5 ⟨rfl, b5⟩))
        go_ret
        exact ⟨by rw [HE.out]; rfl, HB4.out.trans (b5.mono HB4.out.size)⟩
    · have HE : Hid (inB ts pays = false) := Lib.hid (inB_false (fun h => hl h.2.1))
      have hne : ((pays.length : Int) != (ts.length : Int)) = true := by simp; omega
      clear hv hl
      go_enter Try.func31, Try.ntmps31
      go_wp2_with (go_at_call 68; refine HC.out.mono ?_; rintro e w1 ⟨rfl, hb⟩)
      go_ret
      exact ⟨by rw [HE.out]; rfl, hb⟩

end Go.Proofs.Ytccbjgajmjcpjab

/-
  Chapter 9, the model: InCore.
-/
namespace Go.Proofs.Ytccbjgajmjcpjab
open Go.RowKit

theorem all30_bad {xs : List Int} {k : Nat} {x : Int} (hx : xs[k]? = some x) (hb : inR x 0 30 = false) : ¬ ∀ x ∈ xs, 0 ≤ x ∧ x ≤ 30 := fun h => by
  have := h x (List.mem_of_getElem? hx)
  rw [inR_true.2 this] at hb; cases hb

/-- What validPays tells. -/
def VpP (ts : List (List Int)) (pays : List Int) : Prop := VTs ts ∧ pays.length = ts.length ∧ ∀ x ∈ pays, 0 ≤ x ∧ x ≤ 30
noncomputable def vpB (ts : List (List Int)) (pays : List Int) : Bool := @decide (VpP ts pays) (Classical.propDecidable _)
theorem vpB_true {ts : List (List Int)} {pays : List Int} (h : VpP ts pays) : vpB ts pays = true := by unfold vpB; simp [h]
theorem vpB_false {ts : List (List Int)} {pays : List Int} (h : ¬ VpP ts pays) : vpB ts pays = false := by unfold vpB; simp [h]
theorem all30_step {xs : List Int} {k : Nat} {x : Int} (hx : xs[k]? = some x) (hb : inR x 0 30 = true) (h : ∀ y ∈ xs.take k, 0 ≤ y ∧ y ≤ 30) : ∀ y ∈ xs.take (k + 1), 0 ≤ y ∧ y ≤ 30 := fun y hy => by
  rw [List.take_add_one, hx] at hy
  rcases List.mem_append.1 hy with h1 | h1
  · exact h y h1
  · simp at h1; rw [h1]; exact inR_true.1 hb

set_option maxHeartbeats 1000000 in
theorem SvalidPays_any (A B : Option Addr) (c d : Nat) (ts : List (List Int)) (pays : List Int) (w : World) (h : RdR w A c ts) (g : Rd w B d pays) (hl : ts.length ≤ 1099511627776) (hl2 : ∀ r ∈ ts, r.length ≤ 1099511627776) (hpl : pays.length ≤ 1099511627776) :
    Calls Try.prog 127 #[.slice A ts.length c, .slice B pays.length d] w fun e w' => e = .returned (.bool (vpB ts pays)) ∧ ∃ q, w' = w.drewN q := by
  have HC := Lib.hid (SvalidTables_any A c ts w h hl hl2)
  have HVB := Lib.hid (@vtsB_iff ts)
  clear h
  go_enter Try.func127, Try.ntmps127
  go_wp2
  go_loop [5] (fun i => ∃ k : Nat, k ≤ pays.length ∧ i = .int .i64 (k : Int) ∧ Hid (∀ y ∈ pays.take k, 0 ≤ y ∧ y ≤ 30)) (fun i => pays.length - (intOf i).toNat)
  case atStart => exact ⟨0, Nat.zero_le _, rfl, Lib.hid (fun y hy => by simp at hy)⟩
  case round =>
    obtain ⟨k, hk, rfl, HT⟩ := hrel
    by_cases hlt : k < pays.length
    · obtain ⟨b, off, x, rfl, _, hx, hc⟩ := g.at_ hlt
      have HR := Lib.hid (fun w1 => inRange_any x 0 30 w1)
      rcases hb : inR x 0 30 with _ | _
      · have HE : Hid (vpB ts pays = false) := Lib.hid (vpB_false (fun hv => all30_bad hx.out hb hv.2.2))
        rw [hb] at HR
        clear hb hx
        go_wp2_with (go_at_call 115; refine (HR.out _).mono ?_; rintro e w' ⟨rfl, rfl⟩)
        go_ret
        exact ⟨by rw [HE.out]; rfl, 0, rfl⟩
      · have HT' := Lib.hid (all30_step hx.out hb HT.out)
        rw [hb] at HR
        clear hb hx
        go_wp2_with (go_at_call 115; refine (HR.out _).mono ?_; rintro e w' ⟨rfl, rfl⟩)
        go_round
        case rel => exact ⟨k + 1, by omega, by go_num, HT'⟩
        case measure => simp [intOf]; omega
    · obtain rfl : k = pays.length := by omega
      have ht := HT.out
      rw [List.take_length] at ht
      have HT2 := Lib.hid ht
      clear ht HT
      rcases hb : vtsB ts with _ | _
      · have HE : Hid (vpB ts pays = false) := Lib.hid (vpB_false (fun hv => by rw [HVB.out.2 hv.1] at hb; cases hb))
        rw [hb] at HC
        clear hb HVB
        go_wp2_with (go_at_call 70; refine HC.out.mono ?_; rintro e w' ⟨rfl, q, rfl⟩)
        go_ret
        exact ⟨by rw [HE.out]; rfl, _, rfl⟩
      · have hv := HVB.out.1 hb
        rw [hb] at HC
        by_cases hl : pays.length = ts.length
        · have HE : Hid (vpB ts pays = true) := Lib.hid (vpB_true ⟨hv, hl, HT2.out⟩)
          have he : ((pays.length : Int) == (ts.length : Int)) = true := by simp; omega
          clear hb HVB hl hv
          go_wp2_with (go_at_call 70; refine HC.out.mono ?_; rintro e w' ⟨rfl, q, rfl⟩)
          go_ret
          exact ⟨by rw [HE.out]; rfl, _, rfl⟩
        · have HE : Hid (vpB ts pays = false) := Lib.hid (vpB_false (fun h => hl h.2.1))
          have he : ((pays.length : Int) == (ts.length : Int)) = false := by simp; omega
          clear hb HVB hl hv
          go_wp2_with (go_at_call 70; refine HC.out.mono ?_; rintro e w' ⟨rfl, q, rfl⟩)
          go_ret
          exact ⟨by rw [HE.out]; rfl, _, rfl⟩

/-- What bidder k has, as it stands in memory. -/
theorem own_at {ts : List (List Int)} {w : World} {A : Option Addr} {c n k : Nat} (h : RdR w A c ts) (hn : ts.length = n) (hv : ∀ t ∈ ts, VT t) (hk : k < n) :
    ∃ b off br ofr c' s, A = some ⟨b, off, none⟩ ∧ s < 8 ∧ (setsF (wayF ts) n)[k]? = some ((s : Nat) : Int) ∧ w.cell? ⟨b, off + k, none⟩ = some (.slice (some ⟨br, ofr, none⟩) 8 c') ∧ w.cell? ⟨br, ofr + s, none⟩ = some (.int .i64 (ow ts k)) := by
  obtain ⟨b, off, r, A', c', rfl, hr, hc, hcap, hrd⟩ := h.at_ (k := k) (by rw [hn]; exact hk)
  have hvt := hv r (List.mem_of_getElem? hr.out)
  obtain ⟨br, ofr, rfl⟩ := hrd.out.some_ hvt.1
  rw [hvt.1] at hc
  have hs8 : setOf (wayF ts) k < 8 := setOf_lt _ k
  obtain ⟨b3, o3, x, hA, _, hx, hcx⟩ := hrd.out.at_ (k := setOf (wayF ts) k) (by rw [hvt.1]; exact hs8)
  cases hA
  refine ⟨b, off, br, ofr, c', setOf (wayF ts) k, rfl, hs8, setsF_at _ hk, hc, ?_⟩
  rw [hcx]
  unfold ow
  rw [getD_row hr.out, T_of hx.out]

def FairP (ts : List (List Int)) (pays : List Int) : Prop := ∀ i, i < ts.length → at0 pays i ≤ ow ts i
noncomputable def fairB (ts : List (List Int)) (pays : List Int) : Bool := @decide (FairP ts pays) (Classical.propDecidable _)
theorem fairB_true {ts : List (List Int)} {pays : List Int} (h : FairP ts pays) : fairB ts pays = true := by unfold fairB; simp [h]
theorem fairB_false {ts : List (List Int)} {pays : List Int} (h : ¬ FairP ts pays) : fairB ts pays = false := by unfold fairB; simp [h]
theorem at0_of {xs : List Int} {k : Nat} {x : Int} (h : xs[k]? = some x) : at0 xs k = x := by unfold at0; rw [List.getD_eq_getElem?_getD, h]; rfl

set_option maxHeartbeats 1000000 in
theorem Sfair_any (A B C : Option Addr) (c d e n : Nat) (ts : List (List Int)) (pays : List Int) (w : World) (hn : ts.length = n) (hp : pays.length = n) (h : RdR w A c ts) (hv : ∀ t ∈ ts, VT t) (hS : Rd w B d (setsF (wayF ts) n)) (g : Rd w C e pays) (hl : n ≤ 1000) :
    Calls Try.prog 129 #[.slice A n c, .slice B n d, .slice C n e] w fun e w' => e = .returned (.bool (fairB ts pays)) ∧ ∃ q, w' = w.drewN q := by
  have HT := Lib.hid (@fairB_true ts pays)
  have HF := Lib.hid (@fairB_false ts pays)
  have HN := Lib.hid hn
  have HV := Lib.hid hv
  have hsl : (setsF (wayF ts) n).length = n := setsF_len' _ _
  have HSL := Lib.hid hsl
  clear hn hv hsl
  go_enter Try.func129, Try.ntmps129
  go_wp2
  go_loopw [7] (fun i wr => ∃ k q : Nat, k ≤ n ∧ i = .int .i64 (k : Int) ∧ wr = w.drewN q ∧ Hid (∀ j, j < k → at0 pays j ≤ ow ts j)) (fun i _ => n - (intOf i).toNat)
  case atStart => exact ⟨0, 0, Nat.zero_le _, rfl, rfl, Lib.hid (fun j hj => absurd hj (by omega))⟩
  case round =>
    obtain ⟨k, q, hk, rfl, rfl, HK⟩ := hrel
    by_cases hlt : k < n
    · obtain ⟨b1, off1, br, ofr, c', s, rfl, hs8, hsx, hc1, hc2⟩ := own_at h HN.out HV.out hlt
      obtain ⟨b2, off2, s', rfl, _, hs', hc3⟩ := hS.at_ (k := k) (by rw [HSL.out]; exact hlt)
      obtain rfl : s' = (s : Int) := by have := hs'.out; rw [hsx] at this; injection this with this; exact this.symm
      obtain ⟨b3, off3, x, rfl, _, hx, hc4⟩ := g.at_ (k := k) (by rw [hp]; exact hlt)
      have hax := at0_of hx.out
      obtain ⟨y, hy⟩ : ∃ y, y = ow ts k := ⟨_, rfl⟩
      rw [← hy] at hc2
      have hs0 : (0 : Int) ≤ (s : Int) := by omega
      have hs7 : (s : Int) < 8 := by omega
      have hk0 : (0 : Int) ≤ (k : Int) := by omega
      have hkn : (k : Int) < (n : Int) := by omega
      by_cases hgt : y < x
      · have HE := Lib.hid (HF.out (fun hh => by have := hh k (by rw [HN.out]; exact hlt); rw [hax, ← hy] at this; omega))
        have hgt' : decide (y < x) = true := by simpa using hgt
        clear hgt hy hax hx hs' hsx
        go_wp2_with fail
        go_quiet (fail)
        go_wp2
        go_ret
        exact ⟨by rw [HE.out]; rfl, _, World.drewN_drewN _ _ _⟩
      · have HK1 : Hid (∀ j, j < k + 1 → at0 pays j ≤ ow ts j) := Lib.hid (fun j hj => by
          rcases Nat.lt_or_ge j k with h1 | h1
          · exact HK.out j h1
          · rw [show j = k by omega, hax, ← hy]; omega)
        have hgt' : decide (y < x) = false := by simpa using hgt
        clear hgt hy hax hx hs' hsx
        go_wp2_with fail
        go_quiet (fail)
        go_wp2
        go_roundw
        case rel => exact ⟨k + 1, _, hlt, by go_num, rfl, HK1⟩
        case measure => simp [intOf]; omega
    · obtain rfl : k = n := by omega
      have HE := Lib.hid (HT.out (fun i hi => HK.out i (by rw [HN.out] at hi; exact hi)))
      go_wp2
      go_ret
      exact ⟨by rw [HE.out]; rfl, _, rfl⟩

end Go.Proofs.Ytccbjgajmjcpjab

/-
  Chapter 9, the model: whether payments are blocked, and InCore.
-/
namespace Go.Proofs.Ytccbjgajmjcpjab
open Go.RowKit

/-- Some bidders would give more. -/
def BlP (ts : List (List Int)) (p : Nat → Int) : Prop := ∃ S, S < 2 ^ ts.length ∧ hv (ow ts) p S ts.length < ww ts S
noncomputable def blB (ts : List (List Int)) (p : Nat → Int) : Bool := @decide (BlP ts p) (Classical.propDecidable _)
theorem blB_true {ts : List (List Int)} {p : Nat → Int} (h : BlP ts p) : blB ts p = true := by unfold blB; simp [h]
theorem blB_false {ts : List (List Int)} {p : Nat → Int} (h : ∀ S, S < 2 ^ ts.length → ww ts S ≤ hv (ow ts) p S ts.length) : blB ts p = false := by
  unfold blB; simp only [decide_eq_false_iff_not]
  rintro ⟨S, h1, h2⟩
  have := h S h1; omega

set_option maxHeartbeats 2000000 in
theorem Sblocked_any (A B C D : Option Addr) (c d e f n : Nat) (ts : List (List Int)) (pays : List Int) (w : World) (hn : ts.length = n) (hp : pays.length = n) (h : RdR w A c ts) (hvt : ∀ t ∈ ts, VT t) (hS : Rd w B d (setsF (wayF ts) n)) (g : Rd w C e pays) (hW : Rd w D f (vls (fun S => ww ts S) (2 ^ n))) (h4 : n ≤ 4) (hpb : ∀ i, i < 4 → 0 ≤ at0 pays i ∧ at0 pays i ≤ 30) :
    Calls Try.prog 130 #[.slice A n c, .slice B n d, .slice C n e, .slice D (2 ^ n) f] w fun e w' => e = .returned (.bool (blB ts (at0 pays))) ∧ ∃ q, w' = w.drewN q := by
  have HT := Lib.hid (@blB_true ts (at0 pays))
  have HF := Lib.hid (@blB_false ts (at0 pays))
  have HN := Lib.hid hn
  have HV := Lib.hid hvt
  have hsl : (setsF (wayF ts) n).length = n := setsF_len' _ _
  have HSL := Lib.hid hsl
  have HP := Lib.hid (fun w1 => Spow4_any n (by omega) w1)
  have hp16 := pow_len (n := n) (by omega)
  have HBI : Hid (∀ (S k : Nat), S < 16 → k < 4 → ∀ w1, Calls Try.prog 159 #[.int .i64 (S : Int), .int .i64 (k : Int)] w1 fun e w' => e = .returned (.int .i64 ((S / 2 ^ k % 2 : Nat) : Int)) ∧ w1 = w') := Lib.hid (fun S k hS hk w1 => Sbit4_any S k hS hk w1)
  have HOB : Hid (∀ i, i < n → 0 ≤ ow ts i ∧ ow ts i ≤ 30) := Lib.hid (fun i hi => ow_bd hvt (by omega))
  have HPB := Lib.hid hpb
  have HHB := Lib.hid (fun (S k : Nat) (hk : k ≤ n) => hv_bd (o := ow ts) (p := at0 pays) (M := 30) S (k := k) (fun i hi => HOB.out i (by omega)) (fun i hi => hpb i (by omega)))
  rw [hn] at HF
  have HBL : Hid (∀ S, S < 2 ^ n → hv (ow ts) (at0 pays) S n < ww ts S → blB ts (at0 pays) = true) := Lib.hid (fun S hS hlt => HT.out ⟨S, by rw [hn]; exact hS, by rw [hn]; exact hlt⟩)
  generalize blB ts (at0 pays) = bl at *
  have HWL : Hid ((vls (fun S => ww ts S) (2 ^ n)).length = 2 ^ n) := Lib.hid (vls_len _ _)
  have HWA : Hid (∀ S, S < 2 ^ n → (vls (fun S => ww ts S) (2 ^ n))[S]? = some (ww ts S)) := Lib.hid (fun S hS => vls_at hS)
  generalize vls (fun S => ww ts S) (2 ^ n) = wl at *
  generalize 2 ^ n = P at *
  clear hn hvt hsl HT hpb
  go_enter Try.func130, Try.ntmps130
  go_wp2_with fail
  go_loopw [9] (fun i wr => ∃ S q : Nat, S ≤ P ∧ i = .int .i64 (S : Int) ∧ wr = w.drewN q ∧ Hid (∀ j, j < S → ww ts j ≤ hv (ow ts) (at0 pays) j n)) (fun i _ => P - (intOf i).toNat)
  case atStart => exact ⟨0, 0, Nat.zero_le _, rfl, rfl, Lib.hid (fun j hj => absurd hj (by omega))⟩
  case round =>
    obtain ⟨S, q, hSP, rfl, rfl, HK⟩ := hrel
    by_cases hlt : S < P
    · have hSP' : (S : Int) < (P : Int) := by omega
      go_wp2_with (go_at_call 124; refine (HP.out _).mono ?_; rintro e w1 ⟨rfl, rfl⟩)
      go_loopw [10, 11] (fun hvv i wr => ∃ k q' : Nat, k ≤ n ∧ i = .int .i64 (k : Int) ∧ wr = w.drewN q' ∧ hvv = .int .i64 (hv (ow ts) (at0 pays) S k)) (fun _ i _ => n - (intOf i).toNat)
      case atStart => exact ⟨0, q, Nat.zero_le _, rfl, rfl, rfl⟩
      case round =>
        obtain ⟨k, q', hk, rfl, rfl, rfl⟩ := hrel
        by_cases hlt2 : k < n
        · obtain ⟨b1, off1, br, ofr, c', s, rfl, hs8, hsx, hc1, hc2⟩ := own_at h HN.out HV.out hlt2
          obtain ⟨b2, off2, s', rfl, _, hs', hc3⟩ := hS.at_ (k := k) (by rw [HSL.out]; exact hlt2)
          obtain rfl : s' = (s : Int) := by have := hs'.out; rw [hsx] at this; injection this with this; exact this.symm
          obtain ⟨b3, off3, x, rfl, _, hx, hc4⟩ := g.at_ (k := k) (by rw [hp]; exact hlt2)
          have hax := at0_of hx.out
          have hxb := HPB.out k (by omega)
          have hyb := HOB.out k hlt2
          rw [hax] at hxb
          obtain ⟨y, hy⟩ : ∃ y, y = ow ts k := ⟨_, rfl⟩
          rw [← hy] at hc2 hyb
          have hvb := HHB.out S k (by omega)
          obtain ⟨z, hz⟩ : ∃ z, z = hv (ow ts) (at0 pays) S k := ⟨_, rfl⟩
          have hs0 : (0 : Int) ≤ (s : Int) := by omega
          have hs7 : (s : Int) < 8 := by omega
          have hk0 : (0 : Int) ≤ (k : Int) := by omega
          have hkn : (k : Int) < (n : Int) := by omega
          have HB1 := Lib.hid (HBI.out S k (by omega) (by omega))
          have hk4 : (30 : Int) * (k : Int) ≤ 120 := by omega
          by_cases hb : S / 2 ^ k % 2 = 1
          · have HE : Hid (hv (ow ts) (at0 pays) S (k + 1) = z + y) := Lib.hid (by simp only [hv]; rw [if_pos hb, hz, hy])
            rw [hb] at HB1
            rw [← hz] at hvb ⊢
            have e1 : IntKind.i64.wrap (z + x) = z + x := IntWalk.i64_in _ (by omega)
            have e2 : IntKind.i64.wrap (z + x + y) = z + x + y := IntWalk.i64_in _ (by omega)
            have e3 : IntKind.i64.wrap (z + x + y - x) = z + y := by rw [show z + x + y - x = z + y by omega]; exact IntWalk.i64_in _ (by omega)
            clear hy hax hx hs' hsx hz hb hvb hxb hyb
            go_wp2_with (go_at_call 159; refine (HB1.out _).mono ?_; rintro e w1 ⟨rfl, rfl⟩)
            go_quiet (fail)
            go_wp2
            go_roundw
            case rel => exact ⟨k + 1, _, hlt2, by go_num, rfl, by rw [HE.out]⟩
            case measure => simp [intOf]; omega
          · have HE : Hid (hv (ow ts) (at0 pays) S (k + 1) = z + x) := Lib.hid (by simp only [hv]; rw [if_neg hb, hz, hax])
            rw [show S / 2 ^ k % 2 = 0 by omega] at HB1
            rw [← hz] at hvb ⊢
            have e1 : IntKind.i64.wrap (z + x) = z + x := IntWalk.i64_in _ (by omega)
            clear hy hax hx hs' hsx hz hb hvb hxb hyb
            go_wp2_with (go_at_call 159; refine (HB1.out _).mono ?_; rintro e w1 ⟨rfl, rfl⟩)
            go_roundw
            case rel => exact ⟨k + 1, _, hlt2, by go_num, rfl, by rw [HE.out]⟩
            case measure => simp [intOf]; omega
        · obtain rfl : k = n := by omega
          obtain ⟨b4, off4, u, rfl, _, hu, hc5⟩ := hW.at_ (k := S) (by rw [HWL.out]; exact hlt)
          obtain rfl : u = ww ts S := by have := hu.out; rw [HWA.out S hlt] at this; injection this with this; exact this.symm
          obtain ⟨u, hu2⟩ : ∃ u, u = ww ts S := ⟨_, rfl⟩
          obtain ⟨z, hz⟩ : ∃ z, z = hv (ow ts) (at0 pays) S k := ⟨_, rfl⟩
          rw [← hu2] at hc5
          rw [← hz]
          have hS0 : (0 : Int) ≤ (S : Int) := by omega
          by_cases hgt : z < u
          · have HE := Lib.hid (HBL.out S hlt (by rw [← hz, ← hu2]; exact hgt))
            have hgt' : decide (z < u) = true := by simpa using hgt
            clear hgt hu2 hz hu
            go_wp2
            go_ret
            exact ⟨by rw [HE.out]; rfl, _, rfl⟩
          · have HK1 : Hid (∀ j, j < S + 1 → ww ts j ≤ hv (ow ts) (at0 pays) j k) := Lib.hid (fun j hj => by
              rcases Nat.lt_or_ge j S with h1 | h1
              · exact HK.out j h1
              · rw [show j = S by omega, ← hu2, ← hz]; omega)
            have hgt' : decide (z < u) = false := by simpa using hgt
            clear hgt hu2 hz hu
            go_wp2
            go_roundw
            case rel => exact ⟨S + 1, _, hlt, by go_num, rfl, HK1⟩
            case measure => simp [intOf]; omega
    · obtain rfl : S = P := by omega
      have HE := Lib.hid (HF.out HK.out)
      go_wp2_with (go_at_call 124; refine (HP.out _).mono ?_; rintro e w1 ⟨rfl, rfl⟩)
      go_ret
      exact ⟨by rw [HE.out]; rfl, _, rfl⟩

end Go.Proofs.Ytccbjgajmjcpjab

/-
  Chapter 9: InCore of both sides.
-/
namespace Go.Proofs.Ytccbjgajmjcpjab
open Go.RowKit

theorem inB_fair {ts : List (List Int)} {pays : List Int} (h : VpP ts pays) : inB ts pays = (fairB ts pays && !blB ts (at0 pays)) := by
  by_cases hf : FairP ts pays
  · by_cases hb : ∀ S, S < 2 ^ ts.length → ww ts S ≤ hv (ow ts) (at0 pays) S ts.length
    · rw [inB_true ⟨h.1, h.2.1, h.2.2, hf, hb⟩, fairB_true hf, blB_false hb]; rfl
    · have hbl : BlP ts (at0 pays) := Classical.byContradiction (fun hn => hb (fun S hS => Int.not_lt.1 (fun hlt => hn ⟨S, hS, hlt⟩)))
      rw [inB_false (fun hi => hb hi.2.2.2.2), blB_true hbl]; simp
  · rw [inB_false (fun hi => hf hi.2.2.2.1), fairB_false hf]; rfl

set_option maxHeartbeats 1000000 in
theorem SInCore_any (A B : Option Addr) (c d : Nat) (ts : List (List Int)) (pays : List Int) (w : World) (h : RdR w A c ts) (g : Rd w B d pays) (hl : ts.length ≤ 1099511627776) (hl2 : ∀ r ∈ ts, r.length ≤ 1099511627776) (hpl : pays.length ≤ 1099511627776) :
    Calls Try.prog 59 #[.slice A ts.length c, .slice B pays.length d] w fun e w' => e = .returned (.bool (inB ts pays)) ∧ Below w.heap.size w w' := by
  have HC := Lib.hid (SvalidPays_any A B c d ts pays w h g hl hl2 hpl)
  by_cases hv : VpP ts pays
  · have HE : Hid (inB ts pays = (fairB ts pays && !blB ts (at0 pays))) := Lib.hid (inB_fair hv)
    rw [vpB_true hv] at HC
    obtain ⟨hvt, hpn, hpb⟩ := hv
    obtain ⟨n, hn⟩ : ∃ n, n = ts.length := ⟨_, rfl⟩
    have h4 : n ≤ 4 := by have := hvt.1.2; omega
    have HPB : Hid (∀ i, i < 4 → 0 ≤ at0 pays i ∧ at0 pays i ≤ 30) := Lib.hid (fun i _ => by
      by_cases hi : i < pays.length
      · unfold at0; rw [List.getD_eq_getElem?_getD, List.getElem?_eq_getElem hi]; exact hpb _ (List.getElem_mem hi)
      · rw [at0_out (by omega)]; omega)
    rw [hpn, ← hn] at HC ⊢
    have HB := Lib.hid (fun (q : Nat) => SbestSplit_any A c n ts (w.drewN q) (h.drewN q) hvt hn.symm)
    have HFA := Lib.hid (fun (A2 : Option Addr) (c2 : Nat) (w1 : World) (hb : Below w.heap.size w w1) (hs : Rd w1 A2 c2 (setsF (wayF ts) n)) => Sfair_any A A2 B c c2 d n ts pays w1 hn.symm (by omega) (h.below hb) hvt.2 hs (g.below hb) (by omega))
    have HWS := Lib.hid (fun (w1 : World) (hb : Below w.heap.size w w1) => SworthsOf_any A c n ts w1 hn.symm (h.below hb) h4 hvt.2)
    have HBL := Lib.hid (fun (A2 A3 : Option Addr) (c2 c3 : Nat) (w1 : World) (hb : Below w.heap.size w w1) (hs : Rd w1 A2 c2 (setsF (wayF ts) n)) (hw : Rd w1 A3 c3 (vls (fun S => ww ts S) (2 ^ n))) => Sblocked_any A A2 B A3 c c2 d c3 n ts pays w1 hn.symm (by omega) (h.below hb) hvt.2 hs (g.below hb) hw h4 HPB.out)
    generalize fairB ts pays = fb at *
    generalize blB ts (at0 pays) = bb at *
    generalize 2 ^ n = P at *
    clear hvt hpn hpb hn
    go_enter Try.func59, Try.ntmps59
    go_wp2_with fail
    refine HC.out.mono ?_
    rintro e w1 ⟨rfl, q1, rfl⟩
    go_wp2_with fail
    refine (HB.out q1).mono ?_
    rintro e w2 ⟨g2, c2, rfl, o2, b2⟩
    have HS2 := Lib.hid o2.rd
    have HB2 : Hid (Below w.heap.size w w2) := Lib.hid ((below_drewN' (Below.refl _ w) q1).trans (b2.mono (Nat.le_refl _)))
    clear o2 b2
    go_wp2_with fail
    refine (HFA.out _ c2 w2 HB2.out HS2.out).mono ?_
    rintro e w3 ⟨rfl, q3, rfl⟩
    have HB3 := Lib.hid (below_drewN' HB2.out q3)
    rcases fb with _ | _
    · go_wp2
      go_ret
      exact ⟨by rw [HE.out]; rfl, HB3.out⟩
    · go_wp2_with fail
      refine (HWS.out _ HB3.out).mono ?_
      rintro e w4 ⟨g4, c4, rfl, o4, b4⟩
      have HB4 := Lib.hid (HB3.out.trans (b4.mono HB3.out.size))
      have HS4 := Lib.hid ((HS2.out.drewN q3).below b4)
      have HW4 := Lib.hid o4.rd
      clear o4 b4
      go_wp2_with fail
      refine (HBL.out _ _ c2 c4 w4 HB4.out HS4.out HW4.out).mono ?_
      rintro e w5 ⟨rfl, q5, rfl⟩
      go_wp2
      go_ret
      exact ⟨by rw [HE.out]; rfl, below_drewN' HB4.out q5⟩
  · have HE : Hid (inB ts pays = false) := Lib.hid (inB_false (fun hi => hv ⟨hi.1, hi.2.1, hi.2.2.1⟩))
    rw [vpB_false hv] at HC
    clear hv
    go_enter Try.func59, Try.ntmps59
    go_wp2_with (go_at_call 127; refine HC.out.mono ?_; rintro e w1 ⟨rfl, q1, rfl⟩)
    go_ret
    exact ⟨by rw [HE.out]; rfl, below_drewN' (Below.refl _ _) q1⟩

theorem InCore_both (rows : List (List Int)) (told : List Int) : ∃ (v : Bool), (rows.length ≤ 1099511627776 → (∀ r ∈ rows, r.length ≤ 1099511627776) → told.length ≤ 1099511627776 →
    (∀ A T c d w, RdR w A c rows → Rd w T d told → told.length ≤ d → Calls Try.prog 59 #[.slice A rows.length c, .slice T told.length d] w fun e w' => e = .returned (.bool v) ∧ Below w.heap.size w w') ∧
    (∀ A T c d w, RdR w A c rows → Rd w T d told → told.length ≤ d → Calls Try.prog 31 #[.slice A rows.length c, .slice T told.length d] w fun e w' => e = .returned (.bool v) ∧ Below w.heap.size w w')) :=
  ⟨inB rows told, fun hl hl2 hl3 => ⟨fun A T c d w h1 h2 _ => SInCore_any A T c d rows told w h1 h2 hl hl2 hl3,
    fun A T c d w h1 h2 _ => InCore_any A T c d rows told w h1 h2 hl2 hl3⟩⟩

end Go.Proofs.Ytccbjgajmjcpjab
