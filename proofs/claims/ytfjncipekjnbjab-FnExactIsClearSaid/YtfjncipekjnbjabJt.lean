/-
  Chapter 6: the program's dearerOf and sameIn.
-/
import Derived.Test.YtfjncipekjnbjabJk
import Derived.Test.YtfjncipekjnbjabJs
namespace Go.Proofs.Ytfjncipekjnbjab
open Go.RowKit

/-- The greater prices of the first k things, the others as they were. -/
def mxP (p q : List Int) (k : Nat) : List Int := (List.range 3).map (fun i => if i < k then (if T p i < T q i then T q i else T p i) else T p i)
theorem mxP_len (p q : List Int) (k : Nat) : (mxP p q k).length = 3 := by simp [mxP]
theorem mxP_at (p q : List Int) (k : Nat) {i : Nat} (hi : i < 3) : T (mxP p q k) i = if i < k then (if T p i < T q i then T q i else T p i) else T p i := by
  apply T_of
  simp [mxP, hi]
theorem ext3 {l m : List Int} (hl : l.length = 3) (hm : m.length = 3) (h : ∀ x, x < 3 → T l x = T m x) : l = m := by
  apply List.ext_getElem (by omega)
  intro i h1 h2
  have := h i (by omega)
  rw [T_of (List.getElem?_eq_getElem h1), T_of (List.getElem?_eq_getElem h2)] at this
  exact this
theorem mxP_zero {p : List Int} (q : List Int) (hp : p.length = 3) : mxP p q 0 = p := ext3 (mxP_len _ _ _) hp (fun x hx => by rw [mxP_at _ _ _ hx, if_neg (by omega)])
theorem mxP_step (p q : List Int) {k : Nat} (hk : k < 3) : mxP p q (k + 1) = (mxP p q k).set k (if T p k < T q k then T q k else T p k) := ext3 (mxP_len _ _ _) (by rw [List.length_set]; exact mxP_len _ _ _) (fun x hx => by
  rw [T_set (by rw [mxP_len]; exact hk), mxP_at _ _ _ hx, mxP_at _ _ _ hx]
  by_cases h1 : k = x
  · subst h1; rw [if_pos (by omega), if_pos rfl]
  · rw [if_neg h1]
    by_cases h2 : x < k
    · rw [if_pos (by omega), if_pos h2]
    · rw [if_neg (by omega), if_neg h2])
theorem mxP_end (p q : List Int) {i : Nat} (hi : i < 3) : T (mxP p q 3) i = if T p i < T q i then T q i else T p i := by rw [mxP_at _ _ _ hi, if_pos hi]
theorem Pr3.free {w : World} {m : Nat} {l : List Int} (h : Pr3 w m l) (k : Nat) : w.frozen? ⟨m, k, none⟩ = false := by
  unfold World.frozen?
  rw [show w.heap[m]? = _ from h]
  rfl
theorem Pr3.set_ {w : World} {m k : Nat} {l : List Int} (h : Pr3 w m l) (hl : l.length = 3) (hk : k < 3) (x : Int) : Pr3 (w.setCell ⟨m, k, none⟩ (.int .i64 x)) m (l.set k x) := by
  unfold Pr3 at h ⊢
  simp only [World.setCell, Array.getElem?_modify, if_true, h]
  rw [T_set (by omega), T_set (by omega), T_set (by omega)]
  rcases nat3 hk with rfl | rfl | rfl <;> simp
theorem idx3 (l : List Int) {k : Nat} (hk : k < 3) (w : World) : (Instr.index 69 (.agg #[.int .i64 (T l 0), .int .i64 (T l 1), .int .i64 (T l 2)]) (.int .i64 (k : Int))).run Try.prog w = .ok (.int .i64 (T l k)) w := by
  rcases nat3 hk with rfl | rfl | rfl <;> kernel_rfl

set_option maxRecDepth 100000 in
set_option maxHeartbeats 800000 in
theorem sameIn_any (p q : List Int) (w : World) :
    Calls Try.prog 79 #[ag3 p, ag3 q] w fun e w' => e = .returned (.int .i64 ((sm p q : Nat) : Int)) ∧ Below w.heap.size w w' := by
  unfold ag3
  have HI := Lib.hid (fun (k : Nat) (hk : k < 3) w1 => idx3 p hk w1)
  have h1 : Pr3 ((w.alloc (.cells #[.int .i64 (T p 0), .int .i64 (T p 1), .int .i64 (T p 2)] 69)).alloc (.cells #[.int .i64 (T q 0), .int .i64 (T q 1), .int .i64 (T q 2)] 69)) (w.heap.size + 1) q := by
    have := Pr3.new (w.alloc (.cells #[.int .i64 (T p 0), .int .i64 (T p 1), .int .i64 (T p 2)] 69)) q
    simpa using this
  have BM : Below w.heap.size w ((w.alloc (.cells #[.int .i64 (T p 0), .int .i64 (T p 1), .int .i64 (T p 2)] 69)).alloc (.cells #[.int .i64 (T q 0), .int .i64 (T q 1), .int .i64 (T q 2)] 69)) := ((Below.refl _ w).alloc (Nat.le_refl _) _).alloc (by simp) _
  have HSM := Lib.hid (fun k (hk : k ≤ 3) => smTo_lt p q k)
  obtain ⟨wT, hwT⟩ : ∃ wT, wT = ((w.alloc (.cells #[.int .i64 (T p 0), .int .i64 (T p 1), .int .i64 (T p 2)] 69)).alloc (.cells #[.int .i64 (T q 0), .int .i64 (T q 1), .int .i64 (T q 2)] 69)) := ⟨_, rfl⟩
  have HWT := Lib.hid hwT
  rw [← hwT] at h1 BM
  clear hwT
  have HQ := Lib.hid h1
  clear h1
  go_enter Try.func79, Try.ntmps79
  go_wp2
  rw [← HWT.out]
  go_loopw [5, 9] (fun sv iv wr => ∃ k n : Nat, k ≤ 3 ∧ sv = .int .i64 ((smTo p q k : Nat) : Int) ∧ iv = .int .i64 (k : Int) ∧ wr = wT.drewN n) (fun _ iv _ => 3 - (intOf iv).toNat)
  case atStart => exact ⟨0, 0, by omega, rfl, rfl, rfl⟩
  case round =>
    obtain ⟨k, n, hk, rfl, rfl, rfl⟩ := hrel
    by_cases hlt : k < 3
    · have hi := HI.out k hlt
      have hc := HQ.out.cell hlt
      have hsm := HSM.out k (by omega)
      have hk3 : (k : Int) < 3 := by omega
      have hk0 : (0 : Int) ≤ (k : Int) := by omega
      have hk1 : k + 1 ≤ 3 := hlt
      have HS1 := Lib.hid (fun (hh : T p k = T q k) => smTo_yes (p := p) (q := q) (k := k) hh)
      have HS2 := Lib.hid (fun (hh : ¬ T p k = T q k) => smTo_no (p := p) (q := q) (k := k) hh)
      obtain ⟨x, hx⟩ : ∃ x, x = T p k := ⟨_, rfl⟩
      obtain ⟨y, hy⟩ : ∃ y, y = T q k := ⟨_, rfl⟩
      rw [← hx] at hi HS1 HS2
      rw [← hy] at hc HS1 HS2
      obtain ⟨S, hS⟩ : ∃ S, S = smTo p q k := ⟨_, rfl⟩
      rw [← hS] at HS1 HS2 hsm ⊢
      have hpw : 2 ^ k ≤ 4 := by rcases nat3 hlt with rfl | rfl | rfl <;> decide
      clear hx hy hS
      by_cases h2 : x = y
      · have HS' := Lib.hid (HS1.out h2)
        have hq2 : (x == y) = true := by simp [h2]
        clear HS1 HS2 h2
        rcases nat3 hlt with rfl | rfl | rfl
        · have ew : IntKind.i64.wrap ((S : Int) + 1) = (S : Int) + 1 := IntWalk.i64_in _ (by omega)
          have hi' : ∀ w1, (Instr.index 69 (.agg #[.int .i64 (T p 0), .int .i64 (T p 1), .int .i64 (T p 2)]) (.int .i64 0)).run Try.prog w1 = .ok (.int .i64 x) w1 := hi
          clear hlt hi
          go_wp2
          go_roundw
          case rel => exact ⟨1, n, by omega, by rw [HS'.out]; go_num, by go_num, rfl⟩
          case measure => simp [intOf]
        · have ew : IntKind.i64.wrap ((S : Int) + 2) = (S : Int) + 2 := IntWalk.i64_in _ (by omega)
          have hi' : ∀ w1, (Instr.index 69 (.agg #[.int .i64 (T p 0), .int .i64 (T p 1), .int .i64 (T p 2)]) (.int .i64 1)).run Try.prog w1 = .ok (.int .i64 x) w1 := hi
          clear hlt hi
          go_wp2
          go_roundw
          case rel => exact ⟨2, n, by omega, by rw [HS'.out]; go_num, by go_num, rfl⟩
          case measure => simp [intOf]
        · have ew : IntKind.i64.wrap ((S : Int) + 4) = (S : Int) + 4 := IntWalk.i64_in _ (by omega)
          have hi' : ∀ w1, (Instr.index 69 (.agg #[.int .i64 (T p 0), .int .i64 (T p 1), .int .i64 (T p 2)]) (.int .i64 2)).run Try.prog w1 = .ok (.int .i64 x) w1 := hi
          clear hlt hi
          go_wp2
          go_roundw
          case rel => exact ⟨3, n, by omega, by rw [HS'.out]; go_num, by go_num, rfl⟩
          case measure => simp [intOf]
      · have HS' := Lib.hid (HS2.out h2)
        have hq2 : (x == y) = false := by simp [h2]
        clear HS1 HS2 h2 hlt
        go_wp2
        go_roundw
        case rel => exact ⟨k + 1, n, hk1, by rw [HS'.out], by go_num, rfl⟩
        case measure => simp [intOf]; omega
    · obtain rfl : k = 3 := by omega
      go_wp2
      go_ret
      exact ⟨rfl, below_drewN' BM n⟩

/-- Where dearerOf's world stands. -/
def DrAt (w wr : World) (p q : List Int) (k : Nat) : Prop := Below w.heap.size w wr ∧ Pr3 wr w.heap.size (mxP p q k) ∧ Pr3 wr (w.heap.size + 1 + 1) [0, 0, 0]
theorem DrAt.drew {w wr : World} {p q : List Int} {k : Nat} (h : DrAt w wr p q k) : DrAt w wr.drew p q k := ⟨h.1.drew, h.2.1.keep rfl, h.2.2.keep rfl⟩
theorem DrAt.put {w wr : World} {p q : List Int} {k : Nat} (h : DrAt w wr p q k) (hk : k < 3) : DrAt w (wr.setCell ⟨w.heap.size, k, none⟩ (.int .i64 (if T p k < T q k then T q k else T p k))) p q (k + 1) :=
  ⟨below_al4 h.1, by rw [mxP_step p q hk]; exact h.2.1.set_ (mxP_len _ _ _) hk _, h.2.2.other (by omega)⟩

set_option maxRecDepth 100000 in
set_option maxHeartbeats 800000 in
theorem dearerOf_any (p q : List Int) (w : World) (hp : p.length = 3) :
    Calls Try.prog 115 #[ag3 p, ag3 q] w fun e w' => e = .returned (ag3 (mxP p q 3)) ∧ Below w.heap.size w w' := by
  unfold ag3
  have HI := Lib.hid (fun (k : Nat) (hk : k < 3) w1 => idx3 q hk w1)
  have HS : Hid (DrAt w (((w.alloc (.cells #[.int .i64 (T p 0), .int .i64 (T p 1), .int .i64 (T p 2)] 69)).alloc (.cells #[.int .i64 (T q 0), .int .i64 (T q 1), .int .i64 (T q 2)] 69)).alloc (.cells #[.int .i64 0, .int .i64 0, .int .i64 0] 69)) p q 0) := by
    refine Lib.hid ⟨?_, ?_, ?_⟩
    · exact (((Below.refl _ w).alloc (Nat.le_refl _) _).alloc (by simp) _).alloc (by simp; omega) _
    · rw [mxP_zero q hp]
      exact ((Pr3.new w p).alloc _).alloc _
    · have := Pr3.new ((w.alloc (.cells #[.int .i64 (T p 0), .int .i64 (T p 1), .int .i64 (T p 2)] 69)).alloc (.cells #[.int .i64 (T q 0), .int .i64 (T q 1), .int .i64 (T q 2)] 69)) [0, 0, 0]
      simpa [T] using this
  go_enter Try.func115, Try.ntmps115
  go_wp2
  go_loopw [8] (fun iv wr => ∃ k : Nat, k ≤ 3 ∧ iv = .int .i64 (k : Int) ∧ Hid (DrAt w wr p q k)) (fun iv _ => 3 - (intOf iv).toNat)
  case atStart => exact ⟨0, by omega, rfl, HS⟩
  case round =>
    obtain ⟨k, hk, rfl, HA⟩ := hrel
    clear HS
    by_cases hlt : k < 3
    · have hi := HI.out k hlt
      have HAD := Lib.hid HA.out.drew
      have hc := HAD.out.2.1.cell hlt
      have hfr := HAD.out.2.1.free k
      rw [mxP_at _ _ _ hlt, if_neg (Nat.lt_irrefl k)] at hc
      have hc0 := HA.out.2.1.cell hlt
      rw [mxP_at _ _ _ hlt, if_neg (Nat.lt_irrefl k)] at hc0
      have hfr0 := HA.out.2.1.free k
      have HP := Lib.hid (HA.out.put hlt)
      have HPD := Lib.hid (HAD.out.put hlt)
      have hk3 : (k : Int) < 3 := by omega
      have hk0 : (0 : Int) ≤ (k : Int) := by omega
      have hk1 : k + 1 ≤ 3 := hlt
      obtain ⟨x, hx⟩ : ∃ x, x = T p k := ⟨_, rfl⟩
      obtain ⟨y, hy⟩ : ∃ y, y = T q k := ⟨_, rfl⟩
      rw [← hx] at hc hc0 HP HPD
      rw [← hy] at hi HP HPD
      clear hx hy hlt HA HAD
      go_wp2
      go_roundw
      case rel => exact ⟨k + 1, hk1, by go_num, HP⟩
      case measure => simp [intOf]; omega
    · obtain rfl : k = 3 := by omega
      obtain ⟨hb, hp3, hr⟩ := HA.out
      obtain ⟨l, hl⟩ : ∃ l, l = mxP p q 3 := ⟨_, rfl⟩
      rw [← hl] at hp3
      have c0 := hp3.cell (k := 0) (by omega)
      have c1 := hp3.cell (k := 1) (by omega)
      have c2 := hp3.cell (k := 2) (by omega)
      have f0 := hr.free 0
      have f1 := hr.free 1
      have f2 := hr.free 2
      have r0 := hr.cell (k := 0) (by omega)
      have r1 := hr.cell (k := 1) (by omega)
      have r2 := hr.cell (k := 2) (by omega)
      have HL3 := Lib.hid hl
      clear hl
      have a2 := ((hr.set_ (k := 0) rfl (by omega) (T l 0)).set_ (k := 1) rfl (by omega) (T l 1)).set_ (k := 2) rfl (by omega) (T l 2)
      have s0 := a2.cell (k := 0) (by omega)
      have s1 := a2.cell (k := 1) (by omega)
      have s2 := a2.cell (k := 2) (by omega)
      rw [show T ((([0, 0, 0] : List Int).set 0 (T l 0)).set 1 (T l 1) |>.set 2 (T l 2)) 0 = T l 0 from rfl] at s0
      rw [show T ((([0, 0, 0] : List Int).set 0 (T l 0)).set 1 (T l 1) |>.set 2 (T l 2)) 1 = T l 1 from rfl] at s1
      rw [show T ((([0, 0, 0] : List Int).set 0 (T l 0)).set 1 (T l 1) |>.set 2 (T l 2)) 2 = T l 2 from rfl] at s2
      have HB : Hid (Below w.heap.size w (((wr.setCell ⟨w.heap.size + 1 + 1, 0, none⟩ (.int .i64 (T l 0))).setCell ⟨w.heap.size + 1 + 1, 1, none⟩ (.int .i64 (T l 1))).setCell ⟨w.heap.size + 1 + 1, 2, none⟩ (.int .i64 (T l 2)))) := Lib.hid (below_al2 (below_al2 (below_al2 hb)))
      clear a2 hr hp3
      go_wp2
      refine bodyPost_ret (by simp [results, Try.results115, go_sem, s0, s1, s2]; try rfl) rfl ?_
      exact ⟨by rw [HL3.out], HB.out⟩

end Go.Proofs.Ytfjncipekjnbjab
