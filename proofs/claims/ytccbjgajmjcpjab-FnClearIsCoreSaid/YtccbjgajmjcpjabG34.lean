/-
  The laws of chapter 6: the draw of KeepsDemand.
-/
import Derived.Test.YtccbjgajmjcpjabG33
import Derived.Deep.RegionLaw
import Derived.Test.YtccbjgajmjcpjabG31
namespace Go.Proofs.Ytccbjgajmjcpjab
open Go.RowKit Go.Lib

/-- What is drawn: a list of at most eight numbers, prices, and others. -/
def DrawnTPQ (w : World) (e : Ending) (w' : World) : Prop :=
  ∃ (g c : Nat) (t : List Int) (g2 off c2 : Nat) (p : List Int) (A3 : Option Addr) (c3 : Nat) (q : List Int), e = .returned (.tuple #[.slice (some ⟨g, 0, none⟩) t.length c, .slice (some ⟨g2, off, none⟩) p.length c2, .slice A3 q.length c3]) ∧ Rd w' (some ⟨g, 0, none⟩) c t ∧ Rd w' (some ⟨g2, off, none⟩) c2 p ∧ Rd w' A3 c3 q ∧ t.length ≤ 8 ∧ t.length ≤ c ∧
    (p.length = 3 ∨ p.length = 2) ∧ q.length = p.length ∧ (∀ x ∈ p, -1 ≤ x ∧ x ≤ 41) ∧ p.length ≤ c2 ∧ Below w.heap.size w w'

theorem own_at0 {w : World} {B c : Nat} {A : Option Addr} {zs : List Int} (h : Own w B A c zs) (hl : 1 ≤ zs.length) : ∃ g, A = some ⟨g, 0, none⟩ := by
  unfold Own at h
  rcases h.2 with ⟨hv, hn⟩ | ⟨g, cap, cur, hv, _⟩
  · omega
  · injection hv with h1 _ _
    exact ⟨g, h1⟩

theorem Rd.keepb {w w' : World} {b off c : Nat} {zs : List Int} (h : Rd w (some ⟨b, off, none⟩) c zs) (hb : w'.heap[b]? = w.heap[b]?) : Rd w' (some ⟨b, off, none⟩) c zs := by
  rcases h with h | ⟨b', off', hA, hc⟩
  · exact .inl h
  · injection hA with hA
    injection hA with h1 h2
    subst h1 h2
    exact .inr ⟨b, off, rfl, fun k hk => by rw [← hc k hk]; unfold World.cell?; rw [hb]⟩

end Go.Proofs.Ytccbjgajmjcpjab

/-
  Chapter 6: what stays in demand, by the model: KeepsDemand.
-/
namespace Go.Proofs.Ytccbjgajmjcpjab
open Go.RowKit

/-- All of the things of s that are in m are in y. -/
def covB (m : Nat) (s y : Int) : Bool := ((s.toNat &&& m) - (s.toNat &&& m &&& y.toNat)) == 0
def anyTo (m : Nat) (s : Int) (L : List Int) (k : Nat) : Bool := (L.take k).any (covB m s)
def allTo (m : Nat) (L O : List Int) (k : Nat) : Bool := (O.take k).all (fun s => L.any (covB m s))
theorem anyTo_zero (m : Nat) (s : Int) (L : List Int) : anyTo m s L 0 = false := by simp [anyTo]
theorem anyTo_step {m : Nat} {s y : Int} {L : List Int} {k : Nat} (h : L[k]? = some y) : anyTo m s L (k + 1) = (anyTo m s L k || covB m s y) := by
  unfold anyTo; rw [List.take_add_one, h, List.any_append]; simp
theorem anyTo_all (m : Nat) (s : Int) (L : List Int) : anyTo m s L L.length = L.any (covB m s) := by unfold anyTo; rw [List.take_length]
theorem allTo_zero (m : Nat) (L O : List Int) : allTo m L O 0 = true := by simp [allTo]
theorem allTo_step {m : Nat} {s : Int} {L O : List Int} {k : Nat} (h : O[k]? = some s) : allTo m L O (k + 1) = (allTo m L O k && L.any (covB m s)) := by
  unfold allTo; rw [List.take_add_one, h, List.all_append]; simp
theorem allTo_no {m : Nat} {s : Int} {L O : List Int} {k : Nat} (h : O[k]? = some s) (hn : L.any (covB m s) = false) : allTo m L O O.length = false := by
  unfold allTo; rw [List.take_length, List.all_eq_false]
  exact ⟨s, List.mem_of_getElem? h, by simp [hn]⟩
/-- That is what is kept. -/
theorem kd_all {t p q : List Int} : allTo (sm p q) (dm t q) (dm t p) (dm t p).length = true ↔ Kd t p q := by
  unfold allTo
  rw [List.take_length, List.all_eq_true]
  constructor
  · intro h s hs hd
    have := h (s : Int) (dm_mem.2 ⟨s, rfl, hs, hd⟩)
    rw [List.any_eq_true] at this
    obtain ⟨y, hy, hc⟩ := this
    obtain ⟨x, rfl, hx, hxd⟩ := dm_mem.1 hy
    exact ⟨x, hx, hxd, by simpa [covB] using hc⟩
  · intro h y hy
    obtain ⟨s, rfl, hs, hd⟩ := dm_mem.1 hy
    obtain ⟨x, hx, hxd, hc⟩ := h s hs hd
    rw [List.any_eq_true]
    exact ⟨(x : Int), dm_mem.2 ⟨x, rfl, hx, hxd⟩, by simp [covB, hc]⟩
theorem dm_at {t p : List Int} {k : Nat} {x : Int} (h : (dm t p)[k]? = some x) : ∃ s : Nat, x = (s : Int) ∧ s < 8 := by
  obtain ⟨s, h1, h2, _⟩ := dm_mem.1 (List.mem_of_getElem? h)
  exact ⟨s, h1, h2⟩
theorem cov_bits {s m y : Nat} (hs : s < 8) (hm : m < 8) (hy : y < 8) : bits .and .i64 (s : Int) (m : Int) = ((s &&& m : Nat) : Int) ∧ bits .andNot .i64 ((s &&& m : Nat) : Int) (y : Int) = (((s &&& m) - (s &&& m &&& y) : Nat) : Int) :=
  ⟨and_nat hs hm, andNot_nat (Nat.lt_of_le_of_lt Nat.and_le_left hs) hy⟩
theorem covB_eq (m s y : Nat) : covB m (s : Int) (y : Int) = (((((s &&& m) - (s &&& m &&& y) : Nat) : Int)) == 0) := by
  unfold covB
  simp only [Int.toNat_natCast]
  rw [Bool.eq_iff_iff]
  simp
/-- None of the first k prices is less. -/
def UpTo (p q : List Int) (k : Nat) : Prop := ∀ i, i < k → T p i ≤ T q i
theorem UpTo.zero (p q : List Int) : UpTo p q 0 := fun i h => absurd h (by omega)
theorem UpTo.next {p q : List Int} {k : Nat} (h : UpTo p q k) (hk : T p k ≤ T q k) : UpTo p q (k + 1) := fun i hi => by
  rcases Nat.lt_or_ge i k with h1 | h1
  · exact h i h1
  · rw [show i = k by omega]; exact hk
theorem smTo_yes {p q : List Int} {k : Nat} (h : T p k = T q k) : smTo p q (k + 1) = smTo p q k + 2 ^ k := by simp [smTo, h]
theorem smTo_no {p q : List Int} {k : Nat} (h : ¬ T p k = T q k) : smTo p q (k + 1) = smTo p q k := by simp [smTo, h]

end Go.Proofs.Ytccbjgajmjcpjab

/-
  Chapter 6: the program's dearerOf and sameIn.
-/
namespace Go.Proofs.Ytccbjgajmjcpjab
open Go.RowKit

/-- The greater prices of the first k things, the others as they were. -/
def mxP (p q : List Int) (k : Nat) : List Int := (List.range 3).map (fun i => if i < k then (if T p i < T q i then T q i else T p i) else T p i)
theorem mxP_len (p q : List Int) (k : Nat) : (mxP p q k).length = 3 := by simp [mxP]
theorem mxP_at (p q : List Int) (k : Nat) {i : Nat} (hi : i < 3) : T (mxP p q k) i = if i < k then (if T p i < T q i then T q i else T p i) else T p i := by
  apply T_of
  simp [mxP, hi]
theorem ext3 {l m : List Int} (hl : l.length = 3) (hm : m.length = 3) (h : ∀ x, x < 3 → T l x = T m x) : l = m := by
  apply List.ext_getElem (by omega)
  intro i h1 h2
  have := h i (by omega)
  rw [T_of (List.getElem?_eq_getElem h1), T_of (List.getElem?_eq_getElem h2)] at this
  exact this
theorem mxP_zero {p : List Int} (q : List Int) (hp : p.length = 3) : mxP p q 0 = p := ext3 (mxP_len _ _ _) hp (fun x hx => by rw [mxP_at _ _ _ hx, if_neg (by omega)])
theorem mxP_step (p q : List Int) {k : Nat} (hk : k < 3) : mxP p q (k + 1) = (mxP p q k).set k (if T p k < T q k then T q k else T p k) := ext3 (mxP_len _ _ _) (by rw [List.length_set]; exact mxP_len _ _ _) (fun x hx => by
  rw [T_set (by rw [mxP_len]; exact hk), mxP_at _ _ _ hx, mxP_at _ _ _ hx]
  by_cases h1 : k = x
  · subst h1; rw [if_pos (by omega), if_pos rfl]
  · rw [if_neg h1]
    by_cases h2 : x < k
    · rw [if_pos (by omega), if_pos h2]
    · rw [if_neg (by omega), if_neg h2])
theorem mxP_end (p q : List Int) {i : Nat} (hi : i < 3) : T (mxP p q 3) i = if T p i < T q i then T q i else T p i := by rw [mxP_at _ _ _ hi, if_pos hi]
theorem Pr3.free {w : World} {m : Nat} {l : List Int} (h : Pr3 w m l) (k : Nat) : w.frozen? ⟨m, k, none⟩ = false := by
  unfold World.frozen?
  rw [show w.heap[m]? = _ from h]
  rfl
theorem Pr3.set_ {w : World} {m k : Nat} {l : List Int} (h : Pr3 w m l) (hl : l.length = 3) (hk : k < 3) (x : Int) : Pr3 (w.setCell ⟨m, k, none⟩ (.int .i64 x)) m (l.set k x) := by
  unfold Pr3 at h ⊢
  simp only [World.setCell, Array.getElem?_modify, if_true, h]
  rw [T_set (by omega), T_set (by omega), T_set (by omega)]
  rcases nat3 hk with rfl | rfl | rfl <;> simp
theorem idx3 (l : List Int) {k : Nat} (hk : k < 3) (w : World) : (Instr.index 68 (.agg #[.int .i64 (T l 0), .int .i64 (T l 1), .int .i64 (T l 2)]) (.int .i64 (k : Int))).run Try.prog w = .ok (.int .i64 (T l k)) w := by
  rcases nat3 hk with rfl | rfl | rfl <;> kernel_rfl

set_option maxRecDepth 100000 in
set_option maxHeartbeats 800000 in
theorem sameIn_any (p q : List Int) (w : World) :
    Calls Try.prog 83 #[ag3 p, ag3 q] w fun e w' => e = .returned (.int .i64 ((sm p q : Nat) : Int)) ∧ Below w.heap.size w w' := by
  unfold ag3
  have HI := Lib.hid (fun (k : Nat) (hk : k < 3) w1 => idx3 p hk w1)
  have h1 : Pr3 ((w.alloc (.cells #[.int .i64 (T p 0), .int .i64 (T p 1), .int .i64 (T p 2)] 68)).alloc (.cells #[.int .i64 (T q 0), .int .i64 (T q 1), .int .i64 (T q 2)] 68)) (w.heap.size + 1) q := by
    have := Pr3.new (w.alloc (.cells #[.int .i64 (T p 0), .int .i64 (T p 1), .int .i64 (T p 2)] 68)) q
    simpa using this
  have BM : Below w.heap.size w ((w.alloc (.cells #[.int .i64 (T p 0), .int .i64 (T p 1), .int .i64 (T p 2)] 68)).alloc (.cells #[.int .i64 (T q 0), .int .i64 (T q 1), .int .i64 (T q 2)] 68)) := ((Below.refl _ w).alloc (Nat.le_refl _) _).alloc (by simp) _
  have HSM := Lib.hid (fun k (hk : k ≤ 3) => smTo_lt p q k)
  obtain ⟨wT, hwT⟩ : ∃ wT, wT = ((w.alloc (.cells #[.int .i64 (T p 0), .int .i64 (T p 1), .int .i64 (T p 2)] 68)).alloc (.cells #[.int .i64 (T q 0), .int .i64 (T q 1), .int .i64 (T q 2)] 68)) := ⟨_, rfl⟩
  have HWT := Lib.hid hwT
  rw [← hwT] at h1 BM
  clear hwT
  have HQ := Lib.hid h1
  clear h1
  go_enter Try.func83, Try.ntmps83
  go_wp2
  rw [← HWT.out]
  go_loopw [5, 9] (fun sv iv wr => ∃ k n : Nat, k ≤ 3 ∧ sv = .int .i64 ((smTo p q k : Nat) : Int) ∧ iv = .int .i64 (k : Int) ∧ wr = wT.drewN n) (fun _ iv _ => 3 - (intOf iv).toNat)
  case atStart => exact ⟨0, 0, by omega, rfl, rfl, rfl⟩
  case round =>
    obtain ⟨k, n, hk, rfl, rfl, rfl⟩ := hrel
    by_cases hlt : k < 3
    · have hi := HI.out k hlt
      have hc := HQ.out.cell hlt
      have hsm := HSM.out k (by omega)
      have hk3 : (k : Int) < 3 := by omega
      have hk0 : (0 : Int) ≤ (k : Int) := by omega
      have hk1 : k + 1 ≤ 3 := hlt
      have HS1 := Lib.hid (fun (hh : T p k = T q k) => smTo_yes (p := p) (q := q) (k := k) hh)
      have HS2 := Lib.hid (fun (hh : ¬ T p k = T q k) => smTo_no (p := p) (q := q) (k := k) hh)
      obtain ⟨x, hx⟩ : ∃ x, x = T p k := ⟨_, rfl⟩
      obtain ⟨y, hy⟩ : ∃ y, y = T q k := ⟨_, rfl⟩
      rw [← hx] at hi HS1 HS2
      rw [← hy] at hc HS1 HS2
      obtain ⟨S, hS⟩ : ∃ S, S = smTo p q k := ⟨_, rfl⟩
      rw [← hS] at HS1 HS2 hsm ⊢
      have hpw : 2 ^ k ≤ 4 := by rcases nat3 hlt with rfl | rfl | rfl <;> decide
      clear hx hy hS
      by_cases h2 : x = y
      · have HS' := Lib.hid (HS1.out h2)
        have hq2 : (x == y) = true := by simp [h2]
        clear HS1 HS2 h2
        rcases nat3 hlt with rfl | rfl | rfl
        · have ew : IntKind.i64.wrap ((S : Int) + 1) = (S : Int) + 1 := IntWalk.i64_in _ (by omega)
          have hi' : ∀ w1, (Instr.index 68 (.agg #[.int .i64 (T p 0), .int .i64 (T p 1), .int .i64 (T p 2)]) (.int .i64 0)).run Try.prog w1 = .ok (.int .i64 x) w1 := hi
          clear hlt hi
          go_wp2
          go_roundw
          case rel => exact ⟨1, n, by omega, by rw [HS'.out]; go_num, by go_num, rfl⟩
          case measure => simp [intOf]
        · have ew : IntKind.i64.wrap ((S : Int) + 2) = (S : Int) + 2 := IntWalk.i64_in _ (by omega)
          have hi' : ∀ w1, (Instr.index 68 (.agg #[.int .i64 (T p 0), .int .i64 (T p 1), .int .i64 (T p 2)]) (.int .i64 1)).run Try.prog w1 = .ok (.int .i64 x) w1 := hi
          clear hlt hi
          go_wp2
          go_roundw
          case rel => exact ⟨2, n, by omega, by rw [HS'.out]; go_num, by go_num, rfl⟩
          case measure => simp [intOf]
        · have ew : IntKind.i64.wrap ((S : Int) + 4) = (S : Int) + 4 := IntWalk.i64_in _ (by omega)
          have hi' : ∀ w1, (Instr.index 68 (.agg #[.int .i64 (T p 0), .int .i64 (T p 1), .int .i64 (T p 2)]) (.int .i64 2)).run Try.prog w1 = .ok (.int .i64 x) w1 := hi
          clear hlt hi
          go_wp2
          go_roundw
          case rel => exact ⟨3, n, by omega, by rw [HS'.out]; go_num, by go_num, rfl⟩
          case measure => simp [intOf]
      · have HS' := Lib.hid (HS2.out h2)
        have hq2 : (x == y) = false := by simp [h2]
        clear HS1 HS2 h2 hlt
        go_wp2
        go_roundw
        case rel => exact ⟨k + 1, n, hk1, by rw [HS'.out], by go_num, rfl⟩
        case measure => simp [intOf]; omega
    · obtain rfl : k = 3 := by omega
      go_wp2
      go_ret
      exact ⟨rfl, below_drewN' BM n⟩

/-- Where dearerOf's world stands. -/
def DrAt (w wr : World) (p q : List Int) (k : Nat) : Prop := Below w.heap.size w wr ∧ Pr3 wr w.heap.size (mxP p q k) ∧ Pr3 wr (w.heap.size + 1 + 1) [0, 0, 0]
theorem DrAt.drew {w wr : World} {p q : List Int} {k : Nat} (h : DrAt w wr p q k) : DrAt w wr.drew p q k := ⟨h.1.drew, h.2.1.keep rfl, h.2.2.keep rfl⟩
theorem DrAt.put {w wr : World} {p q : List Int} {k : Nat} (h : DrAt w wr p q k) (hk : k < 3) : DrAt w (wr.setCell ⟨w.heap.size, k, none⟩ (.int .i64 (if T p k < T q k then T q k else T p k))) p q (k + 1) :=
  ⟨below_al4 h.1, by rw [mxP_step p q hk]; exact h.2.1.set_ (mxP_len _ _ _) hk _, h.2.2.other (by omega)⟩

end Go.Proofs.Ytccbjgajmjcpjab
