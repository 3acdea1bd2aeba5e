/-
  Chapter 6: three things exchanged, by the model.
-/
import Derived.Test.YtccbjgajmjcpjabG27
import Derived.Test.YtccbjgajmjcpjabG05
import Derived.Deep.RegionLaw
import Derived.Test.YtccbjgajmjcpjabG02
namespace Go.Proofs.Ytccbjgajmjcpjab
open Go.RowKit

/-- The three things i, j and k may be exchanged. -/
def TriQ (t : List Int) (i j k : Nat) : Prop := i ≠ j → i ≠ k → j ≠ k → T t (2 ^ i + 2 ^ j) + T t (2 ^ k) ≤ max (T t (2 ^ i + 2 ^ k) + T t (2 ^ j)) (T t (2 ^ j + 2 ^ k) + T t (2 ^ i))
def TriK (t : List Int) (i j n : Nat) : Prop := ∀ k, k < n → TriQ t i j k
def TriJ (t : List Int) (i n : Nat) : Prop := ∀ j, j < n → TriK t i j 3
def TriI (t : List Int) (n : Nat) : Prop := ∀ i, i < n → TriJ t i 3
theorem TriK.zero (t : List Int) (i j : Nat) : TriK t i j 0 := fun i h => absurd h (by omega)
theorem TriJ.zero (t : List Int) (i : Nat) : TriJ t i 0 := fun i h => absurd h (by omega)
theorem TriI.zero (t : List Int) : TriI t 0 := fun i h => absurd h (by omega)
theorem TriK.next {t : List Int} {i j n : Nat} (h : TriK t i j n) (hk : TriQ t i j n) : TriK t i j (n + 1) := fun k hk1 => by
  rcases Nat.lt_or_ge k n with h1 | h1
  · exact h k h1
  · rw [show k = n by omega]; exact hk
theorem TriJ.next {t : List Int} {i n : Nat} (h : TriJ t i n) (hk : TriK t i n 3) : TriJ t i (n + 1) := fun k hk1 => by
  rcases Nat.lt_or_ge k n with h1 | h1
  · exact h k h1
  · rw [show k = n by omega]; exact hk
theorem TriI.next {t : List Int} {n : Nat} (h : TriI t n) (hk : TriJ t n 3) : TriI t (n + 1) := fun k hk1 => by
  rcases Nat.lt_or_ge k n with h1 | h1
  · exact h k h1
  · rw [show k = n by omega]; exact hk
theorem TriI.tri {t : List Int} (h : TriI t 3) : Tri t := fun i hi j hj k hk h1 h2 h3 => h i hi j hj k hk h1 h2 h3
theorem Tri.no {t : List Int} {i j k : Nat} (hi : i < 3) (hj : j < 3) (hk : k < 3) (h1 : i ≠ j) (h2 : i ≠ k) (h3 : j ≠ k) (hn : ¬ T t (2 ^ i + 2 ^ j) + T t (2 ^ k) ≤ max (T t (2 ^ i + 2 ^ k) + T t (2 ^ j)) (T t (2 ^ j + 2 ^ k) + T t (2 ^ i))) : ¬ Tri t := fun h => hn (h i hi j hj k hk h1 h2 h3)
/-- Three different things, as sets. -/
theorem three_fit {i j k : Nat} (hi : i < 3) (hj : j < 3) (hk : k < 3) (h1 : i ≠ j) (h2 : i ≠ k) (h3 : j ≠ k) :
    bits .or .i64 ((2 ^ i : Nat) : Int) ((2 ^ j : Nat) : Int) = ((2 ^ i + 2 ^ j : Nat) : Int) ∧ bits .or .i64 ((2 ^ i : Nat) : Int) ((2 ^ k : Nat) : Int) = ((2 ^ i + 2 ^ k : Nat) : Int) ∧ bits .or .i64 ((2 ^ j : Nat) : Int) ((2 ^ k : Nat) : Int) = ((2 ^ j + 2 ^ k : Nat) : Int) ∧
    bits .or .i64 ((2 ^ i + 2 ^ j : Nat) : Int) ((2 ^ k : Nat) : Int) = 7 ∧ bits .or .i64 0 ((2 ^ i : Nat) : Int) = ((2 ^ i : Nat) : Int) ∧ bits .or .i64 0 ((2 ^ j : Nat) : Int) = ((2 ^ j : Nat) : Int) ∧ bits .or .i64 0 ((2 ^ k : Nat) : Int) = ((2 ^ k : Nat) : Int) ∧
    2 ^ i + 2 ^ j < 8 ∧ 2 ^ i + 2 ^ k < 8 ∧ 2 ^ j + 2 ^ k < 8 ∧ 2 ^ i < 8 ∧ 2 ^ j < 8 ∧ 2 ^ k < 8 := by
  rcases nat3 hi with rfl | rfl | rfl <;> rcases nat3 hj with rfl | rfl | rfl <;> rcases nat3 hk with rfl | rfl | rfl <;>
    first
    | exact absurd rfl h1
    | exact absurd rfl h2
    | exact absurd rfl h3
    | decide
theorem and7 {s : Nat} (hs : s < 8) : bits .and .i64 (s : Int) 7 = (s : Int) := by
  rcases nat8 hs with rfl | rfl | rfl | rfl | rfl | rfl | rfl | rfl <;> decide

end Go.Proofs.Ytccbjgajmjcpjab

/-
  Chapter 6: the program's onesIn: the sets of one thing each that are in a set.
-/
namespace Go.Proofs.Ytccbjgajmjcpjab
open Go.RowKit

/-- The sets of one thing each, of the first k things of a set. -/
def onTo (s k : Nat) : List Int := ((th s).take k).map (fun j => ((2 ^ j.toNat : Nat) : Int))
def on (s : Nat) : List Int := (th s).map (fun j => ((2 ^ j.toNat : Nat) : Int))
theorem onTo_zero (s : Nat) : onTo s 0 = [] := by simp [onTo]
theorem onTo_all (s : Nat) : onTo s (th s).length = on s := by simp [onTo, on]
theorem onTo_step {s k j : Nat} (h : (th s)[k]? = some (j : Int)) : onTo s (k + 1) = onTo s k ++ [((2 ^ j : Nat) : Int)] := by
  unfold onTo
  rw [List.take_add_one, h]
  simp
theorem on_len (s : Nat) : (on s).length = (th s).length := by simp [on]
theorem onTo_len {s k : Nat} (h : k ≤ (th s).length) : (onTo s k).length = k := by simp [onTo]; omega
theorem on_mem {s : Nat} {x : Int} (h : x ∈ on s) : ∃ j : Nat, j < 3 ∧ s / 2 ^ j % 2 = 1 ∧ x = ((2 ^ j : Nat) : Int) := by
  unfold on at h
  obtain ⟨y, hy, rfl⟩ := List.mem_map.1 h
  obtain ⟨j, rfl, hj, hb⟩ := thTo_mem hy
  exact ⟨j, hj, hb, by simp⟩
theorem on_has {s j : Nat} (hj : j < 3) (hb : s / 2 ^ j % 2 = 1) : ((2 ^ j : Nat) : Int) ∈ on s := by
  have key : ∀ k, j < k → (j : Int) ∈ thTo s k := by
    intro k
    induction k with
    | zero => intro h; omega
    | succ k ih =>
      intro h
      simp only [thTo]
      rcases Nat.lt_or_ge j k with h1 | h1
      · have := ih h1
        split
        · exact List.mem_append.2 (.inl this)
        · exact this
      · obtain rfl : j = k := by omega
        rw [if_pos hb]
        simp
  exact List.mem_map.2 ⟨(j : Int), key 3 hj, by simp⟩
theorem shl_one {j : Nat} (hj : j < 3) : ∃ v, v = ((2 ^ j : Nat) : Int) ∧ (v = 1 ∨ v = 2 ∨ v = 4) := ⟨_, rfl, by rcases nat3 hj with rfl | rfl | rfl <;> simp⟩

set_option maxHeartbeats 1600000 in
theorem onesIn_any (s : Nat) (hs : s < 8) (w : World) :
    Calls Try.prog 173 #[.int .i64 (s : Int)] w fun e w' => ∃ A c, e = .returned (.slice A (on s).length c) ∧ Own w' w.heap.size A c (on s) ∧ Below w.heap.size w w' := by
  have HT := Lib.hid (thingsIn_any s hs w)
  have hln := th_le s
  have HM := Lib.hid (fun (i : Nat) (x : Int) (h : (th s)[i]? = some x) => th_at h)
  have HS := Lib.hid (fun (i j : Nat) (h : (th s)[i]? = some (j : Int)) => onTo_step h)
  have HA := Lib.hid (onTo_all s)
  have HLN : Hid ((onTo s (th s).length).length = (th s).length) := Lib.hid (onTo_len (Nat.le_refl _))
  obtain ⟨L, hL⟩ : ∃ L, L = th s := ⟨_, rfl⟩
  rw [← hL] at HT hln HM HS HA HLN
  clear hL
  go_enter Try.func173, Try.ntmps173
  go_wp2_with (go_at_call 144; refine HT.out.mono ?_; rintro e w1 ⟨A1, c1, rfl, HO, hb⟩)
  have HLL : Hid (L.length = (on s).length) := Lib.hid (by rw [← HA.out]; exact HLN.out.symm)
  go_loopw [3, 9] (fun o i wr => ∃ (k : Nat) (A2 : Option Addr) (c2 : Nat), k ≤ L.length ∧ o = .slice A2 k c2 ∧ i = .int .i64 (k : Int) ∧ Hid ((onTo s k).length = k) ∧ Hid (Own wr w1.heap.size A2 c2 (onTo s k)) ∧ Below w1.heap.size w1 wr) (fun _ i _ => L.length - (intOf i).toNat)
  case atStart => exact ⟨0, none, 0, Nat.zero_le _, rfl, rfl, Lib.hid (by rw [onTo_zero]; rfl), Lib.hid (by rw [onTo_zero]; exact own_none _ _), Below.refl _ _⟩
  case round =>
    obtain ⟨k, A2, c2, hk, rfl, rfl, HN, HO2, hb2⟩ := hrel
    by_cases hlt : k < L.length
    · obtain ⟨b, off, x, rfl, _, hx, hc⟩ := (HO.rd.below hb2).at_ hlt
      obtain ⟨j, rfl, hj, hbit⟩ := HM.out k x hx.out
      have hk1 : k + 1 ≤ L.length := hlt
      have hk3 : k < 3 := by omega
      clear hbit
      have : j = 0 ∨ j = 1 ∨ j = 2 := by omega
      rcases this with rfl | rfl | rfl
      · have HS' : Hid (onTo s (k + 1) = onTo s k ++ [(1 : Int)]) := Lib.hid (HS.out k 0 hx.out)
        have HOL : Hid (Own (wr.alloc (.cells #[.int .i64 1] 3)) wr.heap.size (some ⟨wr.heap.size, 0, none⟩) 1 [(1 : Int)]) := Lib.hid (own_lit wr [(1 : Int)] (by simp))
        have HOA : Hid (Own (wr.alloc (.cells #[.int .i64 1] 3)) w1.heap.size A2 c2 (onTo s k)) := Lib.hid (World.ownsRow.alloc HO2.out _)
        have hbA := hb2.alloc hb2.size (.cells #[.int .i64 1] 3)
        clear hx HO2 hlt
        go_wp2_with (at_builtin; refine wpList_append_any rfl _ _ 26 Try.underlying26 rfl w1.heap.size A2 c2 (onTo s k) k HN.out rfl HOA.out _ _ [(1 : Int)] 1 rfl rfl HOL.out.rd (by omega) hbA.size ?_; intro A4 c4 w4 o4 g4)
        have B4 := Own.grownBelow0 hbA HOA.out hbA.size g4
        have HO4 : Hid (Own w4 w1.heap.size A4 c4 (onTo s (k + 1))) := Lib.hid (by rw [HS'.out]; exact o4)
        have HN4 : Hid ((onTo s (k + 1)).length = k + 1) := Lib.hid (by rw [HS'.out, List.length_append, HN.out]; rfl)
        go_wp2
        go_roundw
        case rel => exact ⟨k + 1, A4, c4, hk1, rfl, by go_num, HN4, HO4, B4⟩
        case measure => simp [intOf]; omega
      · have HS' : Hid (onTo s (k + 1) = onTo s k ++ [(2 : Int)]) := Lib.hid (HS.out k 1 hx.out)
        have HOL : Hid (Own (wr.alloc (.cells #[.int .i64 2] 3)) wr.heap.size (some ⟨wr.heap.size, 0, none⟩) 1 [(2 : Int)]) := Lib.hid (own_lit wr [(2 : Int)] (by simp))
        have HOA : Hid (Own (wr.alloc (.cells #[.int .i64 2] 3)) w1.heap.size A2 c2 (onTo s k)) := Lib.hid (World.ownsRow.alloc HO2.out _)
        have hbA := hb2.alloc hb2.size (.cells #[.int .i64 2] 3)
        clear hx HO2 hlt
        go_wp2_with (at_builtin; refine wpList_append_any rfl _ _ 26 Try.underlying26 rfl w1.heap.size A2 c2 (onTo s k) k HN.out rfl HOA.out _ _ [(2 : Int)] 1 rfl rfl HOL.out.rd (by omega) hbA.size ?_; intro A4 c4 w4 o4 g4)
        have B4 := Own.grownBelow0 hbA HOA.out hbA.size g4
        have HO4 : Hid (Own w4 w1.heap.size A4 c4 (onTo s (k + 1))) := Lib.hid (by rw [HS'.out]; exact o4)
        have HN4 : Hid ((onTo s (k + 1)).length = k + 1) := Lib.hid (by rw [HS'.out, List.length_append, HN.out]; rfl)
        go_wp2
        go_roundw
        case rel => exact ⟨k + 1, A4, c4, hk1, rfl, by go_num, HN4, HO4, B4⟩
        case measure => simp [intOf]; omega
      · have HS' : Hid (onTo s (k + 1) = onTo s k ++ [(4 : Int)]) := Lib.hid (HS.out k 2 hx.out)
        have HOL : Hid (Own (wr.alloc (.cells #[.int .i64 4] 3)) wr.heap.size (some ⟨wr.heap.size, 0, none⟩) 1 [(4 : Int)]) := Lib.hid (own_lit wr [(4 : Int)] (by simp))
        have HOA : Hid (Own (wr.alloc (.cells #[.int .i64 4] 3)) w1.heap.size A2 c2 (onTo s k)) := Lib.hid (World.ownsRow.alloc HO2.out _)
        have hbA := hb2.alloc hb2.size (.cells #[.int .i64 4] 3)
        clear hx HO2 hlt
        go_wp2_with (at_builtin; refine wpList_append_any rfl _ _ 26 Try.underlying26 rfl w1.heap.size A2 c2 (onTo s k) k HN.out rfl HOA.out _ _ [(4 : Int)] 1 rfl rfl HOL.out.rd (by omega) hbA.size ?_; intro A4 c4 w4 o4 g4)
        have B4 := Own.grownBelow0 hbA HOA.out hbA.size g4
        have HO4 : Hid (Own w4 w1.heap.size A4 c4 (onTo s (k + 1))) := Lib.hid (by rw [HS'.out]; exact o4)
        have HN4 : Hid ((onTo s (k + 1)).length = k + 1) := Lib.hid (by rw [HS'.out, List.length_append, HN.out]; rfl)
        go_wp2
        go_roundw
        case rel => exact ⟨k + 1, A4, c4, hk1, rfl, by go_num, HN4, HO4, B4⟩
        case measure => simp [intOf]; omega
    · obtain rfl : k = L.length := by omega
      have HO3 : Hid (Own wr w1.heap.size A2 c2 (on s)) := Lib.hid (by rw [← HA.out]; exact HO2.out)
      go_wp2
      go_ret
      exact ⟨A2, c2, by rw [← HLL.out]; rfl, HO3.out.base hb.size, hb.trans (hb2.mono hb.size)⟩

/-- An append to a slice of the call's own, or to none, as a step of a region that draws its order. -/
theorem step_append_any {ops : Array Oper} {o : Oper} {a : Act} {w : World} {K : Act → World → Prop} {Q : Exit → Act → World → Prop} {E : Prop} (hgd : o.guard = none) (s x : Operand)
    (ho : o.op = .call { callee := .builtin .append, args := #[s, x], argTypes := #[26, 26] })
    (base : Nat) (A0 : Option Addr) (c0 : Nat) (xs : List Int) (n : Nat) (hxn : xs.length = n) (hs : a.eval s = .slice A0 n c0) (hown : Own w base A0 c0 xs)
    (A : Option Addr) (c : Nat) (zs : List Int) (m : Nat) (hzm : zs.length = m) (hx : a.eval x = .slice A m c) (hr : Rd w A c zs)
    (hn : n + m ≤ 1099511627776) (hbase : base ≤ w.heap.size)
    (h : ∀ A' c' w', Own w' base A' c' (xs ++ zs) → w.grownBy w' (ofA A0) → K (a.put o.dst (.slice A' (n + m) c')) w') :
    if Region.wanted o (yielded ops a.tmps) = true then Oper.wp Try.prog o a w K Q else E := by
  have hw : Region.wanted o (yielded ops a.tmps) = true := by simp [Region.wanted, hgd]
  rw [if_pos hw]
  subst hxn hzm
  obtain ⟨A', c', w', hrun, h1, h2⟩ := run_append_intsT 26 o.type Try.underlying26 w base A0 c0 xs hown A c zs hr hn hbase
  unfold Oper.wp execOp
  simp only [ho, resolve, invoke, builtin, Sem.run_bind, Sem.run_pure, Result.andThen_ok, List.map_toArray, List.map_cons, List.map_nil, hs, hx, hrun]
  exact h A' c' w' h1 h2

end Go.Proofs.Ytccbjgajmjcpjab

/-
  Chapter 6: which things may be moved, by the model: moves, byMoves, SwapsByMoves.
-/
namespace Go.Proofs.Ytccbjgajmjcpjab
open Go.RowKit

noncomputable def moB (t : List Int) (s x i : Nat) : Bool := @decide (MvOne t s x i) (Classical.propDecidable _)
theorem moB_true {t : List Int} {s x i : Nat} (h : MvOne t s x i) : moB t s x i = true := by unfold moB; simp [h]
theorem moB_false {t : List Int} {s x i : Nat} (h : ¬ MvOne t s x i) : moB t s x i = false := by unfold moB; simp [h]
theorem moB_iff {t : List Int} {s x i : Nat} : moB t s x i = true ↔ MvOne t s x i := by unfold moB; simp
/-- None of the first k things can be moved back. -/
def MvNo (t : List Int) (s x i k : Nat) : Prop := ∀ j, j < k → x / 2 ^ j % 2 = 1 → s / 2 ^ j % 2 = 0 → ¬ T t s + T t x ≤ T t (s - 2 ^ i + 2 ^ j) + T t (x + 2 ^ i - 2 ^ j)
theorem MvNo.zero (t : List Int) (s x i : Nat) : MvNo t s x i 0 := fun j h => absurd h (by omega)
theorem MvNo.next {t : List Int} {s x i k : Nat} (h : MvNo t s x i k) (hk : x / 2 ^ k % 2 = 1 → s / 2 ^ k % 2 = 0 → ¬ T t s + T t x ≤ T t (s - 2 ^ i + 2 ^ k) + T t (x + 2 ^ i - 2 ^ k)) : MvNo t s x i (k + 1) := fun j hj => by
  rcases Nat.lt_or_ge j k with h1 | h1
  · exact h j h1
  · rw [show j = k by omega]; exact hk
theorem moB_all {t : List Int} {s x i : Nat} (h0 : ¬ T t s + T t x ≤ T t (s - 2 ^ i) + T t (x + 2 ^ i)) (h : MvNo t s x i 3) : moB t s x i = false := moB_false (by
  rintro (h1 | ⟨j, hj, h1, h2, h3⟩)
  · exact h0 h1
  · exact h j hj h1 h2 h3)
theorem mv_fit {s x i : Nat} (hs : s < 8) (hx : x < 8) (hi : i < 3) (h1 : s / 2 ^ i % 2 = 1) (h0 : x / 2 ^ i % 2 = 0) : 2 ^ i ≤ s ∧ x + 2 ^ i < 8 ∧ 2 ^ i ≤ 4 := by
  rcases nat3 hi with rfl | rfl | rfl <;> simp at h1 h0 ⊢ <;> omega
theorem mv_fit2 {s x i j : Nat} (hs : s < 8) (hx : x < 8) (hi : i < 3) (hj : j < 3) (h1 : s / 2 ^ i % 2 = 1) (h0 : x / 2 ^ i % 2 = 0) (g1 : x / 2 ^ j % 2 = 1) (g0 : s / 2 ^ j % 2 = 0) : s - 2 ^ i + 2 ^ j < 8 ∧ 2 ^ j ≤ x + 2 ^ i ∧ 2 ^ j ≤ 4 := by
  rcases nat3 hi with rfl | rfl | rfl <;> rcases nat3 hj with rfl | rfl | rfl <;> simp at h1 h0 g1 g0 ⊢ <;> omega

end Go.Proofs.Ytccbjgajmjcpjab
