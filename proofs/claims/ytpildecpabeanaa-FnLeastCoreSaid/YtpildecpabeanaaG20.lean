/-
  Chapter 6: the program's onesIn: the sets of one thing each that are in a set.
-/
import Derived.Test.YtpildecpabeanaaG05
import Derived.Deep.RegionLaw
import Derived.Test.YtpildecpabeanaaG02
namespace Go.Proofs.Ytpildecpabeanaa
open Go.RowKit

/-- The sets of one thing each, of the first k things of a set. -/
def onTo (s k : Nat) : List Int := ((th s).take k).map (fun j => ((2 ^ j.toNat : Nat) : Int))
def on (s : Nat) : List Int := (th s).map (fun j => ((2 ^ j.toNat : Nat) : Int))
theorem onTo_zero (s : Nat) : onTo s 0 = [] := by simp [onTo]
theorem onTo_all (s : Nat) : onTo s (th s).length = on s := by simp [onTo, on]
theorem onTo_step {s k j : Nat} (h : (th s)[k]? = some (j : Int)) : onTo s (k + 1) = onTo s k ++ [((2 ^ j : Nat) : Int)] := by
  unfold onTo
  rw [List.take_add_one, h]
  simp
theorem on_len (s : Nat) : (on s).length = (th s).length := by simp [on]
theorem onTo_len {s k : Nat} (h : k ≤ (th s).length) : (onTo s k).length = k := by simp [onTo]; omega
theorem on_mem {s : Nat} {x : Int} (h : x ∈ on s) : ∃ j : Nat, j < 3 ∧ s / 2 ^ j % 2 = 1 ∧ x = ((2 ^ j : Nat) : Int) := by
  unfold on at h
  obtain ⟨y, hy, rfl⟩ := List.mem_map.1 h
  obtain ⟨j, rfl, hj, hb⟩ := thTo_mem hy
  exact ⟨j, hj, hb, by simp⟩
theorem on_has {s j : Nat} (hj : j < 3) (hb : s / 2 ^ j % 2 = 1) : ((2 ^ j : Nat) : Int) ∈ on s := by
  have key : ∀ k, j < k → (j : Int) ∈ thTo s k := by
    intro k
    induction k with
    | zero => intro h; omega
    | succ k ih =>
      intro h
      simp only [thTo]
      rcases Nat.lt_or_ge j k with h1 | h1
      · have := ih h1
        split
        · exact List.mem_append.2 (.inl this)
        · exact this
      · obtain rfl : j = k := by omega
        rw [if_pos hb]
        simp
  exact List.mem_map.2 ⟨(j : Int), key 3 hj, by simp⟩
theorem shl_one {j : Nat} (hj : j < 3) : ∃ v, v = ((2 ^ j : Nat) : Int) ∧ (v = 1 ∨ v = 2 ∨ v = 4) := ⟨_, rfl, by rcases nat3 hj with rfl | rfl | rfl <;> simp⟩

/-- An append to a slice of the call's own, or to none, as a step of a region that draws its order. -/
theorem step_append_any {ops : Array Oper} {o : Oper} {a : Act} {w : World} {K : Act → World → Prop} {Q : Exit → Act → World → Prop} {E : Prop} (hgd : o.guard = none) (s x : Operand)
    (ho : o.op = .call { callee := .builtin .append, args := #[s, x], argTypes := #[23, 23] })
    (base : Nat) (A0 : Option Addr) (c0 : Nat) (xs : List Int) (n : Nat) (hxn : xs.length = n) (hs : a.eval s = .slice A0 n c0) (hown : Own w base A0 c0 xs)
    (A : Option Addr) (c : Nat) (zs : List Int) (m : Nat) (hzm : zs.length = m) (hx : a.eval x = .slice A m c) (hr : Rd w A c zs)
    (hn : n + m ≤ 1099511627776) (hbase : base ≤ w.heap.size)
    (h : ∀ A' c' w', Own w' base A' c' (xs ++ zs) → w.grownBy w' (ofA A0) → K (a.put o.dst (.slice A' (n + m) c')) w') :
    if Region.wanted o (yielded ops a.tmps) = true then Oper.wp Try.prog o a w K Q else E := by
  have hw : Region.wanted o (yielded ops a.tmps) = true := by simp [Region.wanted, hgd]
  rw [if_pos hw]
  subst hxn hzm
  obtain ⟨A', c', w', hrun, h1, h2⟩ := run_append_intsT 23 o.type Try.underlying23 w base A0 c0 xs hown A c zs hr hn hbase
  unfold Oper.wp execOp
  simp only [ho, resolve, invoke, builtin, Sem.run_bind, Sem.run_pure, Result.andThen_ok, List.map_toArray, List.map_cons, List.map_nil, hs, hx, hrun]
  exact h A' c' w' h1 h2

end Go.Proofs.Ytpildecpabeanaa

/-
  Chapter 6, plain: what may be moved stays in demand where prices of other things are raised.
-/
namespace Go.Proofs.Ytpildecpabeanaa

/-- What is left of a set by eight numbers and three prices. -/
def lv (f : Nat → Int) (a b c : Int) (s : Nat) : Int := f s - (((s % 2 : Nat) : Int) * a + ((s / 2 % 2 : Nat) : Int) * b + ((s / 4 % 2 : Nat) : Int) * c)
/-- A set is in demand. -/
def Dm (f : Nat → Int) (a b c : Int) (s : Nat) : Prop := s < 8 ∧ ∀ x, x < 8 → lv f a b c x ≤ lv f a b c s
theorem lv_vals (f : Nat → Int) (a b c : Int) : lv f a b c 0 = f 0 ∧ lv f a b c 1 = f 1 - a ∧ lv f a b c 2 = f 2 - b ∧ lv f a b c 3 = f 3 - (a + b) ∧ lv f a b c 4 = f 4 - c ∧ lv f a b c 5 = f 5 - (a + c) ∧ lv f a b c 6 = f 6 - (b + c) ∧ lv f a b c 7 = f 7 - (a + b + c) := by
  simp [lv]
theorem Dm.all {f : Nat → Int} {a b c : Int} {s : Nat} (h : Dm f a b c s) : (f 0 ≤ lv f a b c s) ∧ (f 1 - a ≤ lv f a b c s) ∧ (f 2 - b ≤ lv f a b c s) ∧ (f 3 - (a + b) ≤ lv f a b c s) ∧ (f 4 - c ≤ lv f a b c s) ∧ (f 5 - (a + c) ≤ lv f a b c s) ∧ (f 6 - (b + c) ≤ lv f a b c s) ∧ (f 7 - (a + b + c) ≤ lv f a b c s) := by
  have v := lv_vals f a b c
  have g := h.2
  have g0 := g 0 (by omega); have g1 := g 1 (by omega); have g2 := g 2 (by omega); have g3 := g 3 (by omega); have g4 := g 4 (by omega); have g5 := g 5 (by omega); have g6 := g 6 (by omega); have g7 := g 7 (by omega)
  omega
theorem Dm.of {f : Nat → Int} {a b c : Int} {s : Nat} (hs : s < 8) (h : (f 0 ≤ lv f a b c s) ∧ (f 1 - a ≤ lv f a b c s) ∧ (f 2 - b ≤ lv f a b c s) ∧ (f 3 - (a + b) ≤ lv f a b c s) ∧ (f 4 - c ≤ lv f a b c s) ∧ (f 5 - (a + c) ≤ lv f a b c s) ∧ (f 6 - (b + c) ≤ lv f a b c s) ∧ (f 7 - (a + b + c) ≤ lv f a b c s)) : Dm f a b c s := by
  have v := lv_vals f a b c
  refine ⟨hs, fun x hx => ?_⟩
  rcases nat8 hx with rfl | rfl | rfl | rfl | rfl | rfl | rfl | rfl <;> omega
/-- There is one in demand. -/
theorem dm_max (g : Nat → Int) : ∃ s, s < 8 ∧ ∀ x, x < 8 → g x ≤ g s := by
  have : ∀ k, ∃ s, s ≤ k ∧ ∀ x, x ≤ k → g x ≤ g s := by
    intro k
    induction k with
    | zero => exact ⟨0, by omega, fun x hx => by rw [show x = 0 by omega]; omega⟩
    | succ k ih =>
      obtain ⟨s, hs, h⟩ := ih
      rcases Int.le_total (g s) (g (k + 1)) with h1 | h1
      · exact ⟨k + 1, by omega, fun x hx => by
          rcases Nat.lt_or_ge x (k + 1) with h2 | h2
          · have := h x (by omega); omega
          · rw [show x = k + 1 by omega]; omega⟩
      · exact ⟨s, by omega, fun x hx => by
          rcases Nat.lt_or_ge x (k + 1) with h2 | h2
          · exact h x (by omega)
          · rw [show x = k + 1 by omega]; exact h1⟩
  obtain ⟨s, hs, h⟩ := this 7
  exact ⟨s, by omega, fun x hx => h x (by omega)⟩
theorem Dm.some_ (f : Nat → Int) (a b c : Int) : ∃ s, Dm f a b c s := by
  obtain ⟨s, hs, h⟩ := dm_max (lv f a b c)
  exact ⟨s, hs, h⟩

/-- The things of s but one are in x. -/
def KeepBut (k s x : Nat) : Prop := x < 8 ∧ ∀ j, j < 3 → j ≠ k → s / 2 ^ j % 2 = 1 → x / 2 ^ j % 2 = 1
theorem keep_self {k s : Nat} (hs : s < 8) : KeepBut k s s := ⟨hs, fun _ _ _ h => h⟩
theorem keepBut_of {k s x : Nat} (h : decide (x < 8) && (List.range 3).all (fun j => decide (j = k) || !decide (s / 2 ^ j % 2 = 1) || decide (x / 2 ^ j % 2 = 1)) = true) : KeepBut k s x := by
  simp only [Bool.and_eq_true, decide_eq_true_eq, List.all_eq_true, List.mem_range] at h
  refine ⟨h.1, fun j hj hk hb => ?_⟩
  have := h.2 j hj
  simp [hk, hb] at this
  exact this

set_option maxHeartbeats 2000000 in
/-- The price of the first thing is raised. -/
theorem raise0 {f : Nat → Int} (A : Mo f) {a b c d : Int} (hd : 0 ≤ d) {s : Nat} (h : Dm f a b c s) : ∃ x, Dm f (a + d) b c x ∧ KeepBut 0 s x := by
  obtain ⟨y, hy⟩ := Dm.some_ f (a + d) b c
  have h1 := h.all
  have h2 := hy.all
  have v1 := lv_vals f a b c
  have v2 := lv_vals f (a + d) b c
  obtain ⟨z, m3, m5, m6, m71, m72, m74, n1, n2, n4, t4, t2, t1⟩ := A
  have go : ∀ x, x < 8 → (f 0 ≤ lv f (a + d) b c x) ∧ (f 1 - (a + d) ≤ lv f (a + d) b c x) ∧ (f 2 - b ≤ lv f (a + d) b c x) ∧ (f 3 - ((a + d) + b) ≤ lv f (a + d) b c x) ∧ (f 4 - c ≤ lv f (a + d) b c x) ∧ (f 5 - ((a + d) + c) ≤ lv f (a + d) b c x) ∧ (f 6 - (b + c) ≤ lv f (a + d) b c x) ∧ (f 7 - ((a + d) + b + c) ≤ lv f (a + d) b c x) →
      (decide (x < 8) && (List.range 3).all (fun j => decide (j = 0) || !decide (s / 2 ^ j % 2 = 1) || decide (x / 2 ^ j % 2 = 1)) = true) → ∃ x, Dm f (a + d) b c x ∧ KeepBut 0 s x := fun x hx h3 h4 => ⟨x, Dm.of hx h3, keepBut_of h4⟩
  have hs := h.1
  have hy8 := hy.1
  clear h hy
  rcases nat8 hs with rfl | rfl | rfl | rfl | rfl | rfl | rfl | rfl
  · exact go 0 (by omega) (by omega) (by decide)
  · rcases nat8 hy8 with rfl | rfl | rfl | rfl | rfl | rfl | rfl | rfl
    · exact go 0 (by omega) (by omega) (by decide)
    · exact go 1 (by omega) (by omega) (by decide)
    · exact go 2 (by omega) (by omega) (by decide)
    · exact go 3 (by omega) (by omega) (by decide)
    · exact go 4 (by omega) (by omega) (by decide)
    · exact go 5 (by omega) (by omega) (by decide)
    · exact go 6 (by omega) (by omega) (by decide)
    · exact go 7 (by omega) (by omega) (by decide)
  · exact go 2 (by omega) (by omega) (by decide)
  · by_cases c3 : lv f (a + d) b c 3 = lv f (a + d) b c y
    · exact go 3 (by omega) (by omega) (by decide)
    · by_cases c2 : lv f (a + d) b c 2 = lv f (a + d) b c y
      · exact go 2 (by omega) (by omega) (by decide)
      · by_cases c6 : lv f (a + d) b c 6 = lv f (a + d) b c y
        · exact go 6 (by omega) (by omega) (by decide)
        · exfalso
          rcases nat8 hy8 with rfl | rfl | rfl | rfl | rfl | rfl | rfl | rfl <;> omega
  · exact go 4 (by omega) (by omega) (by decide)
  · by_cases c5 : lv f (a + d) b c 5 = lv f (a + d) b c y
    · exact go 5 (by omega) (by omega) (by decide)
    · by_cases c4 : lv f (a + d) b c 4 = lv f (a + d) b c y
      · exact go 4 (by omega) (by omega) (by decide)
      · by_cases c6 : lv f (a + d) b c 6 = lv f (a + d) b c y
        · exact go 6 (by omega) (by omega) (by decide)
        · exfalso
          rcases nat8 hy8 with rfl | rfl | rfl | rfl | rfl | rfl | rfl | rfl <;> omega
  · exact go 6 (by omega) (by omega) (by decide)
  · by_cases c7 : lv f (a + d) b c 7 = lv f (a + d) b c y
    · exact go 7 (by omega) (by omega) (by decide)
    · by_cases c6 : lv f (a + d) b c 6 = lv f (a + d) b c y
      · exact go 6 (by omega) (by omega) (by decide)
      · exfalso
        rcases nat8 hy8 with rfl | rfl | rfl | rfl | rfl | rfl | rfl | rfl <;> omega
set_option maxHeartbeats 2000000 in
/-- The price of the second thing is raised. -/
theorem raise1 {f : Nat → Int} (A : Mo f) {a b c d : Int} (hd : 0 ≤ d) {s : Nat} (h : Dm f a b c s) : ∃ x, Dm f a (b + d) c x ∧ KeepBut 1 s x := by
  obtain ⟨y, hy⟩ := Dm.some_ f a (b + d) c
  have h1 := h.all
  have h2 := hy.all
  have v1 := lv_vals f a b c
  have v2 := lv_vals f a (b + d) c
  obtain ⟨z, m3, m5, m6, m71, m72, m74, n1, n2, n4, t4, t2, t1⟩ := A
  have go : ∀ x, x < 8 → (f 0 ≤ lv f a (b + d) c x) ∧ (f 1 - a ≤ lv f a (b + d) c x) ∧ (f 2 - (b + d) ≤ lv f a (b + d) c x) ∧ (f 3 - (a + (b + d)) ≤ lv f a (b + d) c x) ∧ (f 4 - c ≤ lv f a (b + d) c x) ∧ (f 5 - (a + c) ≤ lv f a (b + d) c x) ∧ (f 6 - ((b + d) + c) ≤ lv f a (b + d) c x) ∧ (f 7 - (a + (b + d) + c) ≤ lv f a (b + d) c x) →
      (decide (x < 8) && (List.range 3).all (fun j => decide (j = 1) || !decide (s / 2 ^ j % 2 = 1) || decide (x / 2 ^ j % 2 = 1)) = true) → ∃ x, Dm f a (b + d) c x ∧ KeepBut 1 s x := fun x hx h3 h4 => ⟨x, Dm.of hx h3, keepBut_of h4⟩
  have hs := h.1
  have hy8 := hy.1
  clear h hy
  rcases nat8 hs with rfl | rfl | rfl | rfl | rfl | rfl | rfl | rfl
  · exact go 0 (by omega) (by omega) (by decide)
  · exact go 1 (by omega) (by omega) (by decide)
  · rcases nat8 hy8 with rfl | rfl | rfl | rfl | rfl | rfl | rfl | rfl
    · exact go 0 (by omega) (by omega) (by decide)
    · exact go 1 (by omega) (by omega) (by decide)
    · exact go 2 (by omega) (by omega) (by decide)
    · exact go 3 (by omega) (by omega) (by decide)
    · exact go 4 (by omega) (by omega) (by decide)
    · exact go 5 (by omega) (by omega) (by decide)
    · exact go 6 (by omega) (by omega) (by decide)
    · exact go 7 (by omega) (by omega) (by decide)
  · by_cases c3 : lv f a (b + d) c 3 = lv f a (b + d) c y
    · exact go 3 (by omega) (by omega) (by decide)
    · by_cases c1 : lv f a (b + d) c 1 = lv f a (b + d) c y
      · exact go 1 (by omega) (by omega) (by decide)
      · by_cases c5 : lv f a (b + d) c 5 = lv f a (b + d) c y
        · exact go 5 (by omega) (by omega) (by decide)
        · exfalso
          rcases nat8 hy8 with rfl | rfl | rfl | rfl | rfl | rfl | rfl | rfl <;> omega
  · exact go 4 (by omega) (by omega) (by decide)
  · exact go 5 (by omega) (by omega) (by decide)
  · by_cases c6 : lv f a (b + d) c 6 = lv f a (b + d) c y
    · exact go 6 (by omega) (by omega) (by decide)
    · by_cases c4 : lv f a (b + d) c 4 = lv f a (b + d) c y
      · exact go 4 (by omega) (by omega) (by decide)
      · by_cases c5 : lv f a (b + d) c 5 = lv f a (b + d) c y
        · exact go 5 (by omega) (by omega) (by decide)
        · exfalso
          rcases nat8 hy8 with rfl | rfl | rfl | rfl | rfl | rfl | rfl | rfl <;> omega
  · by_cases c7 : lv f a (b + d) c 7 = lv f a (b + d) c y
    · exact go 7 (by omega) (by omega) (by decide)
    · by_cases c5 : lv f a (b + d) c 5 = lv f a (b + d) c y
      · exact go 5 (by omega) (by omega) (by decide)
      · exfalso
        rcases nat8 hy8 with rfl | rfl | rfl | rfl | rfl | rfl | rfl | rfl <;> omega
set_option maxHeartbeats 2000000 in
/-- The price of the third thing is raised. -/
theorem raise2 {f : Nat → Int} (A : Mo f) {a b c d : Int} (hd : 0 ≤ d) {s : Nat} (h : Dm f a b c s) : ∃ x, Dm f a b (c + d) x ∧ KeepBut 2 s x := by
  obtain ⟨y, hy⟩ := Dm.some_ f a b (c + d)
  have h1 := h.all
  have h2 := hy.all
  have v1 := lv_vals f a b c
  have v2 := lv_vals f a b (c + d)
  obtain ⟨z, m3, m5, m6, m71, m72, m74, n1, n2, n4, t4, t2, t1⟩ := A
  have go : ∀ x, x < 8 → (f 0 ≤ lv f a b (c + d) x) ∧ (f 1 - a ≤ lv f a b (c + d) x) ∧ (f 2 - b ≤ lv f a b (c + d) x) ∧ (f 3 - (a + b) ≤ lv f a b (c + d) x) ∧ (f 4 - (c + d) ≤ lv f a b (c + d) x) ∧ (f 5 - (a + (c + d)) ≤ lv f a b (c + d) x) ∧ (f 6 - (b + (c + d)) ≤ lv f a b (c + d) x) ∧ (f 7 - (a + b + (c + d)) ≤ lv f a b (c + d) x) →
      (decide (x < 8) && (List.range 3).all (fun j => decide (j = 2) || !decide (s / 2 ^ j % 2 = 1) || decide (x / 2 ^ j % 2 = 1)) = true) → ∃ x, Dm f a b (c + d) x ∧ KeepBut 2 s x := fun x hx h3 h4 => ⟨x, Dm.of hx h3, keepBut_of h4⟩
  have hs := h.1
  have hy8 := hy.1
  clear h hy
  rcases nat8 hs with rfl | rfl | rfl | rfl | rfl | rfl | rfl | rfl
  · exact go 0 (by omega) (by omega) (by decide)
  · exact go 1 (by omega) (by omega) (by decide)
  · exact go 2 (by omega) (by omega) (by decide)
  · exact go 3 (by omega) (by omega) (by decide)
  · rcases nat8 hy8 with rfl | rfl | rfl | rfl | rfl | rfl | rfl | rfl
    · exact go 0 (by omega) (by omega) (by decide)
    · exact go 1 (by omega) (by omega) (by decide)
    · exact go 2 (by omega) (by omega) (by decide)
    · exact go 3 (by omega) (by omega) (by decide)
    · exact go 4 (by omega) (by omega) (by decide)
    · exact go 5 (by omega) (by omega) (by decide)
    · exact go 6 (by omega) (by omega) (by decide)
    · exact go 7 (by omega) (by omega) (by decide)
  · by_cases c5 : lv f a b (c + d) 5 = lv f a b (c + d) y
    · exact go 5 (by omega) (by omega) (by decide)
    · by_cases c1 : lv f a b (c + d) 1 = lv f a b (c + d) y
      · exact go 1 (by omega) (by omega) (by decide)
      · by_cases c3 : lv f a b (c + d) 3 = lv f a b (c + d) y
        · exact go 3 (by omega) (by omega) (by decide)
        · exfalso
          rcases nat8 hy8 with rfl | rfl | rfl | rfl | rfl | rfl | rfl | rfl <;> omega
  · by_cases c6 : lv f a b (c + d) 6 = lv f a b (c + d) y
    · exact go 6 (by omega) (by omega) (by decide)
    · by_cases c2 : lv f a b (c + d) 2 = lv f a b (c + d) y
      · exact go 2 (by omega) (by omega) (by decide)
      · by_cases c3 : lv f a b (c + d) 3 = lv f a b (c + d) y
        · exact go 3 (by omega) (by omega) (by decide)
        · exfalso
          rcases nat8 hy8 with rfl | rfl | rfl | rfl | rfl | rfl | rfl | rfl <;> omega
  · by_cases c7 : lv f a b (c + d) 7 = lv f a b (c + d) y
    · exact go 7 (by omega) (by omega) (by decide)
    · by_cases c3 : lv f a b (c + d) 3 = lv f a b (c + d) y
      · exact go 3 (by omega) (by omega) (by decide)
      · exfalso
        rcases nat8 hy8 with rfl | rfl | rfl | rfl | rfl | rfl | rfl | rfl <;> omega
/-- The things of a set whose prices stay are in another one. -/
theorem raised {f : Nat → Int} (A : Mo f) {a b c a' b' c' : Int} (ha : a ≤ a') (hb : b ≤ b') (hc : c ≤ c') {s : Nat} (h : Dm f a b c s) :
    ∃ x, Dm f a' b' c' x ∧ (a = a' → s % 2 = 1 → x % 2 = 1) ∧ (b = b' → s / 2 % 2 = 1 → x / 2 % 2 = 1) ∧ (c = c' → s / 4 % 2 = 1 → x / 4 % 2 = 1) := by
  have s1 : ∃ x, Dm f a' b c x ∧ (a = a' → s % 2 = 1 → x % 2 = 1) ∧ (s / 2 % 2 = 1 → x / 2 % 2 = 1) ∧ (s / 4 % 2 = 1 → x / 4 % 2 = 1) := by
    by_cases e : a = a'
    · subst e; exact ⟨s, h, fun _ h => h, fun h => h, fun h => h⟩
    · obtain ⟨x, h1, h2⟩ := raise0 A (d := a' - a) (by omega) h
      rw [show a + (a' - a) = a' by omega] at h1
      exact ⟨x, h1, fun h => absurd h e, fun hb => h2.2 1 (by omega) (by omega) hb, fun hb => h2.2 2 (by omega) (by omega) hb⟩
  obtain ⟨x1, h1, p1, p2, p3⟩ := s1
  have s2 : ∃ x, Dm f a' b' c x ∧ (x1 % 2 = 1 → x % 2 = 1) ∧ (b = b' → x1 / 2 % 2 = 1 → x / 2 % 2 = 1) ∧ (x1 / 4 % 2 = 1 → x / 4 % 2 = 1) := by
    by_cases e : b = b'
    · subst e; exact ⟨x1, h1, fun h => h, fun _ h => h, fun h => h⟩
    · obtain ⟨x, h1, h2⟩ := raise1 A (d := b' - b) (by omega) h1
      rw [show b + (b' - b) = b' by omega] at h1
      exact ⟨x, h1, fun hb => by simpa using h2.2 0 (by omega) (by omega) (by simpa using hb), fun h => absurd h e, fun hb => h2.2 2 (by omega) (by omega) hb⟩
  obtain ⟨x2, h2, q1, q2, q3⟩ := s2
  by_cases e : c = c'
  · subst e; exact ⟨x2, h2, fun e h => q1 (p1 e h), fun e h => q2 e (p2 h), fun _ h => q3 (p3 h)⟩
  · obtain ⟨x, h1, h3⟩ := raise2 A (d := c' - c) (by omega) h2
    rw [show c + (c' - c) = c' by omega] at h1
    exact ⟨x, h1, fun e h => by simpa using h3.2 0 (by omega) (by omega) (by simpa using q1 (p1 e h)), fun e h => h3.2 1 (by omega) (by omega) (q2 e (p2 h)), fun h => absurd h e⟩

theorem lf_lv (t p : List Int) {s : Nat} (hs : s < 8) : lf t p s = lv (T t) (T p 0) (T p 1) (T p 2) s := by
  rcases nat8 hs with rfl | rfl | rfl | rfl | rfl | rfl | rfl | rfl <;> simp [lf, pr, prTo, lv]
theorem dm_Dm {t p : List Int} (z : T t 0 = 0) {s : Nat} (hs : s < 8) : lf t p s = su t p ↔ Dm (T t) (T p 0) (T p 1) (T p 2) s := by
  obtain ⟨m, hm, e⟩ := su_got (p := p) z
  constructor
  · intro h
    refine ⟨hs, fun x hx => ?_⟩
    rw [← lf_lv t p hx, ← lf_lv t p hs, h]
    exact su_le hx
  · rintro ⟨_, h⟩
    have h1 := h m hm
    rw [← lf_lv t p hm, ← lf_lv t p hs] at h1
    have h2 := su_le (t := t) (p := p) hs
    omega

/-- The set of the things of the same prices, of the first k. -/
def smTo (p q : List Int) : Nat → Nat
  | 0 => 0
  | k + 1 => if T p k = T q k then smTo p q k + 2 ^ k else smTo p q k
def sm (p q : List Int) : Nat := smTo p q 3
theorem smTo_lt (p q : List Int) : ∀ k, smTo p q k < 2 ^ k
  | 0 => by simp [smTo]
  | k + 1 => by have := smTo_lt p q k; have e : 2 ^ (k + 1) = 2 ^ k + 2 ^ k := by omega
                simp only [smTo]; split <;> omega
theorem sm_lt (p q : List Int) : sm p q < 8 := smTo_lt p q 3
/-- What stays as dear stays in demand. -/
def Kd (t p q : List Int) : Prop := ∀ s, s < 8 → lf t p s = su t p → ∃ x, x < 8 ∧ lf t q x = su t q ∧ (s &&& sm p q) - (s &&& sm p q &&& x) = 0
theorem keep_and {s x m : Nat} (hs : s < 8) (hx : x < 8) (hm : m < 8) (h0 : m % 2 = 1 → s % 2 = 1 → x % 2 = 1) (h1 : m / 2 % 2 = 1 → s / 2 % 2 = 1 → x / 2 % 2 = 1) (h2 : m / 4 % 2 = 1 → s / 4 % 2 = 1 → x / 4 % 2 = 1) : (s &&& m) - (s &&& m &&& x) = 0 := by
  have := all3 (p := fun s x m => !((!(m % 2 == 1) || !(s % 2 == 1) || x % 2 == 1) && (!(m / 2 % 2 == 1) || !(s / 2 % 2 == 1) || x / 2 % 2 == 1) && (!(m / 4 % 2 == 1) || !(s / 4 % 2 == 1) || x / 4 % 2 == 1)) || (s &&& m) - (s &&& m &&& x) == 0) (by decide +kernel) hs hx hm
  simp at this
  rcases this with h | h
  · exfalso
    by_cases a0 : m % 2 = 1 <;> by_cases b0 : s % 2 = 1 <;> by_cases a1 : m / 2 % 2 = 1 <;> by_cases b1 : s / 2 % 2 = 1 <;> by_cases a2 : m / 4 % 2 = 1 <;> by_cases b2 : s / 4 % 2 = 1 <;> simp_all
  · omega
theorem sm_bits (p q : List Int) : (sm p q % 2 = 1 → T p 0 = T q 0) ∧ (sm p q / 2 % 2 = 1 → T p 1 = T q 1) ∧ (sm p q / 4 % 2 = 1 → T p 2 = T q 2) := by
  unfold sm
  simp only [smTo]
  by_cases a : T p 0 = T q 0 <;> by_cases b : T p 1 = T q 1 <;> by_cases c : T p 2 = T q 2 <;> simp [a, b, c]
/-- What may be moved keeps its demand. -/
theorem kd_of {t p q : List Int} (A : Mo (T t)) (h : ∀ k, k < 3 → T p k ≤ T q k) : Kd t p q := by
  intro s hs hd
  obtain ⟨x, hx, e0, e1, e2⟩ := raised A (h 0 (by omega)) (h 1 (by omega)) (h 2 (by omega)) ((dm_Dm A.z hs).1 hd)
  obtain ⟨b0, b1, b2⟩ := sm_bits p q
  exact ⟨x, hx.1, (dm_Dm A.z hx.1).2 hx, keep_and hs hx.1 (sm_lt p q) (fun h => e0 (b0 h)) (fun h => e1 (b1 h)) (fun h => e2 (b2 h))⟩
theorem kd_same {t p : List Int} : Kd t p p := fun s hs hd => ⟨s, hs, hd, by
  have := all2 (p := fun s m => (s &&& m) - (s &&& m &&& s) == 0) (by decide) hs (sm_lt p p)
  simpa using this⟩
/-- None of the prices is less. -/
def Up (p q : List Int) : Prop := ∀ k, k < 3 → T p k ≤ T q k
noncomputable def kdB (t p q : List Int) : Bool := @decide (VT t ∧ VP p ∧ VP q ∧ Up p q ∧ Kd t p q) (Classical.propDecidable _)
theorem kdB_iff {t p q : List Int} : kdB t p q = true ↔ VT t ∧ VP p ∧ VP q ∧ Up p q ∧ Kd t p q := by unfold kdB; simp
theorem kdB_true {t p q : List Int} (h : VT t ∧ VP p ∧ VP q ∧ Up p q ∧ Kd t p q) : kdB t p q = true := kdB_iff.2 h
theorem kdB_false {t p q : List Int} (h : ¬ (VT t ∧ VP p ∧ VP q ∧ Up p q ∧ Kd t p q)) : kdB t p q = false := by unfold kdB; simp only [decide_eq_false_iff_not]; exact h

end Go.Proofs.Ytpildecpabeanaa

/-
  Chapter 6: prices of things, what they leave, and what is in demand, by the model.
-/
namespace Go.Proofs.Ytpildecpabeanaa
open Go.RowKit

/-- The first k numbers are prices. -/
def PrOk (p : List Int) (k : Nat) : Prop := ∀ i, i < k → 0 ≤ T p i ∧ T p i ≤ 40
theorem PrOk.zero (p : List Int) : PrOk p 0 := fun i h => absurd h (by omega)
theorem PrOk.next {p : List Int} {k : Nat} (h : PrOk p k) (hk : 0 ≤ T p k ∧ T p k ≤ 40) : PrOk p (k + 1) := fun i hi => by
  rcases Nat.lt_or_ge i k with h1 | h1
  · exact h i h1
  · rw [show i = k by omega]; exact hk
theorem vp_of {p : List Int} (h : PrOk p p.length) (h3 : p.length = 3) : vp p = true := vp_true ⟨h3, fun k hk => h k (by omega)⟩
theorem vp_len {p : List Int} (h3 : ¬ p.length = 3) : vp p = false := vp_false (fun h => h3 h.1)

theorem prTo_bd {p : List Int} (h : VP p) {s : Nat} : ∀ j, j ≤ 3 → 0 ≤ prTo p s j ∧ prTo p s j ≤ 40 * j := by
  intro j
  induction j with
  | zero => intro _; simp [prTo]
  | succ j ih =>
    intro hj
    have h1 := ih (by omega)
    have h2 := h.2 j (by omega)
    simp only [prTo]
    generalize T p j = v at h2 ⊢
    rcases (show s / 2 ^ j % 2 = 0 ∨ s / 2 ^ j % 2 = 1 by omega) with e | e <;> rw [e]
    · simp only [Int.natCast_zero, Int.zero_mul]; omega
    · simp only [Int.natCast_one, Int.one_mul]; omega

set_option maxHeartbeats 800000 in
theorem SpriceOf_any (A : Option Addr) (c : Nat) (p : List Int) (s : Nat) (w : World) (h : Rd w A c p) (hp : VP p) (hs : s < 8) :
    Calls Try.prog 130 #[.slice A p.length c, .int .i64 (s : Int)] w fun e w' => e = .returned (.int .i64 (pr p s)) ∧ ∃ n, w' = w.drewN n := by
  have h3 := hp.1
  have HBD := Lib.hid (fun j (hj : j ≤ 3) => prTo_bd hp (s := s) j hj)
  have HV := Lib.hid hp
  clear hp
  rw [h3]
  go_enter Try.func130, Try.ntmps130
  go_wp2
  go_loopw [5, 6] (fun o i wr => ∃ k n : Nat, k ≤ 3 ∧ o = .int .i64 (prTo p s k) ∧ i = .int .i64 (k : Int) ∧ wr = w.drewN n) (fun _ i _ => 3 - (intOf i).toNat)
  case atStart => exact ⟨0, 0, by omega, rfl, rfl, rfl⟩
  case round =>
    obtain ⟨k, n, hk, rfl, rfl, rfl⟩ := hrel
    by_cases hlt : k < 3
    · obtain ⟨b, off, x, rfl, _, hx, hc⟩ := h.at_ (k := k) (by omega)
      have hT := T_of hx.out
      have HP : Hid (prTo p s (k + 1) = prTo p s k + ((s / 2 ^ k % 2 : Nat) : Int) * x) := Lib.hid (by simp only [prTo]; rw [hT])
      have HBit := Lib.hid (fun (m : Nat) => calls_q (w := w) (m := n) (Sbit_any s k hs hlt (w.drewN (n + m))))
      have hb0 := HBD.out k (by omega)
      have hxb := HV.out.2 k hlt
      rw [hT] at hxb
      have hu1 : s / 2 ^ k % 2 = 0 ∨ s / 2 ^ k % 2 = 1 := by omega
      obtain ⟨u, hu⟩ : ∃ u, u = s / 2 ^ k % 2 := ⟨_, rfl⟩
      obtain ⟨V, hV⟩ : ∃ V, V = prTo p s k := ⟨_, rfl⟩
      rw [← hu] at HP HBit hu1
      rw [← hV] at HP hb0 ⊢
      have hmul : 0 ≤ (u : Int) * x ∧ (u : Int) * x ≤ 40 := by rcases hu1 with rfl | rfl <;> simp <;> omega
      have e1 : IntKind.i64.wrap ((u : Int) * x) = (u : Int) * x := IntWalk.i64_in _ (by omega)
      have e2 : IntKind.i64.wrap (V + (u : Int) * x) = V + (u : Int) * x := IntWalk.i64_in _ (by omega)
      have hk3 : (k : Int) < 3 := by omega
      have hk0 : (0 : Int) ≤ (k : Int) := by omega
      have hk1 : k + 1 ≤ 3 := hlt
      clear hu hV hx hT hb0 hxb hmul hu1 hlt hs
      go_wp2_with fail
      go_quiet ((go_at_call 139; exact HBit.out _))
      go_wp2
      go_roundw
      case rel => exact ⟨k + 1, _, hk1, by rw [HP.out], by go_num, rfl⟩
      case measure => simp [intOf]; omega
    · obtain rfl : k = 3 := by omega
      go_wp2
      go_ret
      exact ⟨rfl, _, rfl⟩

theorem calls_qn {P : Program} {f : FuncId} {args : Array Value} {w : World} {m n : Nat} {v : Value} (h : Calls P f args (w.drewN (m + n)) fun e w' => e = .returned v ∧ ∃ k, w' = (w.drewN (m + n)).drewN k) :
    Calls P f args (w.drewN (m + n)) fun e w'' => e = .returned v ∧ ∃ k, w'' = w.drewN (m + k) := h.mono fun _ _ ⟨he, k, hw⟩ => ⟨he, n + k, by rw [hw, World.drewN_drewN, Nat.add_assoc]⟩

set_option maxHeartbeats 800000 in
theorem Ssurplus_any (A B : Option Addr) (c d : Nat) (t p : List Int) (w : World) (h : Rd w A c t) (g : Rd w B d p) (hv : VT t) (hp : VP p) :
    Calls Try.prog 161 #[.slice A t.length c, .slice B p.length d] w fun e w' => e = .returned (.int .i64 (su t p)) ∧ ∃ n, w' = w.drewN n := by
  have h8 := hv.1
  have HBD := Lib.hid (fun k (hk : k ≤ 8) => suTo_bd hv hp (k := k) hk)
  have HTB := Lib.hid (fun s (hs : s < 8) => hv.bd hs)
  have HPB := Lib.hid (fun s (hs : s < 8) => hp.bd hs)
  have HP := Lib.hid (fun s (hs : s < 8) w1 (g : Rd w1 B d p) => SpriceOf_any B d p s w1 g hp hs)
  clear hv hp
  rw [h8]
  go_enter Try.func161, Try.ntmps161
  go_wp2
  go_loopw [5, 6] (fun o i wr => ∃ k n : Nat, k ≤ 8 ∧ o = .int .i64 (suTo t p k) ∧ i = .int .i64 (k : Int) ∧ wr = w.drewN n) (fun _ i _ => 8 - (intOf i).toNat)
  case atStart => exact ⟨0, 0, by omega, rfl, rfl, rfl⟩
  case round =>
    obtain ⟨k, n, hk, rfl, rfl, rfl⟩ := hrel
    by_cases hlt : k < 8
    · obtain ⟨b, off, x, rfl, _, hx, hc⟩ := h.at_ (k := k) (by omega)
      have hT := T_of hx.out
      have HPC := Lib.hid (fun (m : Nat) => calls_qn (w := w) (m := n) (HP.out k hlt (w.drewN (n + m)) (g.drewN _)))
      have htb := HTB.out k hlt
      have hpb := HPB.out k hlt
      rw [hT] at htb
      obtain ⟨y, hy⟩ : ∃ y, y = pr p k := ⟨_, rfl⟩
      obtain ⟨V, hV⟩ : ∃ V, V = suTo t p k := ⟨_, rfl⟩
      have HS : Hid (suTo t p (k + 1) = if V < x - y then x - y else V) := Lib.hid (by simp only [suTo, lf]; rw [hT, ← hV, ← hy]; split <;> omega)
      rw [← hy] at HPC hpb
      rw [← hV]
      have e1 : IntKind.i64.wrap (x - y) = x - y := IntWalk.i64_in _ (by omega)
      have hk8 : (k : Int) < 8 := by omega
      have hk0 : (0 : Int) ≤ (k : Int) := by omega
      have hk1 : k + 1 ≤ 8 := hlt
      clear hy hV hx hT htb hpb hlt
      go_wp2_with fail
      go_quiet ((go_at_call 130; exact HPC.out _))
      go_wp2
      go_roundw
      case rel => exact ⟨k + 1, _, hk1, by rw [HS.out], by go_num, rfl⟩
      case measure => simp [intOf]; omega
    · obtain rfl : k = 8 := by omega
      go_wp2
      go_ret
      exact ⟨rfl, _, rfl⟩

/-- What SurplusAt tells. -/
noncomputable def suB (t p : List Int) : Int := if vt t && vp p then su t p else -1

/-- What DemandAt tells. -/
noncomputable def dmB (t p : List Int) : List Int := if vt t && vp p then dm t p else []
theorem dmTo_yes {t p : List Int} {k : Nat} (h : lf t p k = su t p) : dmTo t p (k + 1) = dmTo t p k ++ [(k : Int)] := by simp [dmTo, h]
theorem dmTo_no {t p : List Int} {k : Nat} (h : ¬ lf t p k = su t p) : dmTo t p (k + 1) = dmTo t p k := by simp [dmTo, h]

end Go.Proofs.Ytpildecpabeanaa
