/-
  Words for slices of ints in memory, and the contracts of the exact laws' helpers that copy, compare, mark and hold one.
-/
import Derived.Test.YtnojlapjkdihmaaProg
import Derived.WalkKit
import Derived.Lib.Hide
import Derived.Deep.QuietTactic
import Derived.BigQuiet
import Derived.Below
import Derived.Outline
import Derived.Deep.DeepFit
import Derived.Maps.AppendAt
import Derived.WalkLawsBesides
import Derived.WalkSpells
import Derived.Laws.AppendOwnNone
namespace Go.Proofs.Ytnojlapjkdihmaa
open Go.RowKit

/-- The slice (A, as long as zs, c) reads as the ints zs. -/
def Rd (w : World) (A : Option Addr) (c : Nat) (zs : List Int) : Prop :=
  (zs = [] ∧ (A = none → c = 0)) ∨ ∃ b off, A = some ⟨b, off, none⟩ ∧ ∀ k, k < zs.length → w.cell? ⟨b, off + k, none⟩ = some (.int .i64 (zs[k]?.getD 0))

/-- The slice (A, as long as zs, c) lies in a block of the call's own, from block B on, and holds the ints zs. -/
def Own (w : World) (B : Nat) (A : Option Addr) (c : Nat) (zs : List Int) : Prop :=
  w.ownsRow B 3 1 (.slice A zs.length c) zs.length (zs.map (Value.int .i64))

/-- The slice (A, as long as xs), which came in with capacity c, reads as the numbers xs of kind k, each fitting it. -/
def Came (k : IntKind) (w : World) (A : Option Addr) (c : Nat) (xs : List Int) : Prop :=
  xs.length ≤ c ∧ c ≤ maxLen ∧ (∀ n ∈ xs, (Lit.int k n).wf = true) ∧
    ((xs = [] ∧ (A = none → c = 0)) ∨ ∃ b off, A = some ⟨b, off, none⟩ ∧ ∀ j, j < xs.length → w.cell? ⟨b, off + j, none⟩ = some (.int k (xs[j]?.getD 0)))

theorem Came.nil (k : IntKind) (w : World) (A : Option Addr) : Came k w A 0 [] := ⟨Nat.zero_le _, Nat.zero_le _, (fun _ h => absurd h (by simp)), .inl ⟨rfl, fun _ => rfl⟩⟩

theorem Came.of {k : IntKind} {w : World} {x : Addr} {len cap : Nat} {zs : List Int} (hl : len ≤ cap) (hm : cap ≤ maxLen) (hz : zs.length = cap)
    (hcell : ∀ i, i < zs.length → w.cell? (x.add i) = some (.int k (zs.getD i 0))) (hwz : ∀ n ∈ zs, (Lit.int k n).wf = true) :
    ∃ xs, len = xs.length ∧ Came k w (some x) cap xs := by
  refine ⟨zs.take len, by simp; omega, by simp; omega, hm, fun n hn => hwz n (List.mem_of_mem_take hn), ?_⟩
  rcases Nat.eq_zero_or_pos len with h0 | h0
  · subst h0; exact .inl ⟨by simp, (fun h => by cases h)⟩
  · obtain ⟨b, off, spot⟩ := x
    have hs : spot = none := by simpa [Addr.add] using World.cell?_spot (hcell 0 (by omega))
    subst hs
    refine .inr ⟨b, off, rfl, fun j hj => ?_⟩
    have hj2 : j < len := by simp at hj; omega
    have := hcell j (by simp at hj; omega)
    rw [show (⟨b, off, none⟩ : Addr).add j = ⟨b, off + j, none⟩ by unfold Addr.add; split <;> simp_all] at this
    rw [this]
    simp [hj2]

theorem Came.rd {w : World} {A : Option Addr} {c : Nat} {xs : List Int} (h : Came .i64 w A c xs) : Rd w A c xs := by
  rcases h.2.2.2 with h | ⟨b, off, hA, hc⟩
  · exact .inl h
  · exact .inr ⟨b, off, hA, hc⟩

theorem Rd.nil (w : World) : Rd w none 0 [] := .inl ⟨rfl, fun _ => rfl⟩

theorem Rd.at_ {w : World} {A : Option Addr} {c : Nat} {zs : List Int} (h : Rd w A c zs) {k : Nat} (hk : k < zs.length) :
    ∃ b off x, A = some ⟨b, off, none⟩ ∧ b < w.heap.size ∧ Hid (zs[k]? = some x) ∧ w.cell? ⟨b, off + k, none⟩ = some (.int .i64 x) := by
  rcases h with ⟨rfl, _⟩ | ⟨b, off, rfl, hc⟩
  · simp at hk
  · have e : zs[k]? = some (zs[k]?.getD 0) := by simp [hk]
    exact ⟨b, off, _, rfl, World.block_lt_of_cell? w _ (hc k hk), e, hc k hk⟩

theorem Rd.below {w w' : World} {A : Option Addr} {c : Nat} {zs : List Int} (h : Rd w A c zs) (hb : Below w.heap.size w w') : Rd w' A c zs := by
  rcases h with h | ⟨b, off, rfl, hc⟩
  · exact .inl h
  · exact .inr ⟨b, off, rfl, fun k hk => (hb.cell (p := ⟨b, off + k, none⟩) (World.block_lt_of_cell? w _ (hc k hk))).trans (hc k hk)⟩

theorem Rd.drewN {w : World} {A : Option Addr} {c : Nat} {zs : List Int} (h : Rd w A c zs) (n : Nat) : Rd (w.drewN n) A c zs := h

theorem below_drewN' {B : Nat} {a w : World} (h : Below B a w) (n : Nat) : Below B a (w.drewN n) := h.trans ⟨rfl, rfl, rfl, Nat.le_refl _, fun _ _ => rfl⟩

theorem own_len {w : World} {B T sz : Nat} {v : Value} {n : Nat} {xs : List Value} (h : w.ownsRow B T sz v n xs) {w' : World} (hb : Below w.heap.size w w') : w'.ownsRow B T sz v n xs := by
  refine ⟨h.1, ?_⟩
  rcases h.2 with h2 | ⟨g, cap, cur, hv, hg, hh, r⟩
  · exact .inl h2
  · exact .inr ⟨g, cap, cur, hv, hg, (hb.block g (lt_of_block hh)).trans hh, r⟩

theorem own_base {w : World} {B B' T sz : Nat} {v : Value} {n : Nat} {xs : List Value} (h : w.ownsRow B T sz v n xs) (hB : B' ≤ B) : w.ownsRow B' T sz v n xs := by
  refine ⟨h.1, ?_⟩
  rcases h.2 with h2 | ⟨g, cap, cur, hv, hg, hh, r⟩
  · exact .inl h2
  · exact .inr ⟨g, cap, cur, hv, Nat.le_trans hB hg, hh, r⟩

theorem Own.below {w w' : World} {B : Nat} {A : Option Addr} {c : Nat} {zs : List Int} (h : Own w B A c zs) (hb : Below w.heap.size w w') : Own w' B A c zs := own_len h hb
theorem Own.base {w : World} {B B' : Nat} {A : Option Addr} {c : Nat} {zs : List Int} (h : Own w B A c zs) (hB : B' ≤ B) : Own w B' A c zs := own_base h hB
theorem Own.drewN {w : World} {B : Nat} {A : Option Addr} {c : Nat} {zs : List Int} (h : Own w B A c zs) (n : Nat) : Own (w.drewN n) B A c zs := h

theorem Own.rd {w : World} {B : Nat} {A : Option Addr} {c : Nat} {zs : List Int} (h : Own w B A c zs) : Rd w A c zs := by
  unfold Own at h
  rcases h.2 with ⟨hv, hn⟩ | ⟨g, cap, cur, hv, _⟩
  · injection hv with _ _ hc
    exact .inl ⟨List.eq_nil_of_length_eq_zero hn, fun _ => hc⟩
  · injection hv with hA _ hc
    subst hA
    refine .inr ⟨g, 0, rfl, fun k hk => ?_⟩
    have := h.cellAt (g := g) (cap := c) k (by omega)
    rw [Nat.zero_add, this]
    simp [hk]

/-- What a call hands back: a slice in a block of its own that holds zs; what was there is as it was. -/
def OutIs (w : World) (zs : List Int) (e : Ending) (w' : World) : Prop :=
  ∃ g cap, e = .returned (.slice (some ⟨g, 0, none⟩) zs.length cap) ∧ Own w' w.heap.size (some ⟨g, 0, none⟩) cap zs ∧ Below w.heap.size w w'

/-- What a call hands back: a bool; the world has drawn, no more. -/
def BoolIs (w : World) (b : Bool) (e : Ending) (w' : World) : Prop := e = .returned (.bool b) ∧ ∃ n, w' = w.drewN n

def eqB (xs ys : List Int) : Bool := decide (xs = ys)

theorem int_info : (Try.prog.info? 3).map (fun i => (i.zero, i.size, i.bytes)) = some (some (.int .i64 0), 1, 8) := by kernel_rfl

/-- zs up to k, noughts behind. -/
def filled (zs : List Int) (k : Nat) : List Int := zs.take k ++ List.replicate (zs.length - k) 0
theorem filled_len (zs : List Int) (k : Nat) (hk : k ≤ zs.length) : (filled zs k).length = zs.length := by simp [filled]; omega
theorem filled_zero (zs : List Int) : filled zs 0 = List.replicate zs.length 0 := by simp [filled]
theorem filled_all (zs : List Int) : filled zs zs.length = zs := by simp [filled]
theorem filled_set (zs : List Int) (k : Nat) (x : Int) (hx : zs[k]? = some x) : (filled zs k).set k x = filled zs (k + 1) := by
  obtain ⟨hk, rfl⟩ := List.getElem?_eq_some_iff.1 hx
  apply List.ext_getElem?
  intro j
  simp only [filled, List.getElem?_set, List.getElem?_append, List.length_append, List.length_take, List.length_replicate, List.getElem?_take, List.getElem?_replicate]
  rcases Nat.lt_trichotomy j k with h | h | h
  · simp [show ¬ k = j by omega, show j < min k zs.length by omega, show j < min (k + 1) zs.length by omega, h, show j < k + 1 by omega]
  · subst h
    simp [show j < min (j + 1) zs.length by omega, show j < min j zs.length + (zs.length - j) by omega, hk]
  · simp [show ¬ k = j by omega, show ¬ j < min k zs.length by omega, show ¬ j < min (k + 1) zs.length by omega]
    have e1 : j - min k zs.length < zs.length - k ↔ j - min (k + 1) zs.length < zs.length - (k + 1) := by omega
    by_cases hh : j - min k zs.length < zs.length - k
    · rw [if_pos hh, if_pos (e1.1 hh)]
    · rw [if_neg hh, if_neg (fun x => hh (e1.2 x))]

theorem eqB_len {xs ys : List Int} (h : xs.length ≠ ys.length) : eqB xs ys = false := by
  unfold eqB; simp; rintro rfl; exact h rfl
theorem eqB_at {xs ys : List Int} {k : Nat} {x y : Int} (hx : xs[k]? = some x) (hy : ys[k]? = some y) (h : x ≠ y) : eqB xs ys = false := by
  unfold eqB; simp; rintro rfl; rw [hx] at hy; exact h (Option.some.inj hy)
theorem eqB_all {xs ys : List Int} (hl : xs.length = ys.length) (h : xs.take xs.length = ys.take xs.length) : eqB xs ys = true := by
  unfold eqB; simp; rw [List.take_length, hl, List.take_length] at h; exact h
theorem eqB_self (xs : List Int) : eqB xs xs = true := by simp [eqB]
theorem take_step {xs ys : List Int} {k : Nat} {x : Int} (hx : xs[k]? = some x) (hy : ys[k]? = some x) (h : xs.take k = ys.take k) : xs.take (k + 1) = ys.take (k + 1) := by
  rw [List.take_add_one, List.take_add_one, hx, hy, h]

theorem own_empty (w : World) : Own (w.alloc (.cells #[] 3)) w.heap.size (some ⟨w.heap.size, 0, none⟩) 0 [] :=
  World.ownsRow_lit w #[] 0 (Nat.le_refl _) (Nat.zero_le _) rfl
theorem own_none (w : World) (B : Nat) : Own w B none 0 [] := World.ownsRow_nil w B 3 1

theorem own_shape {w : World} {B T n : Nat} {v : Value} {zs : List Int} (h : w.ownsRow B T 1 v n (zs.map (Value.int .i64))) :
    n = zs.length ∧ ((v = .slice none 0 0 ∧ zs = []) ∨ ∃ g c, v = .slice (some ⟨g, 0, none⟩) zs.length c) := by
  have hl := h.1
  simp at hl
  rcases h.2 with ⟨hv, hn⟩ | ⟨g, cap, cur, hv, hg, _⟩
  · exact ⟨hl.symm, .inl ⟨hv, List.eq_nil_of_length_eq_zero (by omega)⟩⟩
  · exact ⟨hl.symm, .inr ⟨g, cap, by rw [hv, hl]⟩⟩

/-- The cells that a slice reads as, as an append asks them. -/
theorem Rd.news {w : World} {ad : Addr} {c : Nat} {zs : List Int} (h : Rd w (some ad) c zs) : ∀ j u, (zs.map (Value.int .i64))[j]? = some u → w.cell? (ad.add j) = some u := by
  intro j u hu
  rcases h with ⟨rfl, _⟩ | ⟨b, off, hA, hc⟩
  · simp at hu
  · have hA := Option.some.inj hA
    have hj : j < zs.length := by
      rcases Nat.lt_or_ge j zs.length with hj | hj
      · exact hj
      · rw [List.getElem?_eq_none (by simpa using hj)] at hu; cases hu
    have e : (⟨b, off, none⟩ : Addr).add j = ⟨b, off + j, none⟩ := by unfold Addr.add; split <;> simp_all
    rw [hA, e, hc j hj]
    rw [List.getElem?_map, List.getElem?_eq_getElem hj] at hu
    simpa [hj] using hu

/-- Which blocks an append onto (A, ..) may have turned: A's own and new ones. -/
def ofA (A : Option Addr) : Option Nat := A.map (·.block)

theorem run_append_ints (ty : TypeId) (w : World) (base : Nat) (A0 : Option Addr) (c0 : Nat) (xs : List Int) (hown : Own w base A0 c0 xs) (A : Option Addr) (c : Nat) (zs : List Int) (hr : Rd w A c zs)
    (hn : xs.length + zs.length ≤ 1099511627776) (hbase : base ≤ w.heap.size) :
    ∃ A' c' w', (Builtin.append_ #[24, 24] ty #[.slice A0 xs.length c0, .slice A zs.length c]).run Try.prog w = .ok (.slice A' (xs.length + zs.length) c') w' ∧
      Own w' base A' c' (xs ++ zs) ∧ w.grownBy w' (ofA A0) ∧ (A0 = none ∨ 0 < zs.length → ∃ g, A' = some ⟨g, 0, none⟩ ∨ zs = []) ∧ (A0 ≠ none → ∃ g, A' = some ⟨g, 0, none⟩) := by
  obtain ⟨i0, hi, hz0, hz1, hz2⟩ := info_parts int_info
  have hA0 : A0 ≠ none → ∃ g, A0 = some ⟨g, 0, none⟩ := by
    intro h
    rcases own_shape hown with ⟨_, ⟨hv, _⟩ | ⟨g, c', hv⟩⟩
    · injection hv with h1; exact absurd h1 h
    · injection hv with h1; exact ⟨g, h1⟩
  have hblk : (Value.slice A0 xs.length c0).ownBlock = ofA A0 := by cases A0 <;> rfl
  cases A with
  | none =>
    obtain ⟨rfl, rfl⟩ : zs = [] ∧ c = 0 := by
      rcases hr with h | ⟨b, off, h, _⟩
      · exact ⟨h.1, h.2 rfl⟩
      · cases h
    refine ⟨A0, c0, w, ?_, by simpa using hown, World.grownBy.refl _ _, fun _ => ⟨0, .inr rfl⟩, hA0⟩
    exact run_append_owned_none (P := Try.prog) (w := w) base 24 ty 3 i0 1 Try.underlying24 hi _ _ _ hown
  | some ad =>
    obtain ⟨v', w', hrun, h2, h3, h4, _⟩ := run_append_own_at (P := Try.prog) w base 24 ty 3 i0 (.int .i64 0) 1 8 Try.underlying24 hi hz0 hz1 hz2 rfl (by decide) (.slice A0 xs.length c0) xs.length (xs.map (Value.int .i64)) hown ad zs.length c (zs.map (Value.int .i64)) (by simp) hr.news (ints_oneCell _ _)
      (by unfold maxLen; omega) (by omega) hbase
    rw [← List.map_append] at h2
    obtain ⟨_, ⟨hv, hz⟩ | ⟨g, c', hv⟩⟩ := own_shape h2
    · have hx : xs = [] ∧ zs = [] := by simpa using hz
      obtain ⟨rfl, rfl⟩ := hx
      have hA := (h4.1 hv).1
      injection hA with hA
      subst hv
      exact ⟨none, 0, w', hrun, h2, hblk ▸ h3, fun _ => ⟨0, .inr rfl⟩, fun h => absurd hA h⟩
    · subst hv
      rw [List.length_append] at hrun h2
      exact ⟨_, c', w', hrun, by unfold Own; rw [List.length_append]; exact h2, hblk ▸ h3, fun _ => ⟨g, .inl rfl⟩, fun _ => ⟨g, rfl⟩⟩

theorem wp_append_ints {o : Oper} {a : Act} {w : World} {K : Act → World → Prop} {Q : Exit → Act → World → Prop} (s x : Operand)
    (ho : o.op = .call { callee := .builtin .append, args := #[s, x], argTypes := #[24, 24] })
    (base g0 : Nat) (c0 : Nat) (xs : List Int) (n : Nat) (hxn : xs.length = n) (hs : a.eval s = .slice (some ⟨g0, 0, none⟩) n c0) (hown : Own w base (some ⟨g0, 0, none⟩) c0 xs)
    (A : Option Addr) (c : Nat) (zs : List Int) (m : Nat) (hzm : zs.length = m) (hx : a.eval x = .slice A m c) (hr : Rd w A c zs)
    (hn : n + m ≤ 1099511627776) (hbase : base ≤ w.heap.size)
    (h : ∀ g c' w', Own w' base (some ⟨g, 0, none⟩) c' (xs ++ zs) → w.grownBy w' (some g0) → K (a.put o.dst (.slice (some ⟨g, 0, none⟩) (n + m) c')) w') : o.wp Try.prog a w K Q := by
  subst hxn hzm
  obtain ⟨A', c', w', hrun, h1, h2, _, h4⟩ := run_append_ints o.type w base (some ⟨g0, 0, none⟩) c0 xs hown A c zs hr hn hbase
  obtain ⟨g, rfl⟩ := h4 (by simp)
  unfold Oper.wp execOp
  simp only [ho, resolve, invoke, builtin, Sem.run_bind, Sem.run_pure, Result.andThen_ok, List.map_toArray, List.map_cons, List.map_nil, hs, hx, hrun]
  exact h g c' w' h1 h2

/-- 'append([]int{}, xs...)': a copy in a block of the call's own. -/
theorem wpList_clone {ops : Array Oper} {rest : List Oper} {o : Oper} {a : Act} {w : World} {Q : Exit → Act → World → Prop} (hgd : o.guard = none) (s x : Operand)
    (ho : o.op = .call { callee := .builtin .append, args := #[s, x], argTypes := #[24, 24] })
    (base g0 : Nat) (hs : a.eval s = .slice (some ⟨g0, 0, none⟩) 0 0) (hown : Own w base (some ⟨g0, 0, none⟩) 0 [])
    (A : Option Addr) (c : Nat) (zs : List Int) (hx : a.eval x = .slice A zs.length c) (hr : Rd w A c zs)
    (hn : zs.length ≤ 1099511627776) (hbase : base ≤ w.heap.size)
    (h : ∀ g c' w', Own w' base (some ⟨g, 0, none⟩) c' zs → Below base w w' → wpList Try.prog ops Q rest (a.put o.dst (.slice (some ⟨g, 0, none⟩) zs.length c')) w') :
    wpList Try.prog ops Q (o :: rest) a w :=
  wpList_plain hgd fun _ hK => wp_append_ints s x ho base g0 0 [] 0 rfl hs hown A c zs zs.length rfl hx hr (by simpa using hn) hbase fun g c' w' h1 h2 => by
    have hg0 : base ≤ g0 := (World.ownsRow.lt hown g0 rfl).1
    rw [Nat.zero_add]
    exact hK _ _ (h g c' w' h1 ((Below.refl base w).grown h2 hbase (fun k hk => by
      have : k = g0 := (Option.some.inj hk).symm
      omega)))

/-- The same two as steps of a region that draws its order. -/
theorem step_append_ints {ops : Array Oper} {o : Oper} {a : Act} {w : World} {K : Act → World → Prop} {Q : Exit → Act → World → Prop} {E : Prop} (hgd : o.guard = none) (s x : Operand)
    (ho : o.op = .call { callee := .builtin .append, args := #[s, x], argTypes := #[24, 24] })
    (base g0 : Nat) (c0 : Nat) (xs : List Int) (n : Nat) (hxn : xs.length = n) (hs : a.eval s = .slice (some ⟨g0, 0, none⟩) n c0) (hown : Own w base (some ⟨g0, 0, none⟩) c0 xs)
    (A : Option Addr) (c : Nat) (zs : List Int) (m : Nat) (hzm : zs.length = m) (hx : a.eval x = .slice A m c) (hr : Rd w A c zs)
    (hn : n + m ≤ 1099511627776) (hbase : base ≤ w.heap.size)
    (h : ∀ g c' w', Own w' base (some ⟨g, 0, none⟩) c' (xs ++ zs) → w.grownBy w' (some g0) → K (a.put o.dst (.slice (some ⟨g, 0, none⟩) (n + m) c')) w') :
    if Region.wanted o (yielded ops a.tmps) = true then Oper.wp Try.prog o a w K Q else E := by
  have hw : Region.wanted o (yielded ops a.tmps) = true := by simp [Region.wanted, hgd]
  rw [if_pos hw]
  exact wp_append_ints s x ho base g0 c0 xs n hxn hs hown A c zs m hzm hx hr hn hbase h

section
variable {w : World} {B g c : Nat} {zs : List Int}
theorem Own.cell (h : Own w B (some ⟨g, 0, none⟩) c zs) {i : Nat} {x : Int} (hx : zs[i]? = some x) : w.cell? ⟨g, i, none⟩ = some (.int .i64 x) := by
  have hi := (List.getElem?_eq_some_iff.1 hx).1
  have := World.ownsRow.cellAt h i (by omega)
  rw [this, List.getElem?_map, hx]; rfl
theorem Own.free (h : Own w B (some ⟨g, 0, none⟩) c zs) (i : Nat) : w.frozen? ⟨g, i, none⟩ = false := World.ownsRow.frozenAt h i
theorem Own.set_ (h : Own w B (some ⟨g, 0, none⟩) c zs) (i : Nat) (x : Int) : Own (w.setCell ⟨g, i, none⟩ (.int .i64 x)) B (some ⟨g, 0, none⟩) c (zs.set i x) := by
  have := (World.ownsRow.stored h i (.int .i64 x)).1
  unfold Own
  rw [List.length_set, List.map_set]
  exact this
theorem Own.ge (h : Own w B (some ⟨g, 0, none⟩) c zs) : B ≤ g := (World.ownsRow.lt h g rfl).1
theorem Own.lt (h : Own w B (some ⟨g, 0, none⟩) c zs) : g < w.heap.size := (World.ownsRow.lt h g rfl).2
end

theorem at_some {xs : List Int} {k : Nat} (hk : k < xs.length) : ∃ x, xs[k]? = some x := ⟨xs[k], List.getElem?_eq_getElem hk⟩
theorem getD_of {xs : List Int} {k : Nat} {x : Int} (h : xs[k]? = some x) : xs.getD k 0 = x := by rw [List.getD_eq_getElem?_getD, h]; rfl

/-- A slice that is not empty: where its cells lie. -/
theorem Rd.open_ {w : World} {A : Option Addr} {c : Nat} {zs : List Int} (h : Rd w A c zs) (hz : 1 ≤ zs.length) :
    ∃ b off, A = some ⟨b, off, none⟩ ∧ ∀ k x, zs[k]? = some x → w.cell? ⟨b, off + k, none⟩ = some (.int .i64 x) := by
  rcases h with ⟨rfl, _⟩ | ⟨b, off, rfl, hc⟩
  · simp at hz
  · refine ⟨b, off, rfl, fun k x hx => ?_⟩
    rw [hc k (List.getElem?_eq_some_iff.1 hx).1, hx]; rfl

theorem Own.cap {w : World} {B g c : Nat} {zs : List Int} (h : Own w B (some ⟨g, 0, none⟩) c zs) : zs.length ≤ c ∧ c ≤ maxLen := by
  rcases h.2 with ⟨hv, _⟩ | ⟨g', cap, cur, hv, _, _, h1, h2, _⟩
  · cases hv
  · injection hv with _ _ hc; subst hc; exact ⟨h1, h2⟩

theorem Rd.take_ {w : World} {b off c c2 : Nat} {zs : List Int} (h : Rd w (some ⟨b, off, none⟩) c zs) (m : Nat) : Rd w (some ⟨b, off, none⟩) c2 (zs.take m) := by
  rcases h with ⟨rfl, _⟩ | ⟨b', off', hA, hc⟩
  · exact .inl ⟨by simp, fun h => by cases h⟩
  · refine .inr ⟨b', off', hA, fun k hk => ?_⟩
    have hk2 : k < m ∧ k < zs.length := by simp at hk; omega
    rw [hc k hk2.2]; simp [hk2.1]

theorem Rd.drop_ {w : World} {b off c c2 : Nat} {zs : List Int} (h : Rd w (some ⟨b, off, none⟩) c zs) (m : Nat) : Rd w (some ⟨b, off + m, none⟩) c2 (zs.drop m) := by
  rcases h with ⟨rfl, _⟩ | ⟨b', off', hA, hc⟩
  · exact .inl ⟨by simp, fun h => by cases h⟩
  · injection hA with hA; injection hA with h1 h2; subst h1; subst h2
    refine .inr ⟨_, _, rfl, fun k hk => ?_⟩
    simp at hk
    have := hc (m + k) (by omega)
    rw [show off + m + k = off + (m + k) by omega, this]; simp

theorem Rd.cut_ {w : World} {b c c2 c' k : Nat} {zs : List Int} (h : Rd w (some ⟨b, 0, none⟩) c zs) (hc : zs.length ≤ c') : Rd w (if c' = k then some ⟨b, 0, none⟩ else some ⟨b, k, none⟩) c2 (zs.drop k) := by
  split
  · exact .inl ⟨List.drop_eq_nil_of_le (by omega), fun h => by cases h⟩
  · have := h.drop_ (c2 := c2) k
    rwa [Nat.zero_add] at this

/-- 'make([]int, n)': n noughts in a block of the call's own. -/
theorem wpList_make_ints {ops : Array Oper} {rest : List Oper} {o : Oper} {a : Act} {w : World} {Q : Exit → Act → World → Prop} (hg : o.guard = none) (l c : Operand)
    (hop : o.op = Op.makeSlice 24 l c) (base n : Nat) (hl : a.eval l = .int .i64 (n : Int)) (hc : a.eval c = .int .i64 (n : Int)) (hn : n ≤ 1099511627776) (hb : base ≤ w.heap.size)
    (hK : ∀ w', Own w' base (some ⟨w.heap.size, 0, none⟩) n (List.replicate n 0) → Below base w w' → wpList Try.prog ops Q rest (a.put o.dst (.slice (some ⟨w.heap.size, 0, none⟩) n n)) w') :
    wpList Try.prog ops Q (o :: rest) a w := by
  obtain ⟨i0, hi, hz0, hz1, hz2⟩ := info_parts int_info
  refine wpList_make_full w hg l c 24 hop base 3 i0 (.int .i64 0) 1 Try.underlying24 hi hz0 hz1 .i64 .i64 n n n hl hc rfl rfl (by rw [hz2]; omega) (by unfold maxLen; omega) hb ?_
  intro w' h1 h2
  refine hK w' ?_ ((Below.refl base w).grown h2 hb (fun k h => by cases h))
  unfold Own
  simpa [toList_madeCells_one, Value.cells] using h1

theorem own_lit (w : World) (zs : List Int) (hz : zs.length ≤ 1048576) : Own (w.alloc (.cells (zs.map (Value.int .i64)).toArray 3)) w.heap.size (some ⟨w.heap.size, 0, none⟩) zs.length zs := by
  have := World.ownsRow_lit (e := 3) (size := 1) (base := w.heap.size) w (zs.map (Value.int .i64)).toArray zs.length (Nat.le_refl _) (by unfold maxLen; omega) (by simp)
  unfold Own
  simpa using this

end Go.Proofs.Ytnojlapjkdihmaa
