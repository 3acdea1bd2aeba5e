/-
  The exact laws' helpers that mark a slice of ints, and that ask whether the marks are held.
-/
import Derived.Test.YtnojlapjkdihmaaMem
namespace Go.Proofs.Ytnojlapjkdihmaa
open Go.RowKit

/-- k, one more, and so on. -/
def upF (k : Int) (n : Nat) : List Int := (List.range n).map (fun i => k + (i : Nat))
theorem upF_len (k : Int) (n : Nat) : (upF k n).length = n := by simp [upF]
theorem upF_at (k : Int) (n i : Nat) (h : i < n) : (upF k n)[i]? = some (k + i) := by simp [upF, h]

/-- The first j places marked from k on, the others as they were. -/
def markd (k : Int) (xs : List Int) (j : Nat) : List Int := upF k j ++ xs.drop j
theorem markd_len (k : Int) (xs : List Int) (j : Nat) (hj : j ≤ xs.length) : (markd k xs j).length = xs.length := by simp [markd, upF_len]; omega
theorem markd_zero (k : Int) (xs : List Int) : markd k xs 0 = xs := by simp [markd, upF]
theorem markd_all (k : Int) (xs : List Int) : markd k xs xs.length = upF k xs.length := by simp [markd]
theorem markd_set (k : Int) (xs : List Int) (j : Nat) (hj : j < xs.length) : (markd k xs j).set j (k + j) = markd k xs (j + 1) := by
  unfold markd
  rw [List.set_append, if_neg (by rw [upF_len]; omega), upF_len, Nat.sub_self]
  rw [List.drop_eq_getElem_cons hj, List.set_cons_zero]
  simp [upF, List.range_succ]

theorem own_block (A : Option Addr) (n c : Nat) : (Value.slice A n c).ownBlock = ofA A := by cases A <;> rfl

theorem Own.kept_ {w w' : World} {B : Nat} {A A2 : Option Addr} {c : Nat} {xs : List Int} (h : Own w B A c xs) (hg : w.grownBy w' (ofA A2)) (hne : ofA A = none ∨ ofA A ≠ ofA A2) : Own w' B A c xs :=
  World.ownsRow.kept h hg (by rw [own_block]; exact hne)

theorem Own.apart {wa wb : World} {B1 B2 : Nat} {A1 A2 : Option Addr} {c1 c2 : Nat} {xs ys : List Int} (h1 : Own wa B1 A1 c1 xs) (h2 : Own wb B2 A2 c2 ys) (hlt : wa.heap.size ≤ B2) : (ofA A1 = none ∨ ofA A1 ≠ ofA A2) ∧ (ofA A2 = none ∨ ofA A2 ≠ ofA A1) := by
  have e : ∀ k, ofA A1 = some k → ofA A2 = some k → False := by
    intro k hk1 hk2
    have l1 := (World.ownsRow.lt h1 k (by rw [own_block]; exact hk1)).2
    have l2 := (World.ownsRow.lt h2 k (by rw [own_block]; exact hk2)).1
    omega
  constructor
  · rcases hA : ofA A1 with _ | k
    · exact .inl rfl
    · exact .inr (fun h => e k hA h.symm)
  · rcases hA : ofA A2 with _ | k
    · exact .inl rfl
    · exact .inr (fun h => e k h.symm hA)

theorem Own.grownBelow {w w' wa : World} {B B2 : Nat} {A2 : Option Addr} {c2 : Nat} {ys : List Int} (hb : Below B wa w) (h2 : Own w B2 A2 c2 ys) (hB : B ≤ B2) (hs : B ≤ w.heap.size) (hg : w.grownBy w' (ofA A2)) : Below B wa w' :=
  hb.grown hg hs (fun k hk => Nat.le_trans hB (World.ownsRow.lt h2 k (by rw [own_block]; exact hk)).1)

end Go.Proofs.Ytnojlapjkdihmaa

/-
  An append of ints onto a row of the call's own, or onto nil.
-/
namespace Go.Proofs.Ytnojlapjkdihmaa
open Go.RowKit

/-- 'append(xs, zs...)' at slices of ints of whatever named type. -/
theorem run_append_intsT (T ty : TypeId) (hT : Try.prog.underlying T = some (.slice 3)) (w : World) (base : Nat) (A0 : Option Addr) (c0 : Nat) (xs : List Int) (hown : Own w base A0 c0 xs) (A : Option Addr) (c : Nat) (zs : List Int) (hr : Rd w A c zs)
    (hn : xs.length + zs.length ≤ 1099511627776) (hbase : base ≤ w.heap.size) :
    ∃ A' c' w', (Builtin.append_ #[T, T] ty #[.slice A0 xs.length c0, .slice A zs.length c]).run Try.prog w = .ok (.slice A' (xs.length + zs.length) c') w' ∧
      Own w' base A' c' (xs ++ zs) ∧ w.grownBy w' (ofA A0) := by
  obtain ⟨i0, hi, hz0, hz1, hz2⟩ := info_parts int_info
  have hblk : (Value.slice A0 xs.length c0).ownBlock = ofA A0 := by cases A0 <;> rfl
  cases A with
  | none =>
    obtain ⟨rfl, rfl⟩ : zs = [] ∧ c = 0 := by
      rcases hr with h | ⟨b, off, h, _⟩
      · exact ⟨h.1, h.2 rfl⟩
      · cases h
    exact ⟨A0, c0, w, run_append_owned_none (P := Try.prog) (w := w) base T ty 3 i0 1 hT hi _ _ _ hown, by simpa using hown, World.grownBy.refl _ _⟩
  | some ad =>
    obtain ⟨v', w', hrun, h2, h3, _⟩ := run_append_own_at (P := Try.prog) w base T ty 3 i0 (.int .i64 0) 1 8 hT hi hz0 hz1 hz2 rfl (by decide) (.slice A0 xs.length c0) xs.length (xs.map (Value.int .i64)) hown ad zs.length c (zs.map (Value.int .i64)) (by simp) hr.news (ints_oneCell _ _)
      (by unfold maxLen; omega) (by omega) hbase
    rw [← List.map_append] at h2
    obtain ⟨_, ⟨hv, hz⟩ | ⟨g, c', hv⟩⟩ := own_shape h2
    · have hx : xs = [] ∧ zs = [] := by simpa using hz
      obtain ⟨rfl, rfl⟩ := hx
      subst hv
      exact ⟨none, 0, w', hrun, h2, hblk ▸ h3⟩
    · subst hv
      rw [List.length_append] at hrun h2
      exact ⟨_, c', w', hrun, by unfold Own; rw [List.length_append]; exact h2, hblk ▸ h3⟩

theorem wpList_append_any {ops : Array Oper} {rest : List Oper} {o : Oper} {a : Act} {w : World} {Q : Exit → Act → World → Prop} (hgd : o.guard = none) (s x : Operand) (T : TypeId) (hT : Try.prog.underlying T = some (.slice 3))
    (ho : o.op = .call { callee := .builtin .append, args := #[s, x], argTypes := #[T, T] })
    (base : Nat) (A0 : Option Addr) (c0 : Nat) (xs : List Int) (n : Nat) (hxn : xs.length = n) (hs : a.eval s = .slice A0 n c0) (hown : Own w base A0 c0 xs)
    (A : Option Addr) (c : Nat) (zs : List Int) (m : Nat) (hzm : zs.length = m) (hx : a.eval x = .slice A m c) (hr : Rd w A c zs)
    (hn : n + m ≤ 1099511627776) (hbase : base ≤ w.heap.size)
    (h : ∀ A' c' w', Own w' base A' c' (xs ++ zs) → w.grownBy w' (ofA A0) → wpList Try.prog ops Q rest (a.put o.dst (.slice A' (n + m) c')) w') :
    wpList Try.prog ops Q (o :: rest) a w :=
  wpList_plain hgd fun _ hK => by
    subst hxn hzm
    obtain ⟨A', c', w', hrun, h1, h2⟩ := run_append_intsT T o.type hT w base A0 c0 xs hown A c zs hr hn hbase
    unfold Oper.wp execOp
    simp only [ho, resolve, invoke, builtin, Sem.run_bind, Sem.run_pure, Result.andThen_ok, List.map_toArray, List.map_cons, List.map_nil, hs, hx, hrun]
    exact hK _ _ (h A' c' w' h1 h2)

theorem Own.grownBelow0 {w w' wa : World} {B : Nat} {A0 : Option Addr} {c0 : Nat} {xs : List Int} (hb : Below B wa w) (ho : Own w B A0 c0 xs) (hs : B ≤ w.heap.size) (hg : w.grownBy w' (ofA A0)) : Below B wa w' :=
  hb.grown hg hs (fun k hk => (World.ownsRow.lt ho k (by rw [own_block]; exact hk)).1)

theorem intsU_info : (Try.prog.info? 24).map (fun i => (i.zero, i.size, i.bytes)) = some (some (.slice none 0 0), 1, 24) := by kernel_rfl

end Go.Proofs.Ytnojlapjkdihmaa
