/-
  The generators of the laws: the contracts of one, of, and of those of bids, kinds and reserves.
-/
import Derived.Test.YtnojlapjkdihmabG14
namespace Go.Proofs.Ytnojlapjkdihmab
open Go.RowKit

theorem gb_new {w w1 w2 : World} {rb g : Nat} (h : w.grownBy w1 (some rb)) (h2 : w1.grownBy w2 (some g)) (hg : w.heap.size ≤ g) : w.grownBy w2 (some rb) :=
  ⟨h2.os.trans h.os, h2.tape.trans h.tape, h2.output.trans h.output, Nat.le_trans h.size h2.size, fun k hk hne =>
    (h2.block k (Nat.lt_of_lt_of_le hk h.size) (fun e => by have := Option.some.inj e; omega)).trans (h.block k hk hne)⟩
theorem gb_alloc {w w1 : World} {rb : Nat} (h : w.grownBy w1 (some rb)) (o : Obj) : w.grownBy (w1.alloc o) (some rb) := h.trans (World.grownBy_alloc w1 o (some rb))
theorem gb_drewN {w w1 : World} {rb : Nat} (h : w.grownBy w1 (some rb)) (n : Nat) : w.grownBy (w1.drewN n) (some rb) := h.trans ⟨rfl, rfl, rfl, Nat.le_refl _, fun _ _ _ => rfl⟩
theorem gb_set {w w1 : World} {rb g i : Nat} {v : Value} (h : w.grownBy w1 (some rb)) (hg : w.heap.size ≤ g) : w.grownBy (w1.setCell ⟨g, i, none⟩ v) (some rb) :=
  gb_new (g := g) h ⟨rfl, rfl, rfl, by simp, fun k _ hk => heap_setCell_other w1 ⟨g, i, none⟩ k v (fun e => hk (by simp [e]))⟩ hg
theorem gb_below {w w1 : World} {B rb : Nat} (h : w.grownBy w1 (some rb)) (hB : B ≤ w.heap.size) (hr : B ≤ rb) : Below B w w1 :=
  (Below.refl B w).grown h hB (fun k hk => by have := Option.some.inj hk; omega)

theorem lit_str (w : World) (ss : List ByteArray) (j : Nat) (s : ByteArray) (h : ss[j]? = some s) :
    (w.alloc (.cells (ss.map Value.string).toArray 9)).cell? ⟨w.heap.size, j, none⟩ = some (.string s) := by
  rw [cell_of_row _ w.heap.size j _ _ _ (heap_alloc_new w _)]
  simp [h]

def lenOf : Value → Nat
  | .slice _ n _ => n
  | _ => 0

end Go.Proofs.Ytnojlapjkdihmab

/-
  The generators of the laws: kinds, bids, reserves, and the arguments of SaleBy.
-/
namespace Go.Proofs.Ytnojlapjkdihmab
open Go.RowKit

/-- 'append' of ints as one operation of a plain region. -/
theorem wpList_append_ints {ops : Array Oper} {rest : List Oper} {o : Oper} {a : Act} {w : World} {Q : Exit → Act → World → Prop} (hgd : o.guard = none) (s x : Operand)
    (ho : o.op = .call { callee := .builtin .append, args := #[s, x], argTypes := #[39, 39] })
    (base g0 : Nat) (c0 : Nat) (xs : List Int) (n : Nat) (hxn : xs.length = n) (hs : a.eval s = .slice (some ⟨g0, 0, none⟩) n c0) (hown : Own w base (some ⟨g0, 0, none⟩) c0 xs)
    (A : Option Addr) (c : Nat) (zs : List Int) (m : Nat) (hzm : zs.length = m) (hx : a.eval x = .slice A m c) (hr : Rd w A c zs)
    (hn : n + m ≤ 1099511627776) (hbase : base ≤ w.heap.size)
    (h : ∀ g c' w', Own w' base (some ⟨g, 0, none⟩) c' (xs ++ zs) → w.grownBy w' (some g0) → wpList Try.prog ops Q rest (a.put o.dst (.slice (some ⟨g, 0, none⟩) (n + m) c')) w') :
    wpList Try.prog ops Q (o :: rest) a w :=
  wpList_plain hgd fun _ hK => wp_append_ints s x ho base g0 c0 xs n hxn hs hown A c zs m hzm hx hr hn hbase fun g c' w' h1 h2 => hK _ _ (h g c' w' h1 h2)

/-- What DrawSaleBy hands back. -/
def DrawnSale (w : World) (e : Ending) (w' : World) : Prop :=
  ∃ (s : ByteArray) (A : Option Addr) (c : Nat) (xs : List Int) (r : Int), e = .returned (.tuple #[.string s, .slice A xs.length c, .int .i64 r]) ∧ s.size ≤ 1048576 ∧ Rd w' A c xs ∧ xs.length ≤ 7 ∧ -2147483648 ≤ r ∧ r ≤ 2147483647 ∧ Below w.heap.size w w'

end Go.Proofs.Ytnojlapjkdihmab
