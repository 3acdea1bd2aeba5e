/-
  The generators of the laws: kinds, bids, reserves, and the arguments of SaleBy.
-/
import Derived.Test.YtnojlapjkdihmaaDrawB
namespace Go.Proofs.Ytnojlapjkdihmaa
open Go.RowKit

/-- 'append' of ints as one operation of a plain region. -/
theorem wpList_append_ints {ops : Array Oper} {rest : List Oper} {o : Oper} {a : Act} {w : World} {Q : Exit → Act → World → Prop} (hgd : o.guard = none) (s x : Operand)
    (ho : o.op = .call { callee := .builtin .append, args := #[s, x], argTypes := #[24, 24] })
    (base g0 : Nat) (c0 : Nat) (xs : List Int) (n : Nat) (hxn : xs.length = n) (hs : a.eval s = .slice (some ⟨g0, 0, none⟩) n c0) (hown : Own w base (some ⟨g0, 0, none⟩) c0 xs)
    (A : Option Addr) (c : Nat) (zs : List Int) (m : Nat) (hzm : zs.length = m) (hx : a.eval x = .slice A m c) (hr : Rd w A c zs)
    (hn : n + m ≤ 1099511627776) (hbase : base ≤ w.heap.size)
    (h : ∀ g c' w', Own w' base (some ⟨g, 0, none⟩) c' (xs ++ zs) → w.grownBy w' (some g0) → wpList Try.prog ops Q rest (a.put o.dst (.slice (some ⟨g, 0, none⟩) (n + m) c')) w') :
    wpList Try.prog ops Q (o :: rest) a w :=
  wpList_plain hgd fun _ hK => wp_append_ints s x ho base g0 c0 xs n hxn hs hown A c zs m hzm hx hr hn hbase fun g c' w' h1 h2 => hK _ _ (h g c' w' h1 h2)

/-- What DrawSaleBy hands back. -/
def DrawnSale (w : World) (e : Ending) (w' : World) : Prop :=
  ∃ (s : ByteArray) (A : Option Addr) (c : Nat) (xs : List Int) (r : Int), e = .returned (.tuple #[.string s, .slice A xs.length c, .int .i64 r]) ∧ s.size ≤ 1048576 ∧ Rd w' A c xs ∧ xs.length ≤ 7 ∧ -2147483648 ≤ r ∧ r ≤ 2147483647 ∧ Below w.heap.size w w'

end Go.Proofs.Ytnojlapjkdihmaa
