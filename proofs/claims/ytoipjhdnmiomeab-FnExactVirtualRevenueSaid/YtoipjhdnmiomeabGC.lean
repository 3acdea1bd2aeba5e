/-
  The generators of the laws: the contracts of the reader.
-/
import Derived.Test.YtoipjhdnmiomeabGB
namespace Go.Proofs.Ytoipjhdnmiomeab
open Go.RowKit

theorem xor_i64_nat (a b : Nat) (ha : a < 4294967296) (hb : b < 4294967296) : bits .xor .i64 (a : Int) (b : Int) = ((a ^^^ b : Nat) : Int) ∧ a ^^^ b < 4294967296 := by
  have hx : a ^^^ b < 2 ^ 32 := Nat.xor_lt_two_pow (by omega) (by omega)
  have h1 : (BitVec.ofInt 64 (a : Int)).toNat = a := by
    rw [BitVec.ofInt_natCast, BitVec.toNat_ofNat]; exact Nat.mod_eq_of_lt (by omega)
  have h2 : (BitVec.ofInt 64 (b : Int)).toNat = b := by
    rw [BitVec.ofInt_natCast, BitVec.toNat_ofNat]; exact Nat.mod_eq_of_lt (by omega)
  refine ⟨?_, by omega⟩
  show IntKind.i64.wrap ((BitVec.ofInt 64 (a : Int) ^^^ BitVec.ofInt 64 (b : Int)).toNat : Int) = _
  rw [BitVec.toNat_xor, h1, h2, IntKind.wrap_i64]
  omega

end Go.Proofs.Ytoipjhdnmiomeab

/-
  The generators of the laws: the contracts of one, of, and of those of bids, kinds and reserves.
-/
namespace Go.Proofs.Ytoipjhdnmiomeab
open Go.RowKit

theorem gb_new {w w1 w2 : World} {rb g : Nat} (h : w.grownBy w1 (some rb)) (h2 : w1.grownBy w2 (some g)) (hg : w.heap.size ≤ g) : w.grownBy w2 (some rb) :=
  ⟨h2.os.trans h.os, h2.tape.trans h.tape, h2.output.trans h.output, Nat.le_trans h.size h2.size, fun k hk hne =>
    (h2.block k (Nat.lt_of_lt_of_le hk h.size) (fun e => by have := Option.some.inj e; omega)).trans (h.block k hk hne)⟩
theorem gb_alloc {w w1 : World} {rb : Nat} (h : w.grownBy w1 (some rb)) (o : Obj) : w.grownBy (w1.alloc o) (some rb) := h.trans (World.grownBy_alloc w1 o (some rb))
theorem gb_drewN {w w1 : World} {rb : Nat} (h : w.grownBy w1 (some rb)) (n : Nat) : w.grownBy (w1.drewN n) (some rb) := h.trans ⟨rfl, rfl, rfl, Nat.le_refl _, fun _ _ _ => rfl⟩
theorem gb_set {w w1 : World} {rb g i : Nat} {v : Value} (h : w.grownBy w1 (some rb)) (hg : w.heap.size ≤ g) : w.grownBy (w1.setCell ⟨g, i, none⟩ v) (some rb) :=
  gb_new (g := g) h ⟨rfl, rfl, rfl, by simp, fun k _ hk => heap_setCell_other w1 ⟨g, i, none⟩ k v (fun e => hk (by simp [e]))⟩ hg
theorem gb_below {w w1 : World} {B rb : Nat} (h : w.grownBy w1 (some rb)) (hB : B ≤ w.heap.size) (hr : B ≤ rb) : Below B w w1 :=
  (Below.refl B w).grown h hB (fun k hk => by have := Option.some.inj hk; omega)

/-- A list that is written out. -/
theorem own_lit (w : World) (zs : List Int) (hz : zs.length ≤ 1048576) : Own (w.alloc (.cells (zs.map (Value.int .i64)).toArray 3)) w.heap.size (some ⟨w.heap.size, 0, none⟩) zs.length zs := by
  have := World.ownsRow_lit (e := 3) (size := 1) (base := w.heap.size) w (zs.map (Value.int .i64)).toArray zs.length (Nat.le_refl _) (by unfold maxLen; omega) (by simp)
  unfold Own
  simpa using this

theorem lit_str (w : World) (ss : List ByteArray) (j : Nat) (s : ByteArray) (h : ss[j]? = some s) :
    (w.alloc (.cells (ss.map Value.string).toArray 9)).cell? ⟨w.heap.size, j, none⟩ = some (.string s) := by
  rw [cell_of_row _ w.heap.size j _ _ _ (heap_alloc_new w _)]
  simp [h]

def lenOf : Value → Nat
  | .slice _ n _ => n
  | _ => 0

end Go.Proofs.Ytoipjhdnmiomeab

/-
  The generators of the laws: kinds, bids, reserves, and the arguments of SaleBy.
-/
namespace Go.Proofs.Ytoipjhdnmiomeab
open Go.RowKit

/-- 'append' of ints as one operation of a plain region. -/
theorem wpList_append_ints {ops : Array Oper} {rest : List Oper} {o : Oper} {a : Act} {w : World} {Q : Exit → Act → World → Prop} (hgd : o.guard = none) (s x : Operand)
    (ho : o.op = .call { callee := .builtin .append, args := #[s, x], argTypes := #[22, 22] })
    (base g0 : Nat) (c0 : Nat) (xs : List Int) (n : Nat) (hxn : xs.length = n) (hs : a.eval s = .slice (some ⟨g0, 0, none⟩) n c0) (hown : Own w base (some ⟨g0, 0, none⟩) c0 xs)
    (A : Option Addr) (c : Nat) (zs : List Int) (m : Nat) (hzm : zs.length = m) (hx : a.eval x = .slice A m c) (hr : Rd w A c zs)
    (hn : n + m ≤ 1099511627776) (hbase : base ≤ w.heap.size)
    (h : ∀ g c' w', Own w' base (some ⟨g, 0, none⟩) c' (xs ++ zs) → w.grownBy w' (some g0) → wpList Try.prog ops Q rest (a.put o.dst (.slice (some ⟨g, 0, none⟩) (n + m) c')) w') :
    wpList Try.prog ops Q (o :: rest) a w :=
  wpList_plain hgd fun _ hK => wp_append_ints s x ho base g0 c0 xs n hxn hs hown A c zs m hzm hx hr hn hbase fun g c' w' h1 h2 => hK _ _ (h g c' w' h1 h2)

/-- What DrawSaleBy hands back. -/
def DrawnSale (w : World) (e : Ending) (w' : World) : Prop :=
  ∃ (s : ByteArray) (A : Option Addr) (c : Nat) (xs : List Int) (r : Int), e = .returned (.tuple #[.string s, .slice A xs.length c, .int .i64 r]) ∧ s.size ≤ 1048576 ∧ Rd w' A c xs ∧ xs.length ≤ 7 ∧ -2147483648 ≤ r ∧ r ≤ 2147483647 ∧ Below w.heap.size w w'

end Go.Proofs.Ytoipjhdnmiomeab

/-
  The generators of the laws: the arguments of LeastToWin, GainOf and BestBid.
-/
namespace Go.Proofs.Ytoipjhdnmiomeab
open Go.RowKit

/-- A slice that the generator made stays while the reader is asked. -/
theorem Own.ask {w w' : World} {rb g c B : Nat} {ys : List Int} (ho : Own w B (some ⟨g, 0, none⟩) c ys) (hg : w.grownBy w' (some rb)) (hB : rb < B) : Own w' B (some ⟨g, 0, none⟩) c ys :=
  ho.kept_ (A2 := some ⟨rb, 0, none⟩) hg (.inr (fun e => by have := Option.some.inj e; have h1 := ho.ge; simp at this; omega))

/-- What DrawLeastToWin hands back. -/
def DrawnLeast (w : World) (e : Ending) (w' : World) : Prop :=
  ∃ (A : Option Addr) (c : Nat) (xs : List Int) (i r : Int), e = .returned (.tuple #[.slice A xs.length c, .int .i64 i, .int .i64 r]) ∧ Rd w' A c xs ∧ xs.length ≤ 7 ∧ Below w.heap.size w w'

/-- What DrawGainOf hands back. -/
def DrawnGain (w : World) (e : Ending) (w' : World) : Prop :=
  ∃ (s : ByteArray) (A : Option Addr) (c : Nat) (xs : List Int) (i v r : Int), e = .returned (.tuple #[.string s, .slice A xs.length c, .int .i64 i, .int .i64 v, .int .i64 r]) ∧ Rd w' A c xs ∧ xs.length ≤ 7 ∧ Below w.heap.size w w'

theorem results_five {fn : Func} {t u v x y : Tmp} (h : fn.results = #[.tmp t, .tmp u, .tmp v, .tmp x, .tmp y]) (tmps : Array Value) (P : Program) (w : World) :
    (results fn tmps).run P w = .ok (.tuple #[tmps.getD t undef, tmps.getD u undef, tmps.getD v undef, tmps.getD x undef, tmps.getD y undef]) w := by simp [results, h]

end Go.Proofs.Ytoipjhdnmiomeab

/-
  The generators of the laws of chapter 2: the arguments.
-/
namespace Go.Proofs.Ytoipjhdnmiomeab
open Go.RowKit

/-- What the generators of weights hand back: weights alone; with one number; with two. -/
def DrawnW (w : World) (e : Ending) (w' : World) : Prop :=
  ∃ (A : Option Addr) (c : Nat) (xs : List Int), e = .returned (.slice A xs.length c) ∧ Rd w' A c xs ∧ xs.length ≤ c ∧ xs.length ≤ 7 ∧ Below w.heap.size w w'
def DrawnW1 (w : World) (e : Ending) (w' : World) : Prop :=
  ∃ (A : Option Addr) (c : Nat) (xs : List Int) (n : Int), e = .returned (.tuple #[.slice A xs.length c, .int .i64 n]) ∧ Rd w' A c xs ∧ xs.length ≤ c ∧ xs.length ≤ 7 ∧ -1 ≤ n ∧ n ≤ 7 ∧ Below w.heap.size w w'
def DrawnW2 (w : World) (e : Ending) (w' : World) : Prop :=
  ∃ (A : Option Addr) (c : Nat) (xs : List Int) (n r : Int), e = .returned (.tuple #[.slice A xs.length c, .int .i64 n, .int .i64 r]) ∧ Rd w' A c xs ∧ xs.length ≤ c ∧ xs.length ≤ 7 ∧ -1 ≤ n ∧ n ≤ 7 ∧ -1 ≤ r ∧ r ≤ 7 ∧ Below w.heap.size w w'

end Go.Proofs.Ytoipjhdnmiomeab
