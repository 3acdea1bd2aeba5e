/-
  The generators of the laws: the arguments of LeastToWin, GainOf and BestBid.
-/
import Derived.Test.YtnojlapjkdihmaaDrawC
namespace Go.Proofs.Ytnojlapjkdihmaa
open Go.RowKit

theorem one_new (rb k n : Nat) (zs : List Int) (cs : Array Value) (w : World) (hcs : (zs.map (Value.int .i64)).toArray = cs) (hn : zs.length = n) (h : Rdr w rb k) (hn1 : 1 ≤ n) (hn2 : n ≤ 1048576) (hk : k ≤ 1000000) :
    Calls Try.prog 66 #[.pointer (some ⟨rb, 0, none⟩), .slice (some ⟨w.heap.size, 0, none⟩) n n] (w.alloc (.cells cs 3)) (OneIs w rb k zs) := by
  subst hcs
  have hl := h.lt
  have ho := own_lit w zs (by omega)
  refine (one_any rb k w.heap.size n n w.heap.size zs _ hn (h.alloc _) (by rw [← hn]; exact ho) (by omega) hn1 hn2 hk).mono ?_
  rintro e w' ⟨x, hx, he, hr, hg⟩
  exact ⟨x, hx, he, hr, (World.grownBy_alloc w _ (some rb)).trans hg⟩

/-- A slice that the generator made stays while the reader is asked. -/
theorem Own.ask {w w' : World} {rb g c B : Nat} {ys : List Int} (ho : Own w B (some ⟨g, 0, none⟩) c ys) (hg : w.grownBy w' (some rb)) (hB : rb < B) : Own w' B (some ⟨g, 0, none⟩) c ys :=
  ho.kept_ (A2 := some ⟨rb, 0, none⟩) hg (.inr (fun e => by have := Option.some.inj e; have h1 := ho.ge; simp at this; omega))

/-- What DrawLeastToWin hands back. -/
def DrawnLeast (w : World) (e : Ending) (w' : World) : Prop :=
  ∃ (A : Option Addr) (c : Nat) (xs : List Int) (i r : Int), e = .returned (.tuple #[.slice A xs.length c, .int .i64 i, .int .i64 r]) ∧ Rd w' A c xs ∧ xs.length ≤ 7 ∧ Below w.heap.size w w'

/-- What DrawGainOf hands back. -/
def DrawnGain (w : World) (e : Ending) (w' : World) : Prop :=
  ∃ (s : ByteArray) (A : Option Addr) (c : Nat) (xs : List Int) (i v r : Int), e = .returned (.tuple #[.string s, .slice A xs.length c, .int .i64 i, .int .i64 v, .int .i64 r]) ∧ Rd w' A c xs ∧ xs.length ≤ 7 ∧ Below w.heap.size w w'

theorem results_five {fn : Func} {t u v x y : Tmp} (h : fn.results = #[.tmp t, .tmp u, .tmp v, .tmp x, .tmp y]) (tmps : Array Value) (P : Program) (w : World) :
    (results fn tmps).run P w = .ok (.tuple #[tmps.getD t undef, tmps.getD u undef, tmps.getD v undef, tmps.getD x undef, tmps.getD y undef]) w := by simp [results, h]

end Go.Proofs.Ytnojlapjkdihmaa
