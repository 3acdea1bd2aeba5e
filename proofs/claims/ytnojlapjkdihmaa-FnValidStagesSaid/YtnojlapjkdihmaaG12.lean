/-
  The reader: one of the rows that are told.
-/
import Derived.Test.YtnojlapjkdihmaaG09
import Derived.Test.YtnojlapjkdihmaaDrawD
namespace Go.Proofs.Ytnojlapjkdihmaa
open Go.RowKit

/-- 'list[r.pick(len(list))]': one of the rows. -/
theorem one2_any (rb k B : Nat) (v : Value) (ps : List (Nat × Nat × List Int)) (w : World) (h : Rdr w rb k) (hR : RowsU w B v ps) (hB : rb < B) (h1 : 1 ≤ ps.length) (hn2 : ps.length ≤ 1000) (hk : k ≤ 1000000) :
    Calls Try.prog 160 #[.pointer (some ⟨rb, 0, none⟩), v] w fun e w' => ∃ p ∈ ps, e = .returned (slU p) ∧ Rdr w' rb (k + 1) ∧ w.grownBy w' (some rb) := by
  rcases hR.shape with ⟨rfl, _⟩ | ⟨g, c, rfl, hcell⟩
  · simp at h1
  have HC := Lib.hid hcell
  have hgB := (World.ownsRow.lt hR.row g rfl).1
  clear hcell
  go_enter Try.func160, Try.ntmps160
  go_wp2_with fail
  refine (pick_any rb k ps.length w h hk (by omega) (by omega)).mono ?_
  rintro e w1 ⟨m, rfl, hm0, hm1, hr, hgr⟩
  obtain ⟨j, rfl⟩ := Int.eq_ofNat_of_zero_le hm0
  have hj : j < ps.length := by omega
  obtain ⟨p, hp⟩ : ∃ p, ps[j]? = some p := ⟨_, List.getElem?_eq_getElem hj⟩
  have hc : w1.cell? ⟨g, j, none⟩ = some (slU p) := hgr.cell (HC.out j p hp) (fun e => by have := Option.some.inj e; simp at this; omega)
  have HX := Lib.hid (List.mem_of_getElem? hp)
  obtain ⟨pg, pc, pl⟩ := p
  simp only [slU] at hc
  clear hp hm1
  go_wp2
  go_ret
  exact ⟨(pg, pc, pl), HX.out, rfl, hr, hgr⟩

end Go.Proofs.Ytnojlapjkdihmaa

/-
  The generators of the laws of chapter 2: the arguments.
-/
namespace Go.Proofs.Ytnojlapjkdihmaa
open Go.RowKit

/-- What the generators of weights hand back: weights alone; with one number; with two. -/
def DrawnW (w : World) (e : Ending) (w' : World) : Prop :=
  ∃ (A : Option Addr) (c : Nat) (xs : List Int), e = .returned (.slice A xs.length c) ∧ Rd w' A c xs ∧ xs.length ≤ c ∧ xs.length ≤ 7 ∧ Below w.heap.size w w'
def DrawnW1 (w : World) (e : Ending) (w' : World) : Prop :=
  ∃ (A : Option Addr) (c : Nat) (xs : List Int) (n : Int), e = .returned (.tuple #[.slice A xs.length c, .int .i64 n]) ∧ Rd w' A c xs ∧ xs.length ≤ c ∧ xs.length ≤ 7 ∧ -1 ≤ n ∧ n ≤ 7 ∧ Below w.heap.size w w'
def DrawnW2 (w : World) (e : Ending) (w' : World) : Prop :=
  ∃ (A : Option Addr) (c : Nat) (xs : List Int) (n r : Int), e = .returned (.tuple #[.slice A xs.length c, .int .i64 n, .int .i64 r]) ∧ Rd w' A c xs ∧ xs.length ≤ c ∧ xs.length ≤ 7 ∧ -1 ≤ n ∧ n ≤ 7 ∧ -1 ≤ r ∧ r ≤ 7 ∧ Below w.heap.size w w'

end Go.Proofs.Ytnojlapjkdihmaa
