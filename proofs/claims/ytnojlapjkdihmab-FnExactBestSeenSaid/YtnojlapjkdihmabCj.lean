/-
  The exact laws' helpers on fractions: that two lists that are the same are found so, that one is marked, and that the marks are held.
-/
import Derived.Test.YtnojlapjkdihmabCi
import Derived.Test.YtnojlapjkdihmabG01
namespace Go.Proofs.Ytnojlapjkdihmab
open Go.RowKit

set_option maxHeartbeats 600000 in
theorem eqFrac_same (a b : Int) (w : World) :
    Calls Try.prog 18 #[frV a b, frV a b] w fun e w' => e = .returned (.bool true) ∧ Below w.heap.size w w' := by
  have h1 : (a != a) = false := by simp
  have h2 : (b != b) = false := by simp
  unfold frV
  go_enter Try.func18, Try.ntmps18
  go_wp2
  go_ret
  exact ⟨rfl, ((below_al _ _).alloc (by simp) _)⟩

/-- k, one more, and so on, two by two. -/
def upP (k : Int) (n : Nat) : List (Int × Int) := (List.range n).map (fun i => (k + 2 * (i : Nat), k + 2 * (i : Nat) + 1))
theorem upP_len (k : Int) (n : Nat) : (upP k n).length = n := by simp [upP]
theorem upP_at (k : Int) (n i : Nat) (h : i < n) : (upP k n)[i]? = some (k + 2 * i, k + 2 * i + 1) := by simp [upP, h]
def markP (k : Int) (ps : List (Int × Int)) (j : Nat) : List (Int × Int) := upP k j ++ ps.drop j
theorem markP_len (k : Int) (ps : List (Int × Int)) (j : Nat) (hj : j ≤ ps.length) : (markP k ps j).length = ps.length := by simp [markP, upP_len]; omega
theorem markP_zero (k : Int) (ps : List (Int × Int)) : markP k ps 0 = ps := by simp [markP, upP]
theorem markP_all (k : Int) (ps : List (Int × Int)) : markP k ps ps.length = upP k ps.length := by simp [markP]
theorem markP_set (k : Int) (ps : List (Int × Int)) (j : Nat) (hj : j < ps.length) : (markP k ps j).set j (k + 2 * j, k + 2 * j + 1) = markP k ps (j + 1) := by
  unfold markP
  rw [List.set_append, if_neg (by rw [upP_len]; omega), upP_len, Nat.sub_self]
  rw [List.drop_eq_getElem_cons hj, List.set_cons_zero]
  simp [upP, List.range_succ]

theorem ownF_addr {w : World} {B : Nat} {A : Option Addr} {c : Nat} {ps : List (Int × Int)} (h : OwnF w B A c ps) (hp : 0 < ps.length) : ∃ g, A = some ⟨g, 0, none⟩ := by
  rcases ownF_shape h with ⟨_, ⟨hv, hz⟩ | ⟨g, c', hv⟩⟩
  · subst hz; simp at hp
  · injection hv with hA; exact ⟨g, hA⟩
theorem OwnF.half {w : World} {B g c : Nat} {ps : List (Int × Int)} (h : OwnF w B (some ⟨g, 0, none⟩) c ps) (i : Nat) (u : Value) {x y : Int} (hx : ps[i]? = some (x, y)) :
    (w.setCell ⟨g, i * 2, none⟩ u).cell? ⟨g, i * 2 + 1, none⟩ = some (.int .i64 y) ∧ (w.setCell ⟨g, i * 2, none⟩ u).frozen? ⟨g, i * 2 + 1, none⟩ = false := by
  have h1 := (World.ownsRow.stored h (i * 2) u).1
  refine ⟨?_, World.ownsRow.frozenAt h1 _⟩
  rw [World.cell?_setCell_other w ⟨g, i * 2, none⟩ ⟨g, i * 2 + 1, none⟩ _ (fun e => by injection e with _ e2; omega)]
  exact (h.cell hx).2

end Go.Proofs.Ytnojlapjkdihmab
