/-
  Chapter 6: what stays in demand, by the model: KeepsDemand.
-/
import Derived.Test.YtpildecpabeanaaG22
import Derived.Test.YtpildecpabeanaaG04
import Derived.Test.YtpildecpabeanaaG07
namespace Go.Proofs.Ytpildecpabeanaa
open Go.RowKit

/-- All of the things of s that are in m are in y. -/
def covB (m : Nat) (s y : Int) : Bool := ((s.toNat &&& m) - (s.toNat &&& m &&& y.toNat)) == 0
def anyTo (m : Nat) (s : Int) (L : List Int) (k : Nat) : Bool := (L.take k).any (covB m s)
def allTo (m : Nat) (L O : List Int) (k : Nat) : Bool := (O.take k).all (fun s => L.any (covB m s))
theorem anyTo_zero (m : Nat) (s : Int) (L : List Int) : anyTo m s L 0 = false := by simp [anyTo]
theorem anyTo_step {m : Nat} {s y : Int} {L : List Int} {k : Nat} (h : L[k]? = some y) : anyTo m s L (k + 1) = (anyTo m s L k || covB m s y) := by
  unfold anyTo; rw [List.take_add_one, h, List.any_append]; simp
theorem anyTo_all (m : Nat) (s : Int) (L : List Int) : anyTo m s L L.length = L.any (covB m s) := by unfold anyTo; rw [List.take_length]
theorem allTo_zero (m : Nat) (L O : List Int) : allTo m L O 0 = true := by simp [allTo]
theorem allTo_step {m : Nat} {s : Int} {L O : List Int} {k : Nat} (h : O[k]? = some s) : allTo m L O (k + 1) = (allTo m L O k && L.any (covB m s)) := by
  unfold allTo; rw [List.take_add_one, h, List.all_append]; simp
theorem allTo_no {m : Nat} {s : Int} {L O : List Int} {k : Nat} (h : O[k]? = some s) (hn : L.any (covB m s) = false) : allTo m L O O.length = false := by
  unfold allTo; rw [List.take_length, List.all_eq_false]
  exact ⟨s, List.mem_of_getElem? h, by simp [hn]⟩
/-- That is what is kept. -/
theorem kd_all {t p q : List Int} : allTo (sm p q) (dm t q) (dm t p) (dm t p).length = true ↔ Kd t p q := by
  unfold allTo
  rw [List.take_length, List.all_eq_true]
  constructor
  · intro h s hs hd
    have := h (s : Int) (dm_mem.2 ⟨s, rfl, hs, hd⟩)
    rw [List.any_eq_true] at this
    obtain ⟨y, hy, hc⟩ := this
    obtain ⟨x, rfl, hx, hxd⟩ := dm_mem.1 hy
    exact ⟨x, hx, hxd, by simpa [covB] using hc⟩
  · intro h y hy
    obtain ⟨s, rfl, hs, hd⟩ := dm_mem.1 hy
    obtain ⟨x, hx, hxd, hc⟩ := h s hs hd
    rw [List.any_eq_true]
    exact ⟨(x : Int), dm_mem.2 ⟨x, rfl, hx, hxd⟩, by simp [covB, hc]⟩
theorem dm_at {t p : List Int} {k : Nat} {x : Int} (h : (dm t p)[k]? = some x) : ∃ s : Nat, x = (s : Int) ∧ s < 8 := by
  obtain ⟨s, h1, h2, _⟩ := dm_mem.1 (List.mem_of_getElem? h)
  exact ⟨s, h1, h2⟩
theorem cov_bits {s m y : Nat} (hs : s < 8) (hm : m < 8) (hy : y < 8) : bits .and .i64 (s : Int) (m : Int) = ((s &&& m : Nat) : Int) ∧ bits .andNot .i64 ((s &&& m : Nat) : Int) (y : Int) = (((s &&& m) - (s &&& m &&& y) : Nat) : Int) :=
  ⟨and_nat hs hm, andNot_nat (Nat.lt_of_le_of_lt Nat.and_le_left hs) hy⟩
theorem covB_eq (m s y : Nat) : covB m (s : Int) (y : Int) = (((((s &&& m) - (s &&& m &&& y) : Nat) : Int)) == 0) := by
  unfold covB
  simp only [Int.toNat_natCast]
  rw [Bool.eq_iff_iff]
  simp
/-- None of the first k prices is less. -/
def UpTo (p q : List Int) (k : Nat) : Prop := ∀ i, i < k → T p i ≤ T q i
theorem UpTo.zero (p q : List Int) : UpTo p q 0 := fun i h => absurd h (by omega)
theorem UpTo.next {p q : List Int} {k : Nat} (h : UpTo p q k) (hk : T p k ≤ T q k) : UpTo p q (k + 1) := fun i hi => by
  rcases Nat.lt_or_ge i k with h1 | h1
  · exact h i h1
  · rw [show i = k by omega]; exact hk
theorem smTo_yes {p q : List Int} {k : Nat} (h : T p k = T q k) : smTo p q (k + 1) = smTo p q k + 2 ^ k := by simp [smTo, h]
theorem smTo_no {p q : List Int} {k : Nat} (h : ¬ T p k = T q k) : smTo p q (k + 1) = smTo p q k := by simp [smTo, h]

end Go.Proofs.Ytpildecpabeanaa

/-
  Chapter 6: the program's dearerOf and sameIn.
-/
namespace Go.Proofs.Ytpildecpabeanaa
open Go.RowKit

/-- The greater prices of the first k things, the others as they were. -/
def mxP (p q : List Int) (k : Nat) : List Int := (List.range 3).map (fun i => if i < k then (if T p i < T q i then T q i else T p i) else T p i)
theorem mxP_len (p q : List Int) (k : Nat) : (mxP p q k).length = 3 := by simp [mxP]
theorem mxP_at (p q : List Int) (k : Nat) {i : Nat} (hi : i < 3) : T (mxP p q k) i = if i < k then (if T p i < T q i then T q i else T p i) else T p i := by
  apply T_of
  simp [mxP, hi]
theorem ext3 {l m : List Int} (hl : l.length = 3) (hm : m.length = 3) (h : ∀ x, x < 3 → T l x = T m x) : l = m := by
  apply List.ext_getElem (by omega)
  intro i h1 h2
  have := h i (by omega)
  rw [T_of (List.getElem?_eq_getElem h1), T_of (List.getElem?_eq_getElem h2)] at this
  exact this
theorem mxP_zero {p : List Int} (q : List Int) (hp : p.length = 3) : mxP p q 0 = p := ext3 (mxP_len _ _ _) hp (fun x hx => by rw [mxP_at _ _ _ hx, if_neg (by omega)])
theorem mxP_step (p q : List Int) {k : Nat} (hk : k < 3) : mxP p q (k + 1) = (mxP p q k).set k (if T p k < T q k then T q k else T p k) := ext3 (mxP_len _ _ _) (by rw [List.length_set]; exact mxP_len _ _ _) (fun x hx => by
  rw [T_set (by rw [mxP_len]; exact hk), mxP_at _ _ _ hx, mxP_at _ _ _ hx]
  by_cases h1 : k = x
  · subst h1; rw [if_pos (by omega), if_pos rfl]
  · rw [if_neg h1]
    by_cases h2 : x < k
    · rw [if_pos (by omega), if_pos h2]
    · rw [if_neg (by omega), if_neg h2])
theorem mxP_end (p q : List Int) {i : Nat} (hi : i < 3) : T (mxP p q 3) i = if T p i < T q i then T q i else T p i := by rw [mxP_at _ _ _ hi, if_pos hi]
end Go.Proofs.Ytpildecpabeanaa

/-
  The exact laws' helpers for lists of rows: sized, copied, compared, marked.
-/
namespace Go.Proofs.Ytpildecpabeanaa
open Go.RowKit

/-- The slice value of a row: its block, its capacity, its numbers. -/
def slU (p : Nat × Nat × List Int) : Value := .slice (some ⟨p.1, 0, none⟩) p.2.2.length p.2.1

/-- The slice value v holds the rows ps, it and each of them in a block of the call's own, from block B on, no two in one block. -/
structure RowsU (w : World) (B : Nat) (v : Value) (ps : List (Nat × Nat × List Int)) : Prop where
  row : w.ownsRow B 23 1 v ps.length (ps.map slU)
  each : ∀ p ∈ ps, Own w B (some ⟨p.1, 0, none⟩) p.2.1 p.2.2
  nodup : (ps.map (·.1)).Nodup

theorem rowU_apart {w : World} {B B' g c n : Nat} {v : Value} {vs : List Value} {zs : List Int} (hr : w.ownsRow B 23 1 v n vs) (ho : Own w B' (some ⟨g, 0, none⟩) c zs) : v.ownBlock ≠ some g := by
  intro e
  rcases hr.2 with ⟨rfl, _⟩ | ⟨g', cap, cur, rfl, _, hh, _⟩
  · simp [Value.ownBlock] at e
  · obtain rfl : g' = g := by simpa [Value.ownBlock] using e
    rcases ho.2 with ⟨hv, _⟩ | ⟨g2, cap2, cur2, hv2, _, hh2, _⟩
    · cases hv
    · injection hv2 with hA _ _
      injection hA with hA
      injection hA with hA
      subst hA
      rw [hh] at hh2
      cases hh2
theorem RowsU.below {w w' : World} {B : Nat} {v : Value} {ps : List (Nat × Nat × List Int)} (h : RowsU w B v ps) (hb : Below w.heap.size w w') : RowsU w' B v ps :=
  ⟨own_len h.row hb, fun p hp => (h.each p hp).below hb, h.nodup⟩
theorem RowsU.base {w : World} {B B' : Nat} {v : Value} {ps : List (Nat × Nat × List Int)} (h : RowsU w B v ps) (hB : B' ≤ B) : RowsU w B' v ps :=
  ⟨own_base h.row hB, fun p hp => (h.each p hp).base hB, h.nodup⟩
theorem RowsU.kept {w w' : World} {B : Nat} {v : Value} {ps : List (Nat × Nat × List Int)} (h : RowsU w B v ps) {r : Nat} (hg : w.grownBy w' (some r)) (hv : v.ownBlock ≠ some r) (hp : ∀ p ∈ ps, p.1 ≠ r) : RowsU w' B v ps :=
  ⟨h.row.kept hg (.inr hv), fun p hpp => (h.each p hpp).kept_ (A2 := some ⟨r, 0, none⟩) hg (.inr (fun e => hp p hpp (Option.some.inj e))), h.nodup⟩
/-- Own rows read as rows. -/
theorem RowsU.rdr {w : World} {B : Nat} {v : Value} {ps : List (Nat × Nat × List Int)} {rows : List (List Int)} (h : RowsU w B v ps) (hr : ps.map (·.2.2) = rows) : ∃ A c, v = .slice A rows.length c ∧ RdR w A c rows := by
  subst hr
  rw [List.length_map]
  rcases h.row.2 with ⟨hv, hn⟩ | ⟨g, cap, cur, hv, _, _, h1, _⟩
  · obtain rfl : ps = [] := List.eq_nil_of_length_eq_zero hn
    exact ⟨none, 0, hv, RdR.nil w⟩
  · refine ⟨some ⟨g, 0, none⟩, cap, hv, by simpa using h1, .inr ⟨g, 0, rfl, fun k r hk => ?_⟩⟩
    rw [List.getElem?_map] at hk
    cases hp : ps[k]? with
    | none => rw [hp] at hk; cases hk
    | some p =>
      rw [hp] at hk
      simp at hk
      subst hk
      subst hv
      have := World.ownsRow.cellAt h.row k (by have := (List.getElem?_eq_some_iff.1 hp).1; omega)
      have ho := h.each p (List.mem_of_getElem? hp)
      exact ⟨slU p, by rw [Nat.zero_add, this, List.getElem?_map, hp]; rfl, some ⟨p.1, 0, none⟩, p.2.1, rfl, ho.cap.1, ho.rd⟩

/-- How many there are, and how many numbers they hold. -/
def szR (rows : List (List Int)) : Nat := rows.length + rows.flatten.length

theorem flat_take {rows : List (List Int)} {k : Nat} {r : List Int} (hr : rows[k]? = some r) : (rows.take (k + 1)).flatten.length = (rows.take k).flatten.length + r.length := by
  rw [List.take_add_one, hr, List.flatten_append, List.length_append, Option.toList_some, List.flatten_cons, List.flatten_nil, List.append_nil]
theorem flat_le {rows : List (List Int)} (k : Nat) : (rows.take k).flatten.length ≤ rows.flatten.length := by
  have e : rows.flatten = (rows.take k).flatten ++ (rows.drop k).flatten := by rw [← List.flatten_append, List.take_append_drop]
  rw [e, List.length_append]; omega

end Go.Proofs.Ytpildecpabeanaa
