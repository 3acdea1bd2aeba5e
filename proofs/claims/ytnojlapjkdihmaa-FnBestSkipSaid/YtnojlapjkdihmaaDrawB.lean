/-
  The generators of the laws: the contracts of one, of, and of those of bids, kinds and reserves.
-/
import Derived.Test.YtnojlapjkdihmaaDraw
namespace Go.Proofs.Ytnojlapjkdihmaa
open Go.RowKit

theorem gb_new {w w1 w2 : World} {rb g : Nat} (h : w.grownBy w1 (some rb)) (h2 : w1.grownBy w2 (some g)) (hg : w.heap.size ≤ g) : w.grownBy w2 (some rb) :=
  ⟨h2.os.trans h.os, h2.tape.trans h.tape, h2.output.trans h.output, Nat.le_trans h.size h2.size, fun k hk hne =>
    (h2.block k (Nat.lt_of_lt_of_le hk h.size) (fun e => by have := Option.some.inj e; omega)).trans (h.block k hk hne)⟩
theorem gb_alloc {w w1 : World} {rb : Nat} (h : w.grownBy w1 (some rb)) (o : Obj) : w.grownBy (w1.alloc o) (some rb) := h.trans (World.grownBy_alloc w1 o (some rb))
theorem gb_drewN {w w1 : World} {rb : Nat} (h : w.grownBy w1 (some rb)) (n : Nat) : w.grownBy (w1.drewN n) (some rb) := h.trans ⟨rfl, rfl, rfl, Nat.le_refl _, fun _ _ _ => rfl⟩
theorem gb_set {w w1 : World} {rb g i : Nat} {v : Value} (h : w.grownBy w1 (some rb)) (hg : w.heap.size ≤ g) : w.grownBy (w1.setCell ⟨g, i, none⟩ v) (some rb) :=
  gb_new (g := g) h ⟨rfl, rfl, rfl, by simp, fun k _ hk => heap_setCell_other w1 ⟨g, i, none⟩ k v (fun e => hk (by simp [e]))⟩ hg
theorem gb_below {w w1 : World} {B rb : Nat} (h : w.grownBy w1 (some rb)) (hB : B ≤ w.heap.size) (hr : B ≤ rb) : Below B w w1 :=
  (Below.refl B w).grown h hB (fun k hk => by have := Option.some.inj hk; omega)

theorem Rdr.alloc {w : World} {rb k : Nat} (h : Rdr w rb k) (o : Obj) : Rdr (w.alloc o) rb k := h.keep (fun g hg => Below.heap_alloc w o g hg)
/-- A reader stays while a block behind it is written. -/
theorem Rdr.grown {w w' : World} {rb k g : Nat} (h : Rdr w rb k) (hg : w.grownBy w' (some g)) (hlt : rb < g) : Rdr w' rb k := by
  have hl := h.lt
  obtain ⟨A, c, p, xs, h1, h2, h3, h4, h5⟩ := h
  refine ⟨A, c, p, xs, (hg.block rb hl (fun e => by have := Option.some.inj e; omega)).trans h1, h2, h3, h4, ?_⟩
  rcases h5 with h5 | ⟨b, off, hA, hb, hc⟩
  · exact .inl h5
  · exact .inr ⟨b, off, hA, hb, fun j x hx => hg.cell (hc j x hx) (fun e => by have := Option.some.inj e; simp at this; omega)⟩
theorem Rdr.set_ {w : World} {rb k g i : Nat} {v : Value} (h : Rdr w rb k) (hlt : rb < g) : Rdr (w.setCell ⟨g, i, none⟩ v) rb k :=
  h.grown (g := g) ⟨rfl, rfl, rfl, by simp, fun k _ hk => heap_setCell_other w ⟨g, i, none⟩ k v (fun e => hk (by simp [e]))⟩ hlt

/-- What one hands back: one of the numbers. -/
def OneIs (w : World) (rb k : Nat) (zs : List Int) (e : Ending) (w' : World) : Prop :=
  ∃ x, x ∈ zs ∧ e = .returned (.int .i64 x) ∧ Rdr w' rb (k + 1) ∧ w.grownBy w' (some rb)

theorem one_any (rb k g c n B : Nat) (zs : List Int) (w : World) (hn : zs.length = n) (h : Rdr w rb k) (ho : Own w B (some ⟨g, 0, none⟩) c zs) (hg : g ≠ rb) (hn1 : 1 ≤ n) (hn2 : n ≤ 1048576) (hk : k ≤ 1000000) :
    Calls Try.prog 66 #[.pointer (some ⟨rb, 0, none⟩), .slice (some ⟨g, 0, none⟩) n c] w (OneIs w rb k zs) := by
  have HN := Lib.hid hn
  clear hn
  go_enter Try.func66, Try.ntmps66
  go_wp2_with fail
  refine (pick_any rb k n w h hk (by omega) (by omega)).mono ?_
  rintro e w1 ⟨m, rfl, hm0, hm1, hr, hgr⟩
  obtain ⟨j, rfl⟩ := Int.eq_ofNat_of_zero_le hm0
  have hj : j < n := by omega
  obtain ⟨x, hx⟩ := at_some (xs := zs) (k := j) (by rw [HN.out]; exact hj)
  have ho1 := ho.kept_ (A2 := some ⟨rb, 0, none⟩) hgr (.inr (fun e => hg (Option.some.inj e)))
  have hc := ho1.cell hx
  have HX := Lib.hid (List.mem_of_getElem? hx)
  clear hx hm1 ho1
  go_wp2
  go_ret
  exact ⟨x, HX.out, rfl, hr, hgr⟩

/-- What of hands back: one of the words. -/
def OfIs (w : World) (rb k : Nat) (ss : List ByteArray) (e : Ending) (w' : World) : Prop :=
  ∃ s, s ∈ ss ∧ e = .returned (.string s) ∧ Rdr w' rb (k + 1) ∧ w.grownBy w' (some rb)

theorem of_any (rb k g c n : Nat) (ss : List ByteArray) (w : World) (hn : ss.length = n) (h : Rdr w rb k) (hc : ∀ j s, ss[j]? = some s → w.cell? ⟨g, j, none⟩ = some (.string s)) (hg : g ≠ rb) (hn1 : 1 ≤ n) (hn2 : n ≤ 1048576) (hk : k ≤ 1000000) :
    Calls Try.prog 202 #[.pointer (some ⟨rb, 0, none⟩), .slice (some ⟨g, 0, none⟩) n c] w (OfIs w rb k ss) := by
  have HN := Lib.hid hn
  have HC := Lib.hid hc
  clear hn hc
  go_enter Try.func202, Try.ntmps202
  go_wp2_with fail
  refine (pick_any rb k n w h hk (by omega) (by omega)).mono ?_
  rintro e w1 ⟨m, rfl, hm0, hm1, hr, hgr⟩
  obtain ⟨j, rfl⟩ := Int.eq_ofNat_of_zero_le hm0
  have hj : j < n := by omega
  obtain ⟨s, hs⟩ : ∃ s, ss[j]? = some s := ⟨_, List.getElem?_eq_getElem (by rw [HN.out]; exact hj)⟩
  have hcell : w1.cell? ⟨g, j, none⟩ = some (.string s) := hgr.cell (HC.out j s hs) (fun e => hg (Option.some.inj e))
  have HX := Lib.hid (List.mem_of_getElem? hs)
  clear hs hm1
  go_wp2
  go_ret
  exact ⟨s, HX.out, rfl, hr, hgr⟩

theorem newReader_any (A : Option Addr) (c : Nat) (xs : List Int) (w : World) (h : Came .u8 w A c xs) :
    Calls Try.prog 61 #[.slice A xs.length c] w fun e w' => ∃ rb, e = .returned (.pointer (some ⟨rb, 0, none⟩)) ∧ w.heap.size ≤ rb ∧ Rdr w' rb 0 ∧ Below w.heap.size w w' := by
  obtain ⟨hc1, hc2, hwf, hcell⟩ := h
  have hb : ∀ x ∈ xs, 0 ≤ x ∧ x ≤ 255 := by
    intro x hx
    have := hwf x hx
    simp only [Lit.wf, Bool.and_eq_true, decide_eq_true_eq] at this
    have h1 : IntKind.u8.min = 0 := rfl
    have h2 : IntKind.u8.max = 255 := rfl
    omega
  have hread : xs = [] ∨ ∃ b off, A = some ⟨b, off, none⟩ ∧ b < w.heap.size ∧ ∀ j x, xs[j]? = some x → w.cell? ⟨b, off + j, none⟩ = some (.int .u8 x) := by
    rcases hcell with ⟨h, _⟩ | ⟨b, off, hA, hc⟩
    · exact .inl h
    · rcases xs with _ | ⟨x0, xt⟩
      · exact .inl rfl
      · refine .inr ⟨b, off, hA, World.block_lt_of_cell? w _ (hc 0 (by simp)), fun j x hx => ?_⟩
        rw [hc j (List.getElem?_eq_some_iff.1 hx).1, hx]; rfl
  have HB := Lib.hid hb
  have HR := Lib.hid hread
  unfold maxLen at hc2
  clear hwf hcell hb hread
  have fin : ∀ (c' : Nat) (n : Nat), n ≤ 2000 → n ≤ xs.length → Rdr (w.alloc (.cells #[.slice A n c', .int .i64 0] 104)) w.heap.size 0 := by
    intro c' n hn hnx
    have hl : (xs.take n).length = n := by simp; omega
    refine ⟨A, c', 0, xs.take n, by rw [hl]; exact heap_alloc_new w _, Nat.le_refl _, by omega, fun x hx => HB.out x (List.mem_of_mem_take hx), ?_⟩
    rcases HR.out with h | ⟨b, off, hA, hbl, hc⟩
    · exact .inl (by rw [h]; simp)
    · refine .inr ⟨b, off, hA, hbl, fun j x hx => ?_⟩
      have hj : j < n := by have := (List.getElem?_eq_some_iff.1 hx).1; omega
      rw [List.getElem?_take_of_lt hj] at hx
      exact (World.cell?_alloc_lt w _ ⟨b, off + j, none⟩ hbl).trans (hc j x hx)
  have HF := Lib.hid fin
  clear fin
  by_cases hl : 2000 < xs.length
  · have hlc : 2000 ≤ c := by omega
    go_enter Try.func61, Try.ntmps61
    go_wp2
    go_ret
    exact ⟨_, rfl, Nat.le_refl _, HF.out c 2000 (by omega) (by omega), (Below.refl _ _).alloc (Nat.le_refl _) _⟩
  · go_enter Try.func61, Try.ntmps61
    go_wp2
    go_ret
    exact ⟨_, rfl, Nat.le_refl _, HF.out c xs.length (by omega) (by omega), (Below.refl _ _).alloc (Nat.le_refl _) _⟩

theorem lit_str (w : World) (ss : List ByteArray) (j : Nat) (s : ByteArray) (h : ss[j]? = some s) :
    (w.alloc (.cells (ss.map Value.string).toArray 9)).cell? ⟨w.heap.size, j, none⟩ = some (.string s) := by
  rw [cell_of_row _ w.heap.size j _ _ _ (heap_alloc_new w _)]
  simp [h]

/-- A word, a reader that has been asked, and what else was there. -/
def WordIs (w : World) (rb k : Nat) (e : Ending) (w' : World) : Prop := ∃ s : ByteArray, e = .returned (.string s) ∧ s.size ≤ 1048576 ∧ Rdr w' rb k ∧ w.grownBy w' (some rb)
def NumIs (w : World) (rb k : Nat) (e : Ending) (w' : World) : Prop := ∃ x : Int, e = .returned (.int .i64 x) ∧ -2147483648 ≤ x ∧ x ≤ 2147483647 ∧ Rdr w' rb k ∧ w.grownBy w' (some rb)
def BidsIs (w : World) (rb k N : Nat) (e : Ending) (w' : World) : Prop :=
  ∃ g c ys, e = .returned (.slice (some ⟨g, 0, none⟩) ys.length c) ∧ Own w' w.heap.size (some ⟨g, 0, none⟩) c ys ∧ ys.length ≤ N ∧ Rdr w' rb k ∧ w.grownBy w' (some rb)

def lenOf : Value → Nat
  | .slice _ n _ => n
  | _ => 0

end Go.Proofs.Ytnojlapjkdihmaa
