/-
  The generators of the laws of chapter 4: a table, most often.
-/
import Derived.Test.YtmgdhljlbcfefaaQd
namespace Go.Proofs.Ytmgdhljlbcfefaa
open Go.RowKit Go.Lib

theorem own_take {w : World} {B g c : Nat} {ys : List Int} (h : Own w B (some ⟨g, 0, none⟩) c ys) (n : Nat) (hn : n ≤ ys.length) : Own w B (some ⟨g, 0, none⟩) c (ys.take n) := by
  have hl : (ys.take n).length = n := by rw [List.length_take]; omega
  rcases h.2 with ⟨hv, _⟩ | ⟨g', cap, cur, hv, hB, hh, h1, h2, h3, h4⟩
  · cases hv
  · injection hv with hA hn' hc
    injection hA with hA
    injection hA with hA
    subst hA hc
    unfold Own
    rw [hl]
    refine ⟨by simp; omega, .inr ⟨g, c, cur, rfl, hB, hh, by omega, h2, h3, ?_⟩⟩
    have : (cur.toList.take (ys.length * 1)).take (n * 1) = (ys.map (Value.int .i64)).take (n * 1) := by rw [h4]
    rw [List.take_take, Nat.min_eq_left (by omega)] at this
    rw [this, List.map_take]
    simp

/-- What is drawn: a list of at most eight numbers in a block of its own. -/
def TbsIs (w : World) (rb k : Nat) (e : Ending) (w' : World) : Prop :=
  ∃ g c ys, e = .returned (.slice (some ⟨g, 0, none⟩) ys.length c) ∧ ys.length ≤ 8 ∧ Own w' w.heap.size (some ⟨g, 0, none⟩) c ys ∧ Rdr w' rb k ∧ w.grownBy w' (some rb)

set_option maxHeartbeats 4000000 in
set_option maxRecDepth 100000 in
theorem someTable_any (rb k : Nat) (w : World) (h : Rdr w rb k) (hk : k + 80 ≤ 1000000) :
    Calls Try.prog 48 #[.pointer (some ⟨rb, 0, none⟩)] w (TbsIs w rb (k + 40)) := by
  have hl := h.lt
  go_enter Try.func48, Try.ntmps48
  go_wp2_with fail
  refine (goodTable_any rb k w h (by omega)).mono ?_
  rintro e w1 ⟨g, c, ys, rfl, hy, _, o1, hr1, hg1⟩
  have hl1 := hr1.lt
  have hgr := o1.ge
  go_wp2_with fail
  refine (pick_any rb (k + 30) 40 w1 hr1 (by omega) (by decide) (by decide)).mono ?_
  rintro e w2 ⟨m, rfl, hm0, hm1, hr2, hg2⟩
  have gg2 := hg1.trans hg2
  have o2 : Own w2 w.heap.size (some ⟨g, 0, none⟩) c ys := o1.kept_ (A2 := some ⟨rb, 0, none⟩) hg2 (.inr (fun e => by have h3 : g = rb := Option.some.inj e; omega))
  have hcap := o2.cap
  by_cases h0 : m = 0
  · subst h0
    go_wp2_with fail
    refine (pick_any rb (k + 30 + 1) 8 w2 hr2 (by omega) (by decide) (by decide)).mono ?_
    rintro e w3 ⟨i, rfl, hi0, hi1, hr3, hg3⟩
    obtain ⟨i, rfl⟩ := Int.eq_ofNat_of_zero_le hi0
    have hi8 : i < 8 := by omega
    have o3 : Own w3 w.heap.size (some ⟨g, 0, none⟩) c ys := o2.kept_ (A2 := some ⟨rb, 0, none⟩) hg3 (.inr (fun e => by have h3 : g = rb := Option.some.inj e; omega))
    have gg3 := gg2.trans hg3
    clear hg2 hg3 hg1 o1 o2 hi0 hi1
    go_wp2_with fail
    refine (one_new rb (k + 30 + 1 + 1) 4 [31, -1, 0, 30] _ w3 rfl rfl hr3 (by decide) (by decide) (by omega)).mono ?_
    rintro e w4 ⟨v, _, rfl, hr4, hg4⟩
    have o4 : Own w4 w.heap.size (some ⟨g, 0, none⟩) c ys := o3.kept_ (A2 := some ⟨rb, 0, none⟩) hg4 (.inr (fun e => by have h3 : g = rb := Option.some.inj e; omega))
    have gg4 := gg3.trans hg4
    obtain ⟨y, hyi⟩ := at_some (xs := ys) (k := i) (by omega)
    have hcell := o4.cell hyi
    have hfree := o4.free i
    have o5 := o4.set_ i v
    have hi0' : (0 : Int) ≤ (i : Int) := by omega
    have hi8' : (i : Int) < 8 := by omega
    have HL : Hid ((ys.set i v).length = 8) := Lib.hid (by rw [List.length_set]; exact hy)
    have HR5 := Lib.hid (hr4.set_ (g := g) (i := i) (v := .int .i64 v) (by omega))
    have HG5 := Lib.hid (gb_set (g := g) (i := i) (v := .int .i64 v) gg4 hgr)
    clear hyi hg4 o3
    go_wp2
    go_ret
    exact ⟨g, c, ys.set i v, by rw [HL.out]; rfl, by rw [HL.out]; omega, o5, HR5.out.more (by omega), HG5.out⟩
  by_cases h1 : m = 1
  · subst h1
    have h7 := own_take o2 7 (by omega)
    have hl7 : (ys.take 7).length = 7 := by rw [List.length_take]; omega
    go_wp2
    go_ret
    exact ⟨g, c, ys.take 7, by rw [hl7]; rfl, by omega, h7, hr2.more (by omega), gg2⟩
  · have q0 : (m == 0) = false := by simpa using h0
    have q1 : (m == 1) = false := by simpa using h1
    clear h0 h1
    go_wp2
    go_ret
    exact ⟨g, c, ys, by rw [hy]; rfl, by omega, o2, hr2.more (by omega), gg2⟩

end Go.Proofs.Ytmgdhljlbcfefaa
