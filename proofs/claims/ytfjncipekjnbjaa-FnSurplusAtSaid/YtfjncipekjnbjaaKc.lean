/-
  The laws of chapter 6: prices drawn, the draws of a table and prices, lists in which a number is, and that rise.
-/
import Derived.Test.YtfjncipekjnbjaaKb
namespace Go.Proofs.Ytfjncipekjnbjaa
open Go.RowKit Go.Lib

/-- What is drawn: prices, most often. -/
def PrsIs (w : World) (rb k : Nat) (e : Ending) (w' : World) : Prop :=
  ∃ (g off c : Nat) (p : List Int), e = .returned (.slice (some ⟨g, off, none⟩) p.length c) ∧ (p.length = 3 ∨ p.length = 2) ∧ (∀ x ∈ p, -1 ≤ x ∧ x ≤ 41) ∧ Rd w' (some ⟨g, off, none⟩) c p ∧ p.length ≤ c ∧ w.heap.size ≤ g ∧ g < w'.heap.size ∧ Rdr w' rb k ∧ w.grownBy w' (some rb)

theorem mem3 {x y z : Int} {P : Int → Prop} (hx : P x) (hy : P y) (hz : P z) : ∀ v ∈ [x, y, z], P v := by
  intro v hv
  simp only [List.mem_cons, List.not_mem_nil, or_false] at hv
  rcases hv with rfl | rfl | rfl <;> assumption
theorem mem2 {y z : Int} {P : Int → Prop} (hy : P y) (hz : P z) : ∀ v ∈ [y, z], P v := by
  intro v hv
  simp only [List.mem_cons, List.not_mem_nil, or_false] at hv
  rcases hv with rfl | rfl <;> assumption

set_option maxHeartbeats 1600000 in
set_option maxRecDepth 100000 in
theorem somePrices_any (rb k : Nat) (w : World) (h : Rdr w rb k) (hk : k + 50 ≤ 1000000) :
    Calls Try.prog 76 #[.pointer (some ⟨rb, 0, none⟩)] w (PrsIs w rb (k + 6)) := by
  have hl := h.lt
  go_enter Try.func76, Try.ntmps76
  go_wp2_with fail
  refine (pick_any rb k 8 w h (by omega) (by decide) (by decide)).mono ?_
  rintro e w1 ⟨x, rfl, hx0, hx1, hr1, hg1⟩
  go_wp2_with fail
  refine (pick_any rb (k + 1) 8 w1 hr1 (by omega) (by decide) (by decide)).mono ?_
  rintro e w2 ⟨y, rfl, hy0, hy1, hr2, hg2⟩
  have gg2 := hg1.trans hg2
  clear hg1 hg2
  go_wp2_with fail
  refine (pick_any rb (k + 1 + 1) 8 w2 hr2 (by omega) (by decide) (by decide)).mono ?_
  rintro e w3 ⟨z, rfl, hz0, hz1, hr3, hg3⟩
  have gg3 := gg2.trans hg3
  have hl3 := hr3.lt
  have HX : Hid (-1 ≤ x ∧ x ≤ 41) := Lib.hid (by have := pick_lt hx0 hx1 (by decide); omega)
  have HY : Hid (-1 ≤ y ∧ y ≤ 41) := Lib.hid (by have := pick_lt hy0 hy1 (by decide); omega)
  have HZ : Hid (-1 ≤ z ∧ z ≤ 41) := Lib.hid (by have := pick_lt hz0 hz1 (by decide); omega)
  clear gg2 hg3 hx0 hx1 hy0 hy1 hz0 hz1
  have hr4 := hr3.alloc (.cells #[.int .i64 x, .int .i64 y, .int .i64 z] 3)
  have o4 : Own (w3.alloc (.cells #[.int .i64 x, .int .i64 y, .int .i64 z] 3)) w3.heap.size (some ⟨w3.heap.size, 0, none⟩) 3 [x, y, z] := own_lit w3 [x, y, z] (by simp)
  have gg4 := gb_alloc gg3 (.cells #[.int .i64 x, .int .i64 y, .int .i64 z] 3)
  have hsz := gg3.size
  obtain ⟨w4, hw4⟩ : ∃ w4, w4 = w3.alloc (.cells #[.int .i64 x, .int .i64 y, .int .i64 z] 3) := ⟨_, rfl⟩
  have hs4 : w4.heap.size = w3.heap.size + 1 := by rw [hw4]; simp
  rw [← hw4] at hr4 o4 gg4
  have HW := Lib.hid hw4
  go_wp2_with fail
  rw [← HW.out]
  clear hw4 gg3
  refine (pick_any rb (k + 1 + 1 + 1) 30 w4 hr4 (by omega) (by decide) (by decide)).mono ?_
  rintro e w5 ⟨m, rfl, hm0, hm1, hr5, hg5⟩
  have o5 : Own w5 w3.heap.size (some ⟨w3.heap.size, 0, none⟩) 3 [x, y, z] := o4.kept_ (A2 := some ⟨rb, 0, none⟩) hg5 (.inr (fun e => by have h3 : w3.heap.size = rb := Option.some.inj e; omega))
  have gg5 := gg4.trans hg5
  have hs5 := hg5.size
  have hlt5 : w3.heap.size < w5.heap.size := by omega
  clear hg5 gg4 o4 hr4 HW
  by_cases h0 : m = 0
  · subst h0
    go_wp2_with fail
    refine (one_new rb (k + 1 + 1 + 1 + 1) 3 [-1, 40, 41] _ w5 rfl rfl hr5 (by decide) (by decide) (by omega)).mono ?_
    rintro e w6 ⟨v, hv, rfl, hr6, hg6⟩
    have HV : Hid (-1 ≤ v ∧ v ≤ 41) := Lib.hid (by simp only [List.mem_cons, List.not_mem_nil, or_false] at hv; omega)
    have o6 : Own w6 w3.heap.size (some ⟨w3.heap.size, 0, none⟩) 3 [x, y, z] := o5.kept_ (A2 := some ⟨rb, 0, none⟩) hg6 (.inr (fun e => by have h3 : w3.heap.size = rb := Option.some.inj e; omega))
    have gg6 := gg5.trans hg6
    have hs6 := hg6.size
    have hcell := o6.cell (show [x, y, z][0]? = some x from rfl)
    have hfree := o6.free 0
    have HO := Lib.hid (o6.set_ 0 v)
    have HR := Lib.hid (hr6.set_ (g := w3.heap.size) (i := 0) (v := .int .i64 v) (by omega))
    have HG := Lib.hid (gb_set (g := w3.heap.size) (i := 0) (v := .int .i64 v) gg6 hsz)
    have HLT : Hid (w3.heap.size < (w6.setCell ⟨w3.heap.size, 0, none⟩ (.int .i64 v)).heap.size) := Lib.hid (by simp; omega)
    clear hg6 o5 hv hs5
    go_wp2
    go_ret
    exact ⟨w3.heap.size, 0, 3, [v, y, z], rfl, .inl rfl, mem3 HV.out HY.out HZ.out, HO.out.rd, by simp, hsz, HLT.out, HR.out.more (by omega), HG.out⟩
  by_cases h1 : m = 1
  · subst h1
    have hrd : Rd w5 (some ⟨w3.heap.size, 0 + 1, none⟩) 2 [y, z] := Rd.drop_ o5.rd 1
    go_wp2
    go_ret
    exact ⟨w3.heap.size, 1, 2, [y, z], rfl, .inr rfl, mem2 HY.out HZ.out, hrd, by simp, hsz, hlt5, hr5.more (by omega), gg5⟩
  · have q0 : (m == 0) = false := by simpa using h0
    have q1 : (m == 1) = false := by simpa using h1
    clear h0 h1
    go_wp2
    go_ret
    exact ⟨w3.heap.size, 0, 3, [x, y, z], rfl, .inl rfl, mem3 HX.out HY.out HZ.out, o5.rd, by simp, hsz, hlt5, hr5.more (by omega), gg5⟩

/-- What is drawn: a list of at most eight numbers, and prices. -/
def DrawnTP (w : World) (e : Ending) (w' : World) : Prop :=
  ∃ (g c : Nat) (t : List Int) (g2 off c2 : Nat) (p : List Int), e = .returned (.tuple #[.slice (some ⟨g, 0, none⟩) t.length c, .slice (some ⟨g2, off, none⟩) p.length c2]) ∧ Rd w' (some ⟨g, 0, none⟩) c t ∧ Rd w' (some ⟨g2, off, none⟩) c2 p ∧ t.length ≤ 8 ∧ t.length ≤ c ∧
    (p.length = 3 ∨ p.length = 2) ∧ (∀ x ∈ p, -1 ≤ x ∧ x ≤ 41) ∧ p.length ≤ c2 ∧ Below w.heap.size w w'

set_option maxHeartbeats 1000000 in
set_option maxRecDepth 100000 in
theorem DrawSurplusAt_any (A : Option Addr) (c : Nat) (xs : List Int) (w : World) (h : Came .u8 w A c xs) :
    Calls Try.prog 20 #[.slice A xs.length c] w (DrawnTP w) := by
  go_enter Try.func20, Try.ntmps20
  go_wp2_with fail
  refine (newReader_any A c xs w h).mono ?_
  rintro e w1 ⟨rb, rfl, hrb, hr1, hb1⟩
  go_wp2_with fail
  refine (someTable_any rb 0 w1 hr1 (by decide)).mono ?_
  rintro e w2 ⟨g, c2, t, rfl, ht, o2, hr2, hg2⟩
  have hge := o2.ge
  have hl1 := hr1.lt
  go_wp2_with fail
  refine (somePrices_any rb (0 + 40) w2 hr2 (by decide)).mono ?_
  rintro e w3 ⟨g3, off, c3, p, rfl, hp, hpb, r3, hc3, hg3, _, _, hgg3⟩
  have o23 : Own w3 w1.heap.size (some ⟨g, 0, none⟩) c2 t := o2.kept_ (A2 := some ⟨rb, 0, none⟩) hgg3 (.inr (fun e => by have h3 : g = rb := Option.some.inj e; omega))
  have HB := Lib.hid (hb1.trans (gb_below (hg2.trans hgg3) hb1.size hrb))
  have HP := Lib.hid hpb
  clear hg2 hgg3 o2 hpb
  go_wp2
  go_ret2
  exact ⟨g, c2, t, g3, off, c3, p, rfl, o23.rd, r3, ht, o23.cap.1, hp, HP.out, hc3, HB.out⟩

set_option maxHeartbeats 1000000 in
set_option maxRecDepth 100000 in
theorem DrawDemandAt_any (A : Option Addr) (c : Nat) (xs : List Int) (w : World) (h : Came .u8 w A c xs) :
    Calls Try.prog 23 #[.slice A xs.length c] w (DrawnTP w) := by
  go_enter Try.func23, Try.ntmps23
  go_wp2_with fail
  refine (newReader_any A c xs w h).mono ?_
  rintro e w1 ⟨rb, rfl, hrb, hr1, hb1⟩
  go_wp2_with fail
  refine (someTable_any rb 0 w1 hr1 (by decide)).mono ?_
  rintro e w2 ⟨g, c2, t, rfl, ht, o2, hr2, hg2⟩
  have hge := o2.ge
  have hl1 := hr1.lt
  go_wp2_with fail
  refine (somePrices_any rb (0 + 40) w2 hr2 (by decide)).mono ?_
  rintro e w3 ⟨g3, off, c3, p, rfl, hp, hpb, r3, hc3, hg3, _, _, hgg3⟩
  have o23 : Own w3 w1.heap.size (some ⟨g, 0, none⟩) c2 t := o2.kept_ (A2 := some ⟨rb, 0, none⟩) hgg3 (.inr (fun e => by have h3 : g = rb := Option.some.inj e; omega))
  have HB := Lib.hid (hb1.trans (gb_below (hg2.trans hgg3) hb1.size hrb))
  have HP := Lib.hid hpb
  clear hg2 hgg3 o2 hpb
  go_wp2
  go_ret2
  exact ⟨g, c2, t, g3, off, c3, p, rfl, o23.rd, r3, ht, o23.cap.1, hp, HP.out, hc3, HB.out⟩

end Go.Proofs.Ytfjncipekjnbjaa
