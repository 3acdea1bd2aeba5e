/-
  The generators of the laws of chapter 2: the arguments.
-/
import Derived.Test.YtoipjhdnmiomeaaDrawD
namespace Go.Proofs.Ytoipjhdnmiomeaa
open Go.RowKit

set_option maxHeartbeats 6000000 in
set_option maxRecDepth 100000 in
theorem someWeights_any (rb k : Nat) (w : World) (h : Rdr w rb k) (hk : k + 17 ≤ 1000000) :
    Calls Try.prog 47 #[.pointer (some ⟨rb, 0, none⟩)] w (BidsIs w rb (k + 17) 7) := by
  have hl := h.lt
  have HE := Lib.hid (own_empty w)
  have HL : Hid (Own ((w.alloc (.cells #[] 3)).alloc (.cells #[.int .i64 4, .int .i64 3, .int .i64 5, .int .i64 6, .int .i64 2, .int .i64 1, .int .i64 0, .int .i64 7] 3)) (w.heap.size + 1) (some ⟨w.heap.size + 1, 0, none⟩) 8 [4, 3, 5, 6, 2, 1, 0, 7]) := Lib.hid (by
    have := own_lit (w.alloc (.cells #[] 3)) [4, 3, 5, 6, 2, 1, 0, 7] (by decide)
    rw [World.size_alloc] at this
    exact this)
  have HR := Lib.hid ((h.alloc (.cells #[] 3)).alloc (.cells #[.int .i64 4, .int .i64 3, .int .i64 5, .int .i64 6, .int .i64 2, .int .i64 1, .int .i64 0, .int .i64 7] 3))
  have HG : Hid (w.grownBy ((w.alloc (.cells #[] 3)).alloc (.cells #[.int .i64 4, .int .i64 3, .int .i64 5, .int .i64 6, .int .i64 2, .int .i64 1, .int .i64 0, .int .i64 7] 3)) (some rb)) := Lib.hid (gb_alloc (World.grownBy_alloc w _ (some rb)) _)
  have HO : Hid (Own ((w.alloc (.cells #[] 3)).alloc (.cells #[.int .i64 4, .int .i64 3, .int .i64 5, .int .i64 6, .int .i64 2, .int .i64 1, .int .i64 0, .int .i64 7] 3)) w.heap.size (some ⟨w.heap.size, 0, none⟩) 0 []) := Lib.hid (World.ownsRow.alloc HE.out _)
  have hl2 : w.heap.size + 1 ≠ rb := by omega
  clear HE
  go_enter Try.func47, Try.ntmps47
  go_wp2_with fail
  refine (one_any rb k (w.heap.size + 1) 8 8 (w.heap.size + 1) [4, 3, 5, 6, 2, 1, 0, 7] _ rfl HR.out HL.out hl2 (by decide) (by decide) (by omega)).mono ?_
  rintro e w1 ⟨most, hmo, rfl, hr1, hg1⟩
  have hm0 : 0 ≤ most := by simp only [List.mem_cons, List.not_mem_nil, or_false] at hmo; omega
  have hm1 : most ≤ 7 := by simp only [List.mem_cons, List.not_mem_nil, or_false] at hmo; omega
  have ho1 : Own w1 w.heap.size (some ⟨w.heap.size, 0, none⟩) 0 [] := HO.out.kept_ (A2 := some ⟨rb, 0, none⟩) hg1 (.inr (fun e => by have := Option.some.inj e; simp at this; omega))
  have gg1 := HG.out.trans hg1
  clear hmo HR HG HO HL hg1 hl2
  go_wp2_with fail
  go_loopw [3] (fun v wr => ∃ (g c : Nat) (ys : List Int), ys.length ≤ 7 ∧ v = .slice (some ⟨g, 0, none⟩) ys.length c ∧ Own wr w.heap.size (some ⟨g, 0, none⟩) c ys ∧ Rdr wr rb (k + 1 + 2 * ys.length) ∧ w.grownBy wr (some rb))
    (fun v _ => 7 - lenOf v)
  case atStart => exact ⟨w.heap.size, 0, [], Nat.zero_le _, rfl, ho1, hr1, gg1⟩
  case round =>
    obtain ⟨g, c, ys, hys, rfl, ho, hr, hg⟩ := hrel
    have hge := ho.ge
    by_cases hlt : (ys.length : Int) < most
    · go_wp2_with fail
      refine (one_new rb (k + 1 + 2 * ys.length) 3 [3, 6, 2] _ wr rfl rfl hr (by decide) (by decide) (by omega)).mono ?_
      rintro e w0 ⟨x, hx, rfl, hr0, hg0⟩
      have hx0 : 0 ≤ x := by simp only [List.mem_cons, List.not_mem_nil, or_false] at hx; omega
      have hx1 : x ≤ 6 := by simp only [List.mem_cons, List.not_mem_nil, or_false] at hx; omega
      have ho0 := ho.kept_ (A2 := some ⟨rb, 0, none⟩) hg0 (.inr (fun e => by have := Option.some.inj e; simp at this; omega))
      have gg0 := hg.trans hg0
      clear hx
      go_wp2_with fail
      refine (pick_any rb (k + 1 + 2 * ys.length + 1) x _ hr0 (by omega) (by omega) (by omega)).mono ?_
      rintro e w2 ⟨m, rfl, hm2, hm3, hr2, hg2⟩
      have hm4 : m ≤ 6 := by omega
      have ho2 := ho0.kept_ (A2 := some ⟨rb, 0, none⟩) hg2 (.inr (fun e => by have := Option.some.inj e; simp at this; omega))
      have HLm : Hid (Own (w2.alloc (.cells #[.int .i64 (1 + m)] 3)) w2.heap.size (some ⟨w2.heap.size, 0, none⟩) 1 [1 + m]) := Lib.hid (own_lit w2 [1 + m] (by simp))
      have HOm : Hid (Own (w2.alloc (.cells #[.int .i64 (1 + m)] 3)) w.heap.size (some ⟨g, 0, none⟩) c ys) := Lib.hid (World.ownsRow.alloc ho2 _)
      have hgg := gb_alloc (gg0.trans hg2) (.cells #[.int .i64 (1 + m)] 3)
      have hsz := hgg.size
      have hrr := hr2.alloc (.cells #[.int .i64 (1 + m)] 3)
      have hny : ys.length + 1 ≤ 1099511627776 := by omega
      have HN := Lib.hid hny
      clear hny ho2 hm3
      go_wp2_with (at_builtin; refine wpList_append_ints rfl _ _ rfl w.heap.size g c ys ys.length rfl rfl HOm.out _ _ [1 + m] 1 rfl rfl HLm.out.rd HN.out hsz ?_; intro g3 c3 w3 ho3 hg3)
      have hr3 := hrr.grown hg3 (by omega)
      have hg4 := gb_new hgg hg3 hge
      go_roundw
      case rel => exact ⟨g3, c3, ys ++ [1 + m], by simp; omega, by simp, ho3, hr3.more (by simp; omega), hg4⟩
      case measure => simp [lenOf]; omega
    · by_cases hz : ys.length = 0
      · obtain rfl : ys = [] := List.eq_nil_of_length_eq_zero hz
        go_wp2
        go_ret
        exact ⟨g, c, [], rfl, ho, hys, hr.more (by simp <;> omega), hg⟩
      · have hz0 : (0 : Int) < (ys.length : Int) := by omega
        have hy1 : 0 < ys.length := by omega
        obtain ⟨x, hx⟩ := at_some hy1
        clear hz
        go_wp2_with fail
        refine (pick_any rb (k + 1 + 2 * ys.length) 30 _ hr (by omega) (by decide) (by decide)).mono ?_
        rintro e w2 ⟨m, rfl, hm2, _, hr2, hg2⟩
        have ho2 := ho.kept_ (A2 := some ⟨rb, 0, none⟩) hg2 (.inr (fun e => by have := Option.some.inj e; simp at this; omega))
        have gg2 := hg.trans hg2
        by_cases hm : m = 0
        · have hmb : (m == 0) = true := by simpa using hm
          have HX := Lib.hid hx
          clear hx hm
          go_wp2_with fail
          refine (one_new rb (k + 1 + 2 * ys.length + 1) 2 [0, 7] _ w2 rfl rfl hr2 (by decide) (by decide) (by omega)).mono ?_
          rintro e w3 ⟨y, _, rfl, hr3, hg3⟩
          have ho3 := ho2.kept_ (A2 := some ⟨rb, 0, none⟩) hg3 (.inr (fun e => by have := Option.some.inj e; simp at this; omega))
          have hc3 := ho3.cell HX.out
          have hf3 := ho3.free 0
          have HS := Lib.hid (ho3.set_ 0 y)
          have hr4 := hr3.set_ (i := 0) (v := .int .i64 y) (show rb < g by omega)
          have hg4 := gb_set (i := 0) (v := .int .i64 y) (gg2.trans hg3) hge
          go_wp2
          go_ret
          exact ⟨g, c, ys.set 0 y, by rw [List.length_set]; rfl, HS.out, by rw [List.length_set]; exact hys, hr4.more (by omega), hg4⟩
        · have hmb : (m == 0) = false := by simpa using hm
          clear hm
          go_wp2
          go_ret
          exact ⟨g, c, ys, rfl, ho2, hys, hr2.more (by omega), gg2⟩

/-- What the generators of weights hand back: weights alone; with one number; with two. -/
def DrawnW (w : World) (e : Ending) (w' : World) : Prop :=
  ∃ (A : Option Addr) (c : Nat) (xs : List Int), e = .returned (.slice A xs.length c) ∧ Rd w' A c xs ∧ xs.length ≤ c ∧ xs.length ≤ 7 ∧ Below w.heap.size w w'
def DrawnW1 (w : World) (e : Ending) (w' : World) : Prop :=
  ∃ (A : Option Addr) (c : Nat) (xs : List Int) (n : Int), e = .returned (.tuple #[.slice A xs.length c, .int .i64 n]) ∧ Rd w' A c xs ∧ xs.length ≤ c ∧ xs.length ≤ 7 ∧ -1 ≤ n ∧ n ≤ 7 ∧ Below w.heap.size w w'
def DrawnW2 (w : World) (e : Ending) (w' : World) : Prop :=
  ∃ (A : Option Addr) (c : Nat) (xs : List Int) (n r : Int), e = .returned (.tuple #[.slice A xs.length c, .int .i64 n, .int .i64 r]) ∧ Rd w' A c xs ∧ xs.length ≤ c ∧ xs.length ≤ 7 ∧ -1 ≤ n ∧ n ≤ 7 ∧ -1 ≤ r ∧ r ≤ 7 ∧ Below w.heap.size w w'

theorem DrawBestPrice_any (A : Option Addr) (c : Nat) (xs : List Int) (w : World) (h : Came .u8 w A c xs) :
    Calls Try.prog 19 #[.slice A xs.length c] w (DrawnW w) := by
  go_enter Try.func19, Try.ntmps19
  go_wp2_with fail
  refine (newReader_any A c xs w h).mono ?_
  rintro e w1 ⟨rb, rfl, hrb, hr1, hb1⟩
  go_wp2_with fail
  refine (someWeights_any rb 0 w1 hr1 (by decide)).mono ?_
  rintro e w2 ⟨g, c2, ys, rfl, ho, hy, hr2, hg2⟩
  have B2 := hb1.trans (gb_below hg2 hb1.size hrb)
  go_wp2
  go_ret
  exact ⟨_, c2, ys, rfl, ho.rd, ho.cap.1, hy, B2⟩

theorem DrawVirtualOf_any (A : Option Addr) (c : Nat) (xs : List Int) (w : World) (h : Came .u8 w A c xs) :
    Calls Try.prog 23 #[.slice A xs.length c] w (DrawnW w) := by
  go_enter Try.func23, Try.ntmps23
  go_wp2_with fail
  refine (newReader_any A c xs w h).mono ?_
  rintro e w1 ⟨rb, rfl, hrb, hr1, hb1⟩
  go_wp2_with fail
  refine (someWeights_any rb 0 w1 hr1 (by decide)).mono ?_
  rintro e w2 ⟨g, c2, ys, rfl, ho, hy, hr2, hg2⟩
  have B2 := hb1.trans (gb_below hg2 hb1.size hrb)
  go_wp2
  go_ret
  exact ⟨_, c2, ys, rfl, ho.rd, ho.cap.1, hy, B2⟩

theorem DrawIronedOf_any (A : Option Addr) (c : Nat) (xs : List Int) (w : World) (h : Came .u8 w A c xs) :
    Calls Try.prog 29 #[.slice A xs.length c] w (DrawnW w) := by
  go_enter Try.func29, Try.ntmps29
  go_wp2_with fail
  refine (newReader_any A c xs w h).mono ?_
  rintro e w1 ⟨rb, rfl, hrb, hr1, hb1⟩
  go_wp2_with fail
  refine (someWeights_any rb 0 w1 hr1 (by decide)).mono ?_
  rintro e w2 ⟨g, c2, ys, rfl, ho, hy, hr2, hg2⟩
  have B2 := hb1.trans (gb_below hg2 hb1.size hrb)
  go_wp2
  go_ret
  exact ⟨_, c2, ys, rfl, ho.rd, ho.cap.1, hy, B2⟩

set_option maxRecDepth 100000 in
theorem DrawRevenueAt_any (A : Option Addr) (c : Nat) (xs : List Int) (w : World) (h : Came .u8 w A c xs) :
    Calls Try.prog 15 #[.slice A xs.length c] w (DrawnW1 w) := by
  go_enter Try.func15, Try.ntmps15
  go_wp2_with fail
  refine (newReader_any A c xs w h).mono ?_
  rintro e w1 ⟨rb, rfl, hrb, hr1, hb1⟩
  go_wp2_with fail
  refine (someWeights_any rb 0 w1 hr1 (by decide)).mono ?_
  rintro e w2 ⟨g, c2, ys, rfl, ho, hy, hr2, hg2⟩
  have hlt1 := hr1.lt
  have B2 := hb1.trans (gb_below hg2 hb1.size hrb)
  go_wp2_with fail
  refine (one_new rb 17 7 [2, 1, 3, 0, 6, 7, -1] _ w2 rfl rfl hr2 (by decide) (by decide) (by decide)).mono ?_
  rintro e w3 ⟨x, hx, rfl, hr3, hg3⟩
  have hxb : -1 ≤ x ∧ x ≤ 7 := by simp only [List.mem_cons, List.not_mem_nil, or_false] at hx; omega
  have HX := Lib.hid hxb
  clear hx hxb
  have o3 := ho.ask hg3 hlt1
  have B3 := B2.trans (gb_below hg3 B2.size hrb)
  go_wp2
  go_ret2
  exact ⟨_, c2, ys, x, rfl, o3.rd, o3.cap.1, hy, HX.out.1, HX.out.2, B3⟩

set_option maxRecDepth 100000 in
theorem DrawBestRevenue_any (A : Option Addr) (c : Nat) (xs : List Int) (w : World) (h : Came .u8 w A c xs) :
    Calls Try.prog 39 #[.slice A xs.length c] w (DrawnW1 w) := by
  go_enter Try.func39, Try.ntmps39
  go_wp2_with fail
  refine (newReader_any A c xs w h).mono ?_
  rintro e w1 ⟨rb, rfl, hrb, hr1, hb1⟩
  go_wp2_with fail
  refine (someWeights_any rb 0 w1 hr1 (by decide)).mono ?_
  rintro e w2 ⟨g, c2, ys, rfl, ho, hy, hr2, hg2⟩
  have hlt1 := hr1.lt
  have B2 := hb1.trans (gb_below hg2 hb1.size hrb)
  go_wp2_with fail
  refine (one_new rb 17 5 [2, 1, 3, 0, 4] _ w2 rfl rfl hr2 (by decide) (by decide) (by decide)).mono ?_
  rintro e w3 ⟨x, hx, rfl, hr3, hg3⟩
  have hxb : -1 ≤ x ∧ x ≤ 7 := by simp only [List.mem_cons, List.not_mem_nil, or_false] at hx; omega
  have HX := Lib.hid hxb
  clear hx hxb
  have o3 := ho.ask hg3 hlt1
  have B3 := B2.trans (gb_below hg3 B2.size hrb)
  go_wp2
  go_ret2
  exact ⟨_, c2, ys, x, rfl, o3.rd, o3.cap.1, hy, HX.out.1, HX.out.2, B3⟩

set_option maxRecDepth 100000 in
theorem DrawEdgeRevenue_any (A : Option Addr) (c : Nat) (xs : List Int) (w : World) (h : Came .u8 w A c xs) :
    Calls Try.prog 32 #[.slice A xs.length c] w (DrawnW2 w) := by
  go_enter Try.func32, Try.ntmps32
  go_wp2_with fail
  refine (newReader_any A c xs w h).mono ?_
  rintro e w1 ⟨rb, rfl, hrb, hr1, hb1⟩
  go_wp2_with fail
  refine (someWeights_any rb 0 w1 hr1 (by decide)).mono ?_
  rintro e w2 ⟨g, c2, ys, rfl, ho, hy, hr2, hg2⟩
  have hlt1 := hr1.lt
  have B2 := hb1.trans (gb_below hg2 hb1.size hrb)
  go_wp2_with fail
  refine (one_new rb 17 5 [2, 1, 3, 0, 4] _ w2 rfl rfl hr2 (by decide) (by decide) (by decide)).mono ?_
  rintro e w3 ⟨x, hx, rfl, hr3, hg3⟩
  have hxb : -1 ≤ x ∧ x ≤ 7 := by simp only [List.mem_cons, List.not_mem_nil, or_false] at hx; omega
  have HX := Lib.hid hxb
  clear hx hxb
  have o3 := ho.ask hg3 hlt1
  have B3 := B2.trans (gb_below hg3 B2.size hrb)
  go_wp2_with fail
  refine (one_new rb 18 6 [0, 1, 2, 3, 6, 7] _ w3 rfl rfl hr3 (by decide) (by decide) (by decide)).mono ?_
  rintro e w4 ⟨y, hx, rfl, hr4, hg4⟩
  have hyb : -1 ≤ y ∧ y ≤ 7 := by simp only [List.mem_cons, List.not_mem_nil, or_false] at hx; omega
  have HY := Lib.hid hyb
  clear hx hyb
  have o4 := o3.ask hg4 hlt1
  have B4 := B3.trans (gb_below hg4 B3.size hrb)
  go_wp2
  go_ret3
  exact ⟨_, c2, ys, x, y, rfl, o4.rd, o4.cap.1, hy, HX.out.1, HX.out.2, HY.out.1, HY.out.2, B4⟩

set_option maxRecDepth 100000 in
theorem DrawVirtualRevenue_any (A : Option Addr) (c : Nat) (xs : List Int) (w : World) (h : Came .u8 w A c xs) :
    Calls Try.prog 37 #[.slice A xs.length c] w (DrawnW2 w) := by
  go_enter Try.func37, Try.ntmps37
  go_wp2_with fail
  refine (newReader_any A c xs w h).mono ?_
  rintro e w1 ⟨rb, rfl, hrb, hr1, hb1⟩
  go_wp2_with fail
  refine (someWeights_any rb 0 w1 hr1 (by decide)).mono ?_
  rintro e w2 ⟨g, c2, ys, rfl, ho, hy, hr2, hg2⟩
  have hlt1 := hr1.lt
  have B2 := hb1.trans (gb_below hg2 hb1.size hrb)
  go_wp2_with fail
  refine (one_new rb 17 5 [2, 1, 3, 0, 4] _ w2 rfl rfl hr2 (by decide) (by decide) (by decide)).mono ?_
  rintro e w3 ⟨x, hx, rfl, hr3, hg3⟩
  have hxb : -1 ≤ x ∧ x ≤ 7 := by simp only [List.mem_cons, List.not_mem_nil, or_false] at hx; omega
  have HX := Lib.hid hxb
  clear hx hxb
  have o3 := ho.ask hg3 hlt1
  have B3 := B2.trans (gb_below hg3 B2.size hrb)
  go_wp2_with fail
  refine (one_new rb 18 6 [0, 1, 2, 3, 6, 7] _ w3 rfl rfl hr3 (by decide) (by decide) (by decide)).mono ?_
  rintro e w4 ⟨y, hx, rfl, hr4, hg4⟩
  have hyb : -1 ≤ y ∧ y ≤ 7 := by simp only [List.mem_cons, List.not_mem_nil, or_false] at hx; omega
  have HY := Lib.hid hyb
  clear hx hyb
  have o4 := o3.ask hg4 hlt1
  have B4 := B3.trans (gb_below hg4 B3.size hrb)
  go_wp2
  go_ret3
  exact ⟨_, c2, ys, x, y, rfl, o4.rd, o4.cap.1, hy, HX.out.1, HX.out.2, HY.out.1, HY.out.2, B4⟩

end Go.Proofs.Ytoipjhdnmiomeaa
