/-
  Rows of numbers that are drawn: one more, one in place of another.
-/
import Derived.Test.YtpildecpabeanaaG25
import Derived.Test.YtpildecpabeanaaG31
namespace Go.Proofs.Ytpildecpabeanaa
open Go.RowKit

theorem RowsU.more {w w1 : World} {B : Nat} {v v' : Value} {ps : List (Nat × Nat × List Int)} {p : Nat × Nat × List Int} {tmp : Obj} (h : RowsU w B v ps) (ho : Own w B (some ⟨p.1, 0, none⟩) p.2.1 p.2.2) (hn : p.1 ∉ ps.map (·.1))
    (hown : w1.ownsRow B 23 1 v' (ps.length + 1) (ps.map slU ++ [slU p])) (hg : (w.alloc tmp).grownBy w1 v.ownBlock) : RowsU w1 B v' (ps ++ [p]) := by
  have hk : ∀ q : Nat × Nat × List Int, Own w B (some ⟨q.1, 0, none⟩) q.2.1 q.2.2 → Own w1 B (some ⟨q.1, 0, none⟩) q.2.1 q.2.2 := by
    intro q hq
    have h1 := World.ownsRow.kept (show (w.alloc tmp).ownsRow B 3 1 _ _ _ from hq.below ((Below.refl _ w).alloc (Nat.le_refl _) tmp)) hg (.inr (by
      have := rowU_apart h.row hq
      simp only [Value.ownBlock]
      exact fun e => this e.symm))
    exact h1
  refine ⟨by simpa using hown, ?_, ?_⟩
  · intro q hq
    rcases List.mem_append.1 hq with hq | hq
    · exact hk q (h.each q hq)
    · obtain rfl : q = p := by simpa using hq
      exact hk q ho
  · rw [List.map_append, List.nodup_append]
    refine ⟨h.nodup, by simp, ?_⟩
    intro a ha b hb hab
    simp at hb
    subst hb hab
    exact hn ha
/-- The first row another. -/
theorem RowsU.put {w : World} {B g c : Nat} {p q : Nat × Nat × List Int} {rs : List (Nat × Nat × List Int)} (h : RowsU w B (.slice (some ⟨g, 0, none⟩) (p :: rs).length c) (p :: rs)) (ho : Own w B (some ⟨q.1, 0, none⟩) q.2.1 q.2.2) (hn : q.1 ∉ (p :: rs).map (·.1)) :
    RowsU (w.setCell ⟨g, 0, none⟩ (slU q)) B (.slice (some ⟨g, 0, none⟩) (p :: rs).length c) (q :: rs) := by
  have hst := World.ownsRow.stored h.row 0 (slU q)
  have hap : ∀ r : Nat × Nat × List Int, Own w B (some ⟨r.1, 0, none⟩) r.2.1 r.2.2 → Own (w.setCell ⟨g, 0, none⟩ (slU q)) B (some ⟨r.1, 0, none⟩) r.2.1 r.2.2 := fun r hr => by
    have := rowU_apart h.row hr
    exact hr.kept_ (A2 := some ⟨g, 0, none⟩) hst.2 (.inr (fun e => this e.symm))
  refine ⟨by simpa using hst.1, fun r hr => ?_, ?_⟩
  · rcases List.mem_cons.1 hr with rfl | hr
    · exact hap _ ho
    · exact hap _ (h.each r (by simp [hr]))
  · have h1 := h.nodup
    rw [List.map_cons, List.nodup_cons] at h1 ⊢
    exact ⟨fun hm => hn (by rw [List.map_cons]; exact List.mem_cons_of_mem _ hm), h1.2⟩
theorem RowsU.ask {w w' : World} {rb B : Nat} {v : Value} {ps : List (Nat × Nat × List Int)} (h : RowsU w B v ps) (hg : w.grownBy w' (some rb)) (hB : rb < B) : RowsU w' B v ps :=
  h.kept hg (fun e => by have := (World.ownsRow.lt h.row rb e).1; omega) (fun p hp e => by have := (h.each p hp).ge; omega)
theorem RowsU.notIn {w w0 : World} {B B' g c : Nat} {v : Value} {zs : List Int} {ps : List (Nat × Nat × List Int)} (h : RowsU w0 B v ps) (hs : w0.heap.size ≤ B') (ho : Own w B' (some ⟨g, 0, none⟩) c zs) : g ∉ ps.map (·.1) := by
  intro hg
  obtain ⟨p, hp, rfl⟩ := List.mem_map.1 hg
  have h1 := (h.each p hp).lt
  have h2 := ho.ge
  omega
theorem RowsU.one {w : World} {B : Nat} {v : Value} {ps : List (Nat × Nat × List Int)} (h : RowsU w B v ps) (hp : 1 ≤ ps.length) : ∃ g c, v = .slice (some ⟨g, 0, none⟩) ps.length c := by
  rcases h.shape with ⟨rfl, _⟩ | ⟨g, c, hv, _⟩
  · simp at hp
  · exact ⟨g, c, hv⟩

theorem rowr_empty (w : World) : (w.alloc (.cells #[] 23)).ownsRow w.heap.size 23 1 (.slice (some ⟨w.heap.size, 0, none⟩) 0 0) 0 [] := World.ownsRow_lit w #[] 0 (Nat.le_refl _) (Nat.zero_le _) rfl
theorem rowsU_empty (w : World) : RowsU (w.alloc (.cells #[] 23)) w.heap.size (.slice (some ⟨w.heap.size, 0, none⟩) 0 0) [] := ⟨rowr_empty w, fun _ h => absurd h (by simp), by simp⟩

theorem Own.alloc_ {w : World} {B : Nat} {A : Option Addr} {c : Nat} {xs : List Int} (h : Own w B A c xs) (o : Obj) : Own (w.alloc o) B A c xs := World.ownsRow.alloc h o

end Go.Proofs.Ytpildecpabeanaa

/-
  The generators of the laws: kinds, bids, reserves, and the arguments of SaleBy.
-/
namespace Go.Proofs.Ytpildecpabeanaa
open Go.RowKit

/-- 'append' of ints as one operation of a plain region. -/
theorem wpList_append_ints {ops : Array Oper} {rest : List Oper} {o : Oper} {a : Act} {w : World} {Q : Exit → Act → World → Prop} (hgd : o.guard = none) (s x : Operand)
    (ho : o.op = .call { callee := .builtin .append, args := #[s, x], argTypes := #[23, 23] })
    (base g0 : Nat) (c0 : Nat) (xs : List Int) (n : Nat) (hxn : xs.length = n) (hs : a.eval s = .slice (some ⟨g0, 0, none⟩) n c0) (hown : Own w base (some ⟨g0, 0, none⟩) c0 xs)
    (A : Option Addr) (c : Nat) (zs : List Int) (m : Nat) (hzm : zs.length = m) (hx : a.eval x = .slice A m c) (hr : Rd w A c zs)
    (hn : n + m ≤ 1099511627776) (hbase : base ≤ w.heap.size)
    (h : ∀ g c' w', Own w' base (some ⟨g, 0, none⟩) c' (xs ++ zs) → w.grownBy w' (some g0) → wpList Try.prog ops Q rest (a.put o.dst (.slice (some ⟨g, 0, none⟩) (n + m) c')) w') :
    wpList Try.prog ops Q (o :: rest) a w :=
  wpList_plain hgd fun _ hK => wp_append_ints s x ho base g0 c0 xs n hxn hs hown A c zs m hzm hx hr hn hbase fun g c' w' h1 h2 => hK _ _ (h g c' w' h1 h2)

set_option maxHeartbeats 1000000 in
set_option maxRecDepth 100000 in
theorem bidsOf_any (rb k N : Nat) (n : Int) (w : World) (h : Rdr w rb k) (hk : k + N + 3 ≤ 1000000) (hn : n ≤ (N : Int)) (hN : N ≤ 1000) :
    Calls Try.prog 114 #[.pointer (some ⟨rb, 0, none⟩), .int .i64 n] w (BidsIs w rb (k + N + 3) N) := by
  have hl := h.lt
  have HE := Lib.hid (own_empty w)
  have HL : Hid (Own ((w.alloc (.cells #[] 3)).alloc (.cells #[.int .i64 6, .int .i64 10, .int .i64 3, .int .i64 30] 3)) (w.heap.size + 1) (some ⟨w.heap.size + 1, 0, none⟩) 4 [6, 10, 3, 30]) := Lib.hid (by
    have := own_lit (w.alloc (.cells #[] 3)) [6, 10, 3, 30] (by decide)
    rw [World.size_alloc] at this
    exact this)
  have HR := Lib.hid ((h.alloc (.cells #[] 3)).alloc (.cells #[.int .i64 6, .int .i64 10, .int .i64 3, .int .i64 30] 3))
  have HG : Hid (w.grownBy ((w.alloc (.cells #[] 3)).alloc (.cells #[.int .i64 6, .int .i64 10, .int .i64 3, .int .i64 30] 3)) (some rb)) := Lib.hid (gb_alloc (World.grownBy_alloc w _ (some rb)) _)
  have HO : Hid (Own ((w.alloc (.cells #[] 3)).alloc (.cells #[.int .i64 6, .int .i64 10, .int .i64 3, .int .i64 30] 3)) w.heap.size (some ⟨w.heap.size, 0, none⟩) 0 []) := Lib.hid (World.ownsRow.alloc HE.out _)
  have hl2 : w.heap.size + 1 ≠ rb := by omega
  clear HE
  go_enter Try.func114, Try.ntmps114
  go_wp2_with fail
  refine (one_any rb k (w.heap.size + 1) 4 4 (w.heap.size + 1) [6, 10, 3, 30] _ rfl HR.out HL.out hl2 (by decide) (by decide) (by omega)).mono ?_
  rintro e w1 ⟨most, hmo, rfl, hr1, hg1⟩
  have hm0 : 3 ≤ most := by simp only [List.mem_cons, List.not_mem_nil, or_false] at hmo; omega
  have hm1 : most ≤ 30 := by simp only [List.mem_cons, List.not_mem_nil, or_false] at hmo; omega
  have ho1 : Own w1 w.heap.size (some ⟨w.heap.size, 0, none⟩) 0 [] := HO.out.kept_ (A2 := some ⟨rb, 0, none⟩) hg1 (.inr (fun e => by have := Option.some.inj e; simp at this; omega))
  have gg1 := HG.out.trans hg1
  clear hmo HR HG HO HL hg1 hl2
  go_wp2_with fail
  go_loopw [5] (fun v wr => ∃ (g c : Nat) (ys : List Int), ys.length ≤ N ∧ v = .slice (some ⟨g, 0, none⟩) ys.length c ∧ Own wr w.heap.size (some ⟨g, 0, none⟩) c ys ∧ Rdr wr rb (k + 1 + ys.length) ∧ w.grownBy wr (some rb))
    (fun v _ => N - lenOf v)
  case atStart => exact ⟨w.heap.size, 0, [], Nat.zero_le _, rfl, ho1, hr1, gg1⟩
  case round =>
    obtain ⟨g, c, ys, hys, rfl, ho, hr, hg⟩ := hrel
    have hge := ho.ge
    by_cases hlt : (ys.length : Int) < n
    · go_wp2_with fail
      refine (pick_any rb (k + 1 + ys.length) (most + 1) _ hr (by omega) (by omega) (by omega)).mono ?_
      rintro e w2 ⟨m, rfl, hm2, _, hr2, hg2⟩
      have ho2 := ho.kept_ (A2 := some ⟨rb, 0, none⟩) hg2 (.inr (fun e => by have := Option.some.inj e; simp at this; omega))
      have HLm : Hid (Own (w2.alloc (.cells #[.int .i64 m] 3)) w2.heap.size (some ⟨w2.heap.size, 0, none⟩) 1 [m]) := Lib.hid (own_lit w2 [m] (by simp))
      have HOm : Hid (Own (w2.alloc (.cells #[.int .i64 m] 3)) w.heap.size (some ⟨g, 0, none⟩) c ys) := Lib.hid (World.ownsRow.alloc ho2 _)
      have hgg := gb_alloc (hg.trans hg2) (.cells #[.int .i64 m] 3)
      have hsz := hgg.size
      have hrr := hr2.alloc (.cells #[.int .i64 m] 3)
      have hny : ys.length + 1 ≤ 1099511627776 := by omega
      have HN := Lib.hid hny
      clear hny ho2 hm2
      go_wp2_with (at_builtin; refine wpList_append_ints rfl _ _ rfl w.heap.size g c ys ys.length rfl rfl HOm.out _ _ [m] 1 rfl rfl HLm.out.rd HN.out hsz ?_; intro g3 c3 w3 ho3 hg3)
      have hr3 := hrr.grown hg3 (by omega)
      have hg4 := gb_new hgg hg3 hge
      go_roundw
      case rel => exact ⟨g3, c3, ys ++ [m], by simp; omega, by simp, ho3, by simpa [Nat.add_assoc] using hr3, hg4⟩
      case measure => simp [lenOf]; omega
    · by_cases hz : ys.length = 0
      · obtain rfl : ys = [] := List.eq_nil_of_length_eq_zero hz
        go_wp2
        go_ret
        exact ⟨g, c, [], rfl, ho, hys, hr.more (by simp; omega), hg⟩
      · have hz0 : (0 : Int) < (ys.length : Int) := by omega
        have hy1 : 0 < ys.length := by omega
        obtain ⟨x, hx⟩ := at_some hy1
        clear hz
        go_wp2_with fail
        refine (pick_any rb (k + 1 + ys.length) 30 _ hr (by omega) (by decide) (by decide)).mono ?_
        rintro e w2 ⟨m, rfl, hm2, _, hr2, hg2⟩
        have ho2 := ho.kept_ (A2 := some ⟨rb, 0, none⟩) hg2 (.inr (fun e => by have := Option.some.inj e; simp at this; omega))
        have gg2 := hg.trans hg2
        by_cases hm : m = 0
        · have hmb : (m == 0) = true := by simpa using hm
          have HLm : Hid (Own (w2.alloc (.cells #[.int .i64 (-1), .int .i64 31, .int .i64 30] 3)) w2.heap.size (some ⟨w2.heap.size, 0, none⟩) 3 [-1, 31, 30]) := Lib.hid (own_lit w2 [-1, 31, 30] (by decide))
          have HOm : Hid (Own (w2.alloc (.cells #[.int .i64 (-1), .int .i64 31, .int .i64 30] 3)) w.heap.size (some ⟨g, 0, none⟩) c ys) := Lib.hid (World.ownsRow.alloc ho2 _)
          have hrr := hr2.alloc (.cells #[.int .i64 (-1), .int .i64 31, .int .i64 30] 3)
          have hgg := gb_alloc gg2 (.cells #[.int .i64 (-1), .int .i64 31, .int .i64 30] 3)
          have hne : w2.heap.size ≠ rb := by have := hr2.lt; omega
          have HX := Lib.hid hx
          clear hx hm ho2
          go_wp2_with fail
          refine (one_any rb (k + 1 + ys.length + 1) w2.heap.size 3 3 w2.heap.size [-1, 31, 30] _ rfl hrr HLm.out hne (by decide) (by decide) (by omega)).mono ?_
          rintro e w3 ⟨y, _, rfl, hr3, hg3⟩
          have ho3 := HOm.out.kept_ (A2 := some ⟨rb, 0, none⟩) hg3 (.inr (fun e => by have := Option.some.inj e; simp at this; omega))
          have hc3 := ho3.cell HX.out
          have hf3 := ho3.free 0
          have HS := Lib.hid (ho3.set_ 0 y)
          have hr4 := hr3.set_ (i := 0) (v := .int .i64 y) (show rb < g by omega)
          have hg4 := gb_set (i := 0) (v := .int .i64 y) (hgg.trans hg3) hge
          go_wp2
          go_ret
          exact ⟨g, c, ys.set 0 y, by rw [List.length_set]; rfl, HS.out, by rw [List.length_set]; exact hys, hr4.more (by omega), hg4⟩
        · have hmb : (m == 0) = false := by simpa using hm
          clear hm
          go_wp2
          go_ret
          exact ⟨g, c, ys, rfl, ho2, hys, hr2.more (by omega), gg2⟩

set_option maxRecDepth 100000 in
theorem someBids_any (rb k : Nat) (w : World) (h : Rdr w rb k) (hk : k + 11 ≤ 1000000) :
    Calls Try.prog 55 #[.pointer (some ⟨rb, 0, none⟩)] w (BidsIs w rb (k + 11) 7) := by
  have hl := h.lt
  have HL : Hid (Own (w.alloc (.cells #[.int .i64 3, .int .i64 2, .int .i64 4, .int .i64 1, .int .i64 5, .int .i64 6, .int .i64 0, .int .i64 7] 3)) w.heap.size (some ⟨w.heap.size, 0, none⟩) 8 [3, 2, 4, 1, 5, 6, 0, 7]) := Lib.hid (own_lit w [3, 2, 4, 1, 5, 6, 0, 7] (by decide))
  have HR := Lib.hid (h.alloc (.cells #[.int .i64 3, .int .i64 2, .int .i64 4, .int .i64 1, .int .i64 5, .int .i64 6, .int .i64 0, .int .i64 7] 3))
  have HG : Hid (w.grownBy (w.alloc (.cells #[.int .i64 3, .int .i64 2, .int .i64 4, .int .i64 1, .int .i64 5, .int .i64 6, .int .i64 0, .int .i64 7] 3)) (some rb)) := Lib.hid (World.grownBy_alloc w _ (some rb))
  have hne : w.heap.size ≠ rb := by omega
  go_enter Try.func55, Try.ntmps55
  go_wp2_with fail
  refine (one_any rb k w.heap.size 8 8 w.heap.size [3, 2, 4, 1, 5, 6, 0, 7] _ rfl HR.out HL.out hne (by decide) (by decide) (by omega)).mono ?_
  rintro e w1 ⟨n, hn, rfl, hr1, hg1⟩
  have hn7 : n ≤ ((7 : Nat) : Int) := by simp only [List.mem_cons, List.not_mem_nil, or_false] at hn; omega
  have gg := HG.out.trans hg1
  have hsz := gg.size
  clear hn HL HR HG
  go_wp2_with fail
  refine (bidsOf_any rb (k + 1) 7 n _ hr1 (by omega) hn7 (by decide)).mono ?_
  rintro e w2 ⟨g, c, ys, rfl, ho, hy, hr2, hg2⟩
  go_wp2
  go_ret
  exact ⟨g, c, ys, rfl, ho.base hsz, hy, hr2.more (by omega), gg.trans hg2⟩

/-- What DrawSaleBy hands back. -/
def DrawnSale (w : World) (e : Ending) (w' : World) : Prop :=
  ∃ (s : ByteArray) (A : Option Addr) (c : Nat) (xs : List Int) (r : Int), e = .returned (.tuple #[.string s, .slice A xs.length c, .int .i64 r]) ∧ s.size ≤ 1048576 ∧ Rd w' A c xs ∧ xs.length ≤ 7 ∧ -2147483648 ≤ r ∧ r ≤ 2147483647 ∧ Below w.heap.size w w'

end Go.Proofs.Ytpildecpabeanaa
