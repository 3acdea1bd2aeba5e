/-
  The generators of the laws: kinds, bids, reserves, and the arguments of SaleBy.
-/
import Derived.Test.YtpildecpabeanaaG29
import Derived.Test.YtpildecpabeanaaG05
namespace Go.Proofs.Ytpildecpabeanaa
open Go.RowKit

/-- 'append' of ints as one operation of a plain region. -/
theorem wpList_append_ints {ops : Array Oper} {rest : List Oper} {o : Oper} {a : Act} {w : World} {Q : Exit → Act → World → Prop} (hgd : o.guard = none) (s x : Operand)
    (ho : o.op = .call { callee := .builtin .append, args := #[s, x], argTypes := #[23, 23] })
    (base g0 : Nat) (c0 : Nat) (xs : List Int) (n : Nat) (hxn : xs.length = n) (hs : a.eval s = .slice (some ⟨g0, 0, none⟩) n c0) (hown : Own w base (some ⟨g0, 0, none⟩) c0 xs)
    (A : Option Addr) (c : Nat) (zs : List Int) (m : Nat) (hzm : zs.length = m) (hx : a.eval x = .slice A m c) (hr : Rd w A c zs)
    (hn : n + m ≤ 1099511627776) (hbase : base ≤ w.heap.size)
    (h : ∀ g c' w', Own w' base (some ⟨g, 0, none⟩) c' (xs ++ zs) → w.grownBy w' (some g0) → wpList Try.prog ops Q rest (a.put o.dst (.slice (some ⟨g, 0, none⟩) (n + m) c')) w') :
    wpList Try.prog ops Q (o :: rest) a w :=
  wpList_plain hgd fun _ hK => wp_append_ints s x ho base g0 c0 xs n hxn hs hown A c zs m hzm hx hr hn hbase fun g c' w' h1 h2 => hK _ _ (h g c' w' h1 h2)

set_option maxHeartbeats 1000000 in
set_option maxRecDepth 100000 in
theorem bidsOf_any (rb k N : Nat) (n : Int) (w : World) (h : Rdr w rb k) (hk : k + N + 3 ≤ 1000000) (hn : n ≤ (N : Int)) (hN : N ≤ 1000) :
    Calls Try.prog 114 #[.pointer (some ⟨rb, 0, none⟩), .int .i64 n] w (BidsIs w rb (k + N + 3) N) := by
  have hl := h.lt
  have HE := Lib.hid (own_empty w)
  have HL : Hid (Own ((w.alloc (.cells #[] 3)).alloc (.cells #[.int .i64 6, .int .i64 10, .int .i64 3, .int .i64 30] 3)) (w.heap.size + 1) (some ⟨w.heap.size + 1, 0, none⟩) 4 [6, 10, 3, 30]) := Lib.hid (by
    have := own_lit (w.alloc (.cells #[] 3)) [6, 10, 3, 30] (by decide)
    rw [World.size_alloc] at this
    exact this)
  have HR := Lib.hid ((h.alloc (.cells #[] 3)).alloc (.cells #[.int .i64 6, .int .i64 10, .int .i64 3, .int .i64 30] 3))
  have HG : Hid (w.grownBy ((w.alloc (.cells #[] 3)).alloc (.cells #[.int .i64 6, .int .i64 10, .int .i64 3, .int .i64 30] 3)) (some rb)) := Lib.hid (gb_alloc (World.grownBy_alloc w _ (some rb)) _)
  have HO : Hid (Own ((w.alloc (.cells #[] 3)).alloc (.cells #[.int .i64 6, .int .i64 10, .int .i64 3, .int .i64 30] 3)) w.heap.size (some ⟨w.heap.size, 0, none⟩) 0 []) := Lib.hid (World.ownsRow.alloc HE.out _)
  have hl2 : w.heap.size + 1 ≠ rb := by omega
  clear HE
  go_enter Try.func114, Try.ntmps114
  go_wp2_with fail
  refine (one_any rb k (w.heap.size + 1) 4 4 (w.heap.size + 1) [6, 10, 3, 30] _ rfl HR.out HL.out hl2 (by decide) (by decide) (by omega)).mono ?_
  rintro e w1 ⟨most, hmo, rfl, hr1, hg1⟩
  have hm0 : 3 ≤ most := by simp only [List.mem_cons, List.not_mem_nil, or_false] at hmo; omega
  have hm1 : most ≤ 30 := by simp only [List.mem_cons, List.not_mem_nil, or_false] at hmo; omega
  have ho1 : Own w1 w.heap.size (some ⟨w.heap.size, 0, none⟩) 0 [] := HO.out.kept_ (A2 := some ⟨rb, 0, none⟩) hg1 (.inr (fun e => by have := Option.some.inj e; simp at this; omega))
  have gg1 := HG.out.trans hg1
  clear hmo HR HG HO HL hg1 hl2
  go_wp2_with fail
  go_loopw [5] (fun v wr => ∃ (g c : Nat) (ys : List Int), ys.length ≤ N ∧ v = .slice (some ⟨g, 0, none⟩) ys.length c ∧ Own wr w.heap.size (some ⟨g, 0, none⟩) c ys ∧ Rdr wr rb (k + 1 + ys.length) ∧ w.grownBy wr (some rb))
    (fun v _ => N - lenOf v)
  case atStart => exact ⟨w.heap.size, 0, [], Nat.zero_le _, rfl, ho1, hr1, gg1⟩
  case round =>
    obtain ⟨g, c, ys, hys, rfl, ho, hr, hg⟩ := hrel
    have hge := ho.ge
    by_cases hlt : (ys.length : Int) < n
    · go_wp2_with fail
      refine (pick_any rb (k + 1 + ys.length) (most + 1) _ hr (by omega) (by omega) (by omega)).mono ?_
      rintro e w2 ⟨m, rfl, hm2, _, hr2, hg2⟩
      have ho2 := ho.kept_ (A2 := some ⟨rb, 0, none⟩) hg2 (.inr (fun e => by have := Option.some.inj e; simp at this; omega))
      have HLm : Hid (Own (w2.alloc (.cells #[.int .i64 m] 3)) w2.heap.size (some ⟨w2.heap.size, 0, none⟩) 1 [m]) := Lib.hid (own_lit w2 [m] (by simp))
      have HOm : Hid (Own (w2.alloc (.cells #[.int .i64 m] 3)) w.heap.size (some ⟨g, 0, none⟩) c ys) := Lib.hid (World.ownsRow.alloc ho2 _)
      have hgg := gb_alloc (hg.trans hg2) (.cells #[.int .i64 m] 3)
      have hsz := hgg.size
      have hrr := hr2.alloc (.cells #[.int .i64 m] 3)
      have hny : ys.length + 1 ≤ 1099511627776 := by omega
      have HN := Lib.hid hny
      clear hny ho2 hm2
      go_wp2_with (at_builtin; refine wpList_append_ints rfl _ _ rfl w.heap.size g c ys ys.length rfl rfl HOm.out _ _ [m] 1 rfl rfl HLm.out.rd HN.out hsz ?_; intro g3 c3 w3 ho3 hg3)
      have hr3 := hrr.grown hg3 (by omega)
      have hg4 := gb_new hgg hg3 hge
      go_roundw
      case rel => exact ⟨g3, c3, ys ++ [m], by simp; omega, by simp, ho3, by simpa [Nat.add_assoc] using hr3, hg4⟩
      case measure => simp [lenOf]; omega
    · by_cases hz : ys.length = 0
      · obtain rfl : ys = [] := List.eq_nil_of_length_eq_zero hz
        go_wp2
        go_ret
        exact ⟨g, c, [], rfl, ho, hys, hr.more (by simp; omega), hg⟩
      · have hz0 : (0 : Int) < (ys.length : Int) := by omega
        have hy1 : 0 < ys.length := by omega
        obtain ⟨x, hx⟩ := at_some hy1
        clear hz
        go_wp2_with fail
        refine (pick_any rb (k + 1 + ys.length) 30 _ hr (by omega) (by decide) (by decide)).mono ?_
        rintro e w2 ⟨m, rfl, hm2, _, hr2, hg2⟩
        have ho2 := ho.kept_ (A2 := some ⟨rb, 0, none⟩) hg2 (.inr (fun e => by have := Option.some.inj e; simp at this; omega))
        have gg2 := hg.trans hg2
        by_cases hm : m = 0
        · have hmb : (m == 0) = true := by simpa using hm
          have HLm : Hid (Own (w2.alloc (.cells #[.int .i64 (-1), .int .i64 31, .int .i64 30] 3)) w2.heap.size (some ⟨w2.heap.size, 0, none⟩) 3 [-1, 31, 30]) := Lib.hid (own_lit w2 [-1, 31, 30] (by decide))
          have HOm : Hid (Own (w2.alloc (.cells #[.int .i64 (-1), .int .i64 31, .int .i64 30] 3)) w.heap.size (some ⟨g, 0, none⟩) c ys) := Lib.hid (World.ownsRow.alloc ho2 _)
          have hrr := hr2.alloc (.cells #[.int .i64 (-1), .int .i64 31, .int .i64 30] 3)
          have hgg := gb_alloc gg2 (.cells #[.int .i64 (-1), .int .i64 31, .int .i64 30] 3)
          have hne : w2.heap.size ≠ rb := by have := hr2.lt; omega
          have HX := Lib.hid hx
          clear hx hm ho2
          go_wp2_with fail
          refine (one_any rb (k + 1 + ys.length + 1) w2.heap.size 3 3 w2.heap.size [-1, 31, 30] _ rfl hrr HLm.out hne (by decide) (by decide) (by omega)).mono ?_
          rintro e w3 ⟨y, _, rfl, hr3, hg3⟩
          have ho3 := HOm.out.kept_ (A2 := some ⟨rb, 0, none⟩) hg3 (.inr (fun e => by have := Option.some.inj e; simp at this; omega))
          have hc3 := ho3.cell HX.out
          have hf3 := ho3.free 0
          have HS := Lib.hid (ho3.set_ 0 y)
          have hr4 := hr3.set_ (i := 0) (v := .int .i64 y) (show rb < g by omega)
          have hg4 := gb_set (i := 0) (v := .int .i64 y) (hgg.trans hg3) hge
          go_wp2
          go_ret
          exact ⟨g, c, ys.set 0 y, by rw [List.length_set]; rfl, HS.out, by rw [List.length_set]; exact hys, hr4.more (by omega), hg4⟩
        · have hmb : (m == 0) = false := by simpa using hm
          clear hm
          go_wp2
          go_ret
          exact ⟨g, c, ys, rfl, ho2, hys, hr2.more (by omega), gg2⟩

set_option maxRecDepth 100000 in
theorem someBids_any (rb k : Nat) (w : World) (h : Rdr w rb k) (hk : k + 11 ≤ 1000000) :
    Calls Try.prog 55 #[.pointer (some ⟨rb, 0, none⟩)] w (BidsIs w rb (k + 11) 7) := by
  have hl := h.lt
  have HL : Hid (Own (w.alloc (.cells #[.int .i64 3, .int .i64 2, .int .i64 4, .int .i64 1, .int .i64 5, .int .i64 6, .int .i64 0, .int .i64 7] 3)) w.heap.size (some ⟨w.heap.size, 0, none⟩) 8 [3, 2, 4, 1, 5, 6, 0, 7]) := Lib.hid (own_lit w [3, 2, 4, 1, 5, 6, 0, 7] (by decide))
  have HR := Lib.hid (h.alloc (.cells #[.int .i64 3, .int .i64 2, .int .i64 4, .int .i64 1, .int .i64 5, .int .i64 6, .int .i64 0, .int .i64 7] 3))
  have HG : Hid (w.grownBy (w.alloc (.cells #[.int .i64 3, .int .i64 2, .int .i64 4, .int .i64 1, .int .i64 5, .int .i64 6, .int .i64 0, .int .i64 7] 3)) (some rb)) := Lib.hid (World.grownBy_alloc w _ (some rb))
  have hne : w.heap.size ≠ rb := by omega
  go_enter Try.func55, Try.ntmps55
  go_wp2_with fail
  refine (one_any rb k w.heap.size 8 8 w.heap.size [3, 2, 4, 1, 5, 6, 0, 7] _ rfl HR.out HL.out hne (by decide) (by decide) (by omega)).mono ?_
  rintro e w1 ⟨n, hn, rfl, hr1, hg1⟩
  have hn7 : n ≤ ((7 : Nat) : Int) := by simp only [List.mem_cons, List.not_mem_nil, or_false] at hn; omega
  have gg := HG.out.trans hg1
  have hsz := gg.size
  clear hn HL HR HG
  go_wp2_with fail
  refine (bidsOf_any rb (k + 1) 7 n _ hr1 (by omega) hn7 (by decide)).mono ?_
  rintro e w2 ⟨g, c, ys, rfl, ho, hy, hr2, hg2⟩
  go_wp2
  go_ret
  exact ⟨g, c, ys, rfl, ho.base hsz, hy, hr2.more (by omega), gg.trans hg2⟩

/-- What DrawSaleBy hands back. -/
def DrawnSale (w : World) (e : Ending) (w' : World) : Prop :=
  ∃ (s : ByteArray) (A : Option Addr) (c : Nat) (xs : List Int) (r : Int), e = .returned (.tuple #[.string s, .slice A xs.length c, .int .i64 r]) ∧ s.size ≤ 1048576 ∧ Rd w' A c xs ∧ xs.length ≤ 7 ∧ -2147483648 ≤ r ∧ r ≤ 2147483647 ∧ Below w.heap.size w w'

end Go.Proofs.Ytpildecpabeanaa

/-
  The generators of the laws: the arguments of LeastToWin, GainOf and BestBid.
-/
namespace Go.Proofs.Ytpildecpabeanaa
open Go.RowKit

theorem one_new (rb k n : Nat) (zs : List Int) (cs : Array Value) (w : World) (hcs : (zs.map (Value.int .i64)).toArray = cs) (hn : zs.length = n) (h : Rdr w rb k) (hn1 : 1 ≤ n) (hn2 : n ≤ 1048576) (hk : k ≤ 1000000) :
    Calls Try.prog 62 #[.pointer (some ⟨rb, 0, none⟩), .slice (some ⟨w.heap.size, 0, none⟩) n n] (w.alloc (.cells cs 3)) (OneIs w rb k zs) := by
  subst hcs
  have hl := h.lt
  have ho := own_lit w zs (by omega)
  refine (one_any rb k w.heap.size n n w.heap.size zs _ hn (h.alloc _) (by rw [← hn]; exact ho) (by omega) hn1 hn2 hk).mono ?_
  rintro e w' ⟨x, hx, he, hr, hg⟩
  exact ⟨x, hx, he, hr, (World.grownBy_alloc w _ (some rb)).trans hg⟩

/-- A slice that the generator made stays while the reader is asked. -/
theorem Own.ask {w w' : World} {rb g c B : Nat} {ys : List Int} (ho : Own w B (some ⟨g, 0, none⟩) c ys) (hg : w.grownBy w' (some rb)) (hB : rb < B) : Own w' B (some ⟨g, 0, none⟩) c ys :=
  ho.kept_ (A2 := some ⟨rb, 0, none⟩) hg (.inr (fun e => by have := Option.some.inj e; have h1 := ho.ge; simp at this; omega))

/-- What DrawLeastToWin hands back. -/
def DrawnLeast (w : World) (e : Ending) (w' : World) : Prop :=
  ∃ (A : Option Addr) (c : Nat) (xs : List Int) (i r : Int), e = .returned (.tuple #[.slice A xs.length c, .int .i64 i, .int .i64 r]) ∧ Rd w' A c xs ∧ xs.length ≤ 7 ∧ Below w.heap.size w w'

/-- What DrawGainOf hands back. -/
def DrawnGain (w : World) (e : Ending) (w' : World) : Prop :=
  ∃ (s : ByteArray) (A : Option Addr) (c : Nat) (xs : List Int) (i v r : Int), e = .returned (.tuple #[.string s, .slice A xs.length c, .int .i64 i, .int .i64 v, .int .i64 r]) ∧ Rd w' A c xs ∧ xs.length ≤ 7 ∧ Below w.heap.size w w'

theorem results_five {fn : Func} {t u v x y : Tmp} (h : fn.results = #[.tmp t, .tmp u, .tmp v, .tmp x, .tmp y]) (tmps : Array Value) (P : Program) (w : World) :
    (results fn tmps).run P w = .ok (.tuple #[tmps.getD t undef, tmps.getD u undef, tmps.getD v undef, tmps.getD x undef, tmps.getD y undef]) w := by simp [results, h]

end Go.Proofs.Ytpildecpabeanaa

/-
  The generators of the laws of chapter 4: a table of one who wants one thing.
-/
namespace Go.Proofs.Ytpildecpabeanaa
open Go.RowKit

/-- The best of what the first j things alone are worth, of those in the set. -/
def oneV (xs : List Int) (s : Nat) : Nat → Int
  | 0 => 0
  | j + 1 => if s / 2 ^ j % 2 = 1 then max (oneV xs s j) (xs.getD j 0) else oneV xs s j
def oneT (x y z : Int) : List Int := (List.range 8).map (fun s => oneV [x, y, z] s 3)
theorem oneT_len (x y z : Int) : (oneT x y z).length = 8 := by simp [oneT]
theorem oneT_at (x y z : Int) {s : Nat} (hs : s < 8) : (oneT x y z)[s]? = some (oneV [x, y, z] s 3) := by simp [oneT, hs]
theorem oneV_bd {x y z : Int} (hx : 0 ≤ x ∧ x ≤ 9) (hy : 0 ≤ y ∧ y ≤ 9) (hz : 0 ≤ z ∧ z ≤ 9) (s : Nat) : ∀ j, j ≤ 3 → 0 ≤ oneV [x, y, z] s j ∧ oneV [x, y, z] s j ≤ 9 := by
  intro j
  induction j with
  | zero => intro _; simp [oneV]
  | succ j ih =>
    intro hj
    have := ih (by omega)
    have : [x, y, z].getD j 0 = x ∨ [x, y, z].getD j 0 = y ∨ [x, y, z].getD j 0 = z := by
      rcases nat3 (show j < 3 by omega) with rfl | rfl | rfl <;> simp
    simp only [oneV]
    split <;> omega
/-- A table of one who wants one thing, worth at most 9. -/
def Ones (t : List Int) : Prop := VT t ∧ ∀ s, s < 8 → T t s ≤ 9
theorem oneT_ones {x y z : Int} (hx : 0 ≤ x ∧ x ≤ 9) (hy : 0 ≤ y ∧ y ≤ 9) (hz : 0 ≤ z ∧ z ≤ 9) : Ones (oneT x y z) := by
  have hT : ∀ s, s < 8 → T (oneT x y z) s = oneV [x, y, z] s 3 := fun s hs => T_of (oneT_at x y z hs)
  refine ⟨⟨oneT_len x y z, by rw [hT 0 (by omega)]; simp [oneV], fun s hs => ⟨?_, fun j hj hb => ?_⟩⟩, fun s hs => by rw [hT s hs]; exact (oneV_bd hx hy hz s 3 (by omega)).2⟩
  · rw [hT s hs]; have := oneV_bd hx hy hz s 3 (by omega); omega
  · rw [hT s hs]
    have h8 : s + 2 ^ j < 8 := by
      rcases nat8 hs with rfl | rfl | rfl | rfl | rfl | rfl | rfl | rfl <;> rcases nat3 hj with rfl | rfl | rfl <;> first | omega | (exfalso; revert hb; decide)
    rw [hT _ h8]
    rcases nat8 hs with rfl | rfl | rfl | rfl | rfl | rfl | rfl | rfl <;> rcases nat3 hj with rfl | rfl | rfl <;> first | (exfalso; revert hb; decide) | (simp [oneV]; omega)

/-- What is drawn: a list of eight numbers in a block of its own. -/
def TblIs (w : World) (rb k : Nat) (P : List Int → Prop) (e : Ending) (w' : World) : Prop :=
  ∃ g c ys, e = .returned (.slice (some ⟨g, 0, none⟩) 8 c) ∧ ys.length = 8 ∧ P ys ∧ Own w' w.heap.size (some ⟨g, 0, none⟩) c ys ∧ Rdr w' rb k ∧ w.grownBy w' (some rb)

theorem gb_of_below {w w' : World} (h : Below w.heap.size w w') (r : Option Nat) : w.grownBy w' r := ⟨h.os, h.tape, h.output, h.size, fun i hi _ => h.block i hi⟩
theorem pick_lt {m n : Int} (h0 : 0 ≤ m) (h : m < n ∨ m = 0) (hn : 0 < n) : 0 ≤ m ∧ m ≤ n - 1 := by omega
theorem filled_rest1 {zs : List Int} {k : Nat} (hk : k < zs.length) : (filled zs k)[k]? = some 0 := by
  unfold filled
  rw [List.getElem?_append_right (by simp; omega)]
  simp [List.getElem?_replicate]; omega
theorem filled_same1 {zs : List Int} {k : Nat} (hk : k < zs.length) : (filled zs k).set k 0 = filled zs k := by
  apply List.ext_getElem?
  intro i
  rw [List.getElem?_set]
  split
  · next e =>
    subst e
    rw [filled_rest1 hk]
    split
    · rfl
    · next h => exact absurd (by rw [filled_len _ _ (by omega)]; exact hk) h
  · rfl
/-- Where the loops stand. -/
structure OneAt (w : World) (rb k gS : Nat) (xs zs : List Int) (wr : World) : Prop where
  out : Own wr w.heap.size (some ⟨w.heap.size, 0, none⟩) 8 zs
  single : Own wr (w.heap.size + 1) (some ⟨gS, 0, none⟩) 3 xs
  rdr : Rdr wr rb k
  grown : w.grownBy wr (some rb)
theorem OneAt.set_ {w : World} {rb k gS : Nat} {xs zs : List Int} {wr : World} (h : OneAt w rb k gS xs zs wr) (hr : rb < w.heap.size) (i : Nat) (v : Int) : OneAt w rb k gS xs (zs.set i v) (wr.setCell ⟨w.heap.size, i, none⟩ (.int .i64 v)) := by
  have h1 := h.single.ge
  exact ⟨h.out.set_ i v, World.ownsRow.kept h.single ⟨rfl, rfl, rfl, by show _ ≤ (wr.heap.modify _ _).size; rw [Array.size_modify]; exact Nat.le_refl _, fun j _ hj => Below.heap_setCell wr ⟨w.heap.size, i, none⟩ _ j (fun e => hj (by rw [e]))⟩ (row := some w.heap.size) (.inr (by show some gS ≠ some w.heap.size; intro e; injection e; omega)), h.rdr.set_ hr, gb_set h.grown (Nat.le_refl _)⟩
theorem OneAt.drewN {w : World} {rb k gS : Nat} {xs zs : List Int} {wr : World} (h : OneAt w rb k gS xs zs wr) (n : Nat) : OneAt w rb k gS xs zs (wr.drewN n) := ⟨h.out.drewN n, h.single.drewN n, h.rdr.drewN n, gb_drewN h.grown n⟩

set_option maxHeartbeats 2000000 in
set_option maxRecDepth 100000 in
theorem oneTable_any (rb k : Nat) (w : World) (h : Rdr w rb k) (hk : k + 10 ≤ 1000000) :
    Calls Try.prog 122 #[.pointer (some ⟨rb, 0, none⟩)] w (TblIs w rb (k + 3) Ones) := by
  have hl := h.lt
  go_enter Try.func122, Try.ntmps122
  go_wp2_with (at_make; refine wpList_make_ints rfl _ _ rfl w.heap.size 8 rfl rfl (by omega) (by simp) ?_; intro w1 ho hb)
  have hr1 := h.below hb
  have hg1 := gb_of_below hb (some rb)
  have hs1 := ho.lt
  refine (pick_any rb k 10 w1 hr1 (by omega) (by decide) (by decide)).mono ?_
  rintro e w2 ⟨x, rfl, hx0, hx1, hr2, hg2⟩
  have ho2 : Own w2 w.heap.size (some ⟨w.heap.size, 0, none⟩) 8 (List.replicate 8 0) := ho.kept_ (A2 := some ⟨rb, 0, none⟩) hg2 (.inr (fun e => by have := Option.some.inj e; simp at this; omega))
  have gg2 := hg1.trans hg2
  have hs2 := hg2.size
  clear ho hb hg2 hr1 hg1
  go_wp2_with fail
  refine (pick_any rb (k + 1) 10 w2 hr2 (by omega) (by decide) (by decide)).mono ?_
  rintro e w3 ⟨y, rfl, hy0, hy1, hr3, hg3⟩
  have ho3 : Own w3 w.heap.size (some ⟨w.heap.size, 0, none⟩) 8 (List.replicate 8 0) := ho2.kept_ (A2 := some ⟨rb, 0, none⟩) hg3 (.inr (fun e => by have := Option.some.inj e; simp at this; omega))
  have gg3 := gg2.trans hg3
  have hs3 := hg3.size
  clear ho2 hg3 hr2 gg2
  go_wp2_with fail
  refine (pick_any rb (k + 1 + 1) 10 w3 hr3 (by omega) (by decide) (by decide)).mono ?_
  rintro e w4 ⟨z, rfl, hz0, hz1, hr4, hg4⟩
  have ho4 : Own w4 w.heap.size (some ⟨w.heap.size, 0, none⟩) 8 (List.replicate 8 0) := ho3.kept_ (A2 := some ⟨rb, 0, none⟩) hg4 (.inr (fun e => by have := Option.some.inj e; simp at this; omega))
  have gg4 := gg3.trans hg4
  have hs4 := hg4.size
  have HX := Lib.hid (pick_lt hx0 hx1 (by decide))
  have HY := Lib.hid (pick_lt hy0 hy1 (by decide))
  have HZ := Lib.hid (pick_lt hz0 hz1 (by decide))
  clear ho3 hg4 hr3 gg3 hx0 hx1 hy0 hy1 hz0 hz1
  go_wp2_with fail
  have HI0 : Hid (OneAt w rb (k + 3) w4.heap.size [x, y, z] (filled (oneT x y z) 0) (w4.alloc (.cells #[.int .i64 x, .int .i64 y, .int .i64 z] 3))) := Lib.hid
    ⟨by rw [filled_zero, oneT_len]; exact World.ownsRow.alloc ho4 _, own_base (own_lit w4 [x, y, z] (by simp)) (by omega), hr4.alloc _, gb_alloc gg4 _⟩
  have HT8 := Lib.hid (fun s (hs : s < 8) => oneT_at x y z hs)
  have HTL : Hid ((oneT x y z).length = 8) := Lib.hid (oneT_len x y z)
  have HON := Lib.hid (oneT_ones HX.out HY.out HZ.out)
  have HBIT := Lib.hid (fun (s j : Nat) (hs : s < 8) (hj : j < 3) w => Sbit_any s j hs hj w)
  have HSG : Hid (∀ j, j < 3 → [x, y, z][j]? = some ([x, y, z].getD j 0)) := Lib.hid (fun j hj => by rcases nat3 hj with rfl | rfl | rfl <;> rfl)
  obtain ⟨xs, hxs⟩ : ∃ xs, xs = [x, y, z] := ⟨_, rfl⟩
  obtain ⟨tab, htab⟩ : ∃ tab, tab = oneT x y z := ⟨_, rfl⟩
  rw [← hxs] at HT8 HSG
  rw [← htab, ← hxs] at HI0
  rw [← htab] at HT8 HTL HON
  clear hxs htab HX HY HZ ho4 hr4 gg4
  go_loopw [5] (fun sv wr => ∃ s, sv = .int .i64 (s : Nat) ∧ s ≤ 8 ∧ Hid (OneAt w rb (k + 3) w4.heap.size xs (filled tab s) wr)) (fun i _ => 8 - (intOf i).toNat)
  case atStart => exact ⟨0, rfl, by omega, HI0⟩
  case round =>
    obtain ⟨s, rfl, hs, HI⟩ := hrel
    by_cases hlt : s < 8
    · have HIN : Hid (OneAt w rb (k + 3) w4.heap.size xs ((filled tab s).set s (oneV xs s 0)) wr) := Lib.hid (by
        rw [show oneV xs s 0 = 0 from rfl, filled_same1 (by rw [HTL.out]; exact hlt)]; exact HI.out)
      have HSET : Hid ((filled tab s).set s (oneV xs s 3) = filled tab (s + 1)) := Lib.hid (filled_set tab s _ (HT8.out s hlt))
      have HFL : Hid (s < (filled tab s).length) := Lib.hid (by rw [filled_len _ _ (by rw [HTL.out]; omega), HTL.out]; exact hlt)
      have hs0 : (0 : Int) ≤ (s : Int) := by omega
      have hs8 : (s : Int) < 8 := by omega
      have hss : s < 8 := hlt
      clear hlt HI
      go_wp2_with fail
      go_loopw [6] (fun jv wr' => ∃ j, jv = .int .i64 (j : Nat) ∧ j ≤ 3 ∧ Hid (OneAt w rb (k + 3) w4.heap.size xs ((filled tab s).set s (oneV xs s j)) wr')) (fun i _ => 3 - (intOf i).toNat)
      case atStart => exact ⟨0, rfl, by omega, HIN⟩
      case round =>
        obtain ⟨j, rfl, hj, HI⟩ := hrel
        by_cases hlt : j < 3
        · have HB := Lib.hid (HBIT.out s j hss hlt wr)
          have hj0 : (0 : Int) ≤ (j : Int) := by omega
          have hj3 : (j : Int) < 3 := by omega
          obtain ⟨V, hV⟩ : ∃ V, V = oneV xs s j := ⟨_, rfl⟩
          have hcell := HI.out.out.cell (i := s) (x := V) (by rw [List.getElem?_set_self HFL.out, hV])
          have hfree := HI.out.out.free s
          obtain ⟨u, hu⟩ : ∃ u, u = xs.getD j 0 := ⟨_, rfl⟩
          have hc2 := HI.out.single.cell (i := j) (x := u) (by rw [HSG.out j hlt, hu])
          by_cases hbit : s / 2 ^ j % 2 = 1
          · have HST : Hid (∀ n, OneAt w rb (k + 3) w4.heap.size xs ((filled tab s).set s (oneV xs s (j + 1))) ((wr.drewN n).setCell ⟨w.heap.size, s, none⟩ (.int .i64 (if V < u then u else V)))) := Lib.hid (fun n => by
              have h9 := (HI.out.drewN n).set_ hl s (if V < u then u else V)
              rw [List.set_set] at h9
              rw [show oneV xs s (j + 1) = max (oneV xs s j) (xs.getD j 0) by simp only [oneV, hbit, if_true], ← hV, ← hu, show max V u = (if V < u then u else V) by split <;> omega]
              exact h9)
            rw [hbit] at HB
            have hj1 : j + 1 ≤ 3 := hlt
            clear hV hu hbit hlt HI
            go_wp2_with fail
            refine HB.out.mono ?_
            rintro e w5 ⟨rfl, rfl⟩
            go_wp2_with fail
            go_region
            go_wp2
            go_roundw
            case rel => exact ⟨j + 1, by go_num, hj1, Lib.hid (HST.out 1)⟩
            case measure => simp only [intOf]; omega
          · have hb0 : s / 2 ^ j % 2 = 0 := by omega
            have HSN : Hid (OneAt w rb (k + 3) w4.heap.size xs ((filled tab s).set s (oneV xs s (j + 1))) wr) := Lib.hid (by
              rw [show oneV xs s (j + 1) = oneV xs s j by simp only [oneV, hb0]; simp]; exact HI.out)
            rw [hb0] at HB
            have hj1 : j + 1 ≤ 3 := hlt
            clear hV hu hbit hb0 hlt HI
            go_wp2_with fail
            refine HB.out.mono ?_
            rintro e w5 ⟨rfl, rfl⟩
            go_wp2
            go_roundw
            case rel => exact ⟨j + 1, by go_num, hj1, HSN⟩
            case measure => simp only [intOf]; omega
        · obtain rfl : j = 3 := by omega
          have HTE : Hid (OneAt w rb (k + 3) w4.heap.size xs (filled tab (s + 1)) wr) := Lib.hid (by rw [← HSET.out]; exact HI.out)
          clear hlt HI
          go_wp2
          go_roundw
          case rel => exact ⟨s + 1, by go_num, by omega, HTE⟩
          case measure => simp only [intOf]; omega
    · obtain rfl : s = 8 := by omega
      have HTE : Hid (OneAt w rb (k + 3) w4.heap.size xs tab wr) := Lib.hid (by have := HI.out; rw [← HTL.out, filled_all] at this; exact this)
      clear hlt HI
      go_wp2
      go_ret
      exact ⟨w.heap.size, 8, tab, rfl, HTL.out, HON.out, HTE.out.out, HTE.out.rdr, HTE.out.grown⟩

end Go.Proofs.Ytpildecpabeanaa
