/-
  The generators of the laws of chapter 4: a table of one who wants one thing.
-/
import Derived.Test.YtccbjgajmjcpjaaGW
import Derived.Test.YtccbjgajmjcpjaaGD
import Derived.Test.YtccbjgajmjcpjaaWm
import Derived.Test.YtccbjgajmjcpjaaGT
import Derived.Deep.RegionWith
import Derived.Test.YtccbjgajmjcpjaaVr
namespace Go.Proofs.Ytccbjgajmjcpjaa
open Go.RowKit

/-- The best of what the first j things alone are worth, of those in the set. -/
def oneV (xs : List Int) (s : Nat) : Nat → Int
  | 0 => 0
  | j + 1 => if s / 2 ^ j % 2 = 1 then max (oneV xs s j) (xs.getD j 0) else oneV xs s j
def oneT (x y z : Int) : List Int := (List.range 8).map (fun s => oneV [x, y, z] s 3)
theorem oneT_len (x y z : Int) : (oneT x y z).length = 8 := by simp [oneT]
theorem oneT_at (x y z : Int) {s : Nat} (hs : s < 8) : (oneT x y z)[s]? = some (oneV [x, y, z] s 3) := by simp [oneT, hs]
theorem oneV_bd {x y z : Int} (hx : 0 ≤ x ∧ x ≤ 9) (hy : 0 ≤ y ∧ y ≤ 9) (hz : 0 ≤ z ∧ z ≤ 9) (s : Nat) : ∀ j, j ≤ 3 → 0 ≤ oneV [x, y, z] s j ∧ oneV [x, y, z] s j ≤ 9 := by
  intro j
  induction j with
  | zero => intro _; simp [oneV]
  | succ j ih =>
    intro hj
    have := ih (by omega)
    have : [x, y, z].getD j 0 = x ∨ [x, y, z].getD j 0 = y ∨ [x, y, z].getD j 0 = z := by
      rcases nat3 (show j < 3 by omega) with rfl | rfl | rfl <;> simp
    simp only [oneV]
    split <;> omega
/-- A table of one who wants one thing, worth at most 9. -/
def Ones (t : List Int) : Prop := VT t ∧ ∀ s, s < 8 → T t s ≤ 9
theorem oneT_ones {x y z : Int} (hx : 0 ≤ x ∧ x ≤ 9) (hy : 0 ≤ y ∧ y ≤ 9) (hz : 0 ≤ z ∧ z ≤ 9) : Ones (oneT x y z) := by
  have hT : ∀ s, s < 8 → T (oneT x y z) s = oneV [x, y, z] s 3 := fun s hs => T_of (oneT_at x y z hs)
  refine ⟨⟨oneT_len x y z, by rw [hT 0 (by omega)]; simp [oneV], fun s hs => ⟨?_, fun j hj hb => ?_⟩⟩, fun s hs => by rw [hT s hs]; exact (oneV_bd hx hy hz s 3 (by omega)).2⟩
  · rw [hT s hs]; have := oneV_bd hx hy hz s 3 (by omega); omega
  · rw [hT s hs]
    have h8 : s + 2 ^ j < 8 := by
      rcases nat8 hs with rfl | rfl | rfl | rfl | rfl | rfl | rfl | rfl <;> rcases nat3 hj with rfl | rfl | rfl <;> first | omega | (exfalso; revert hb; decide)
    rw [hT _ h8]
    rcases nat8 hs with rfl | rfl | rfl | rfl | rfl | rfl | rfl | rfl <;> rcases nat3 hj with rfl | rfl | rfl <;> first | (exfalso; revert hb; decide) | (simp [oneV]; omega)

/-- What is drawn: a list of eight numbers in a block of its own. -/
def TblIs (w : World) (rb k : Nat) (P : List Int → Prop) (e : Ending) (w' : World) : Prop :=
  ∃ g c ys, e = .returned (.slice (some ⟨g, 0, none⟩) 8 c) ∧ ys.length = 8 ∧ P ys ∧ Own w' w.heap.size (some ⟨g, 0, none⟩) c ys ∧ Rdr w' rb k ∧ w.grownBy w' (some rb)

theorem gb_of_below {w w' : World} (h : Below w.heap.size w w') (r : Option Nat) : w.grownBy w' r := ⟨h.os, h.tape, h.output, h.size, fun i hi _ => h.block i hi⟩
theorem pick_lt {m n : Int} (h0 : 0 ≤ m) (h : m < n ∨ m = 0) (hn : 0 < n) : 0 ≤ m ∧ m ≤ n - 1 := by omega
theorem filled_rest1 {zs : List Int} {k : Nat} (hk : k < zs.length) : (filled zs k)[k]? = some 0 := by
  unfold filled
  rw [List.getElem?_append_right (by simp; omega)]
  simp [List.getElem?_replicate]; omega
theorem filled_same1 {zs : List Int} {k : Nat} (hk : k < zs.length) : (filled zs k).set k 0 = filled zs k := by
  apply List.ext_getElem?
  intro i
  rw [List.getElem?_set]
  split
  · next e =>
    subst e
    rw [filled_rest1 hk]
    split
    · rfl
    · next h => exact absurd (by rw [filled_len _ _ (by omega)]; exact hk) h
  · rfl
/-- Where the loops stand. -/
structure OneAt (w : World) (rb k gS : Nat) (xs zs : List Int) (wr : World) : Prop where
  out : Own wr w.heap.size (some ⟨w.heap.size, 0, none⟩) 8 zs
  single : Own wr (w.heap.size + 1) (some ⟨gS, 0, none⟩) 3 xs
  rdr : Rdr wr rb k
  grown : w.grownBy wr (some rb)
theorem OneAt.set_ {w : World} {rb k gS : Nat} {xs zs : List Int} {wr : World} (h : OneAt w rb k gS xs zs wr) (hr : rb < w.heap.size) (i : Nat) (v : Int) : OneAt w rb k gS xs (zs.set i v) (wr.setCell ⟨w.heap.size, i, none⟩ (.int .i64 v)) := by
  have h1 := h.single.ge
  exact ⟨h.out.set_ i v, World.ownsRow.kept h.single ⟨rfl, rfl, rfl, by show _ ≤ (wr.heap.modify _ _).size; rw [Array.size_modify]; exact Nat.le_refl _, fun j _ hj => Below.heap_setCell wr ⟨w.heap.size, i, none⟩ _ j (fun e => hj (by rw [e]))⟩ (row := some w.heap.size) (.inr (by show some gS ≠ some w.heap.size; intro e; injection e; omega)), h.rdr.set_ hr, gb_set h.grown (Nat.le_refl _)⟩
theorem OneAt.drewN {w : World} {rb k gS : Nat} {xs zs : List Int} {wr : World} (h : OneAt w rb k gS xs zs wr) (n : Nat) : OneAt w rb k gS xs zs (wr.drewN n) := ⟨h.out.drewN n, h.single.drewN n, h.rdr.drewN n, gb_drewN h.grown n⟩

set_option maxHeartbeats 2000000 in
set_option maxRecDepth 100000 in
theorem oneTable_any (rb k : Nat) (w : World) (h : Rdr w rb k) (hk : k + 10 ≤ 1000000) :
    Calls Try.prog 136 #[.pointer (some ⟨rb, 0, none⟩)] w (TblIs w rb (k + 3) Ones) := by
  have hl := h.lt
  go_enter Try.func136, Try.ntmps136
  go_wp2_with (at_make; refine wpList_make_ints rfl _ _ rfl w.heap.size 8 rfl rfl (by omega) (by simp) ?_; intro w1 ho hb)
  have hr1 := h.below hb
  have hg1 := gb_of_below hb (some rb)
  have hs1 := ho.lt
  refine (pick_any rb k 10 w1 hr1 (by omega) (by decide) (by decide)).mono ?_
  rintro e w2 ⟨x, rfl, hx0, hx1, hr2, hg2⟩
  have ho2 : Own w2 w.heap.size (some ⟨w.heap.size, 0, none⟩) 8 (List.replicate 8 0) := ho.kept_ (A2 := some ⟨rb, 0, none⟩) hg2 (.inr (fun e => by have := Option.some.inj e; simp at this; omega))
  have gg2 := hg1.trans hg2
  have hs2 := hg2.size
  clear ho hb hg2 hr1 hg1
  go_wp2_with fail
  refine (pick_any rb (k + 1) 10 w2 hr2 (by omega) (by decide) (by decide)).mono ?_
  rintro e w3 ⟨y, rfl, hy0, hy1, hr3, hg3⟩
  have ho3 : Own w3 w.heap.size (some ⟨w.heap.size, 0, none⟩) 8 (List.replicate 8 0) := ho2.kept_ (A2 := some ⟨rb, 0, none⟩) hg3 (.inr (fun e => by have := Option.some.inj e; simp at this; omega))
  have gg3 := gg2.trans hg3
  have hs3 := hg3.size
  clear ho2 hg3 hr2 gg2
  go_wp2_with fail
  refine (pick_any rb (k + 1 + 1) 10 w3 hr3 (by omega) (by decide) (by decide)).mono ?_
  rintro e w4 ⟨z, rfl, hz0, hz1, hr4, hg4⟩
  have ho4 : Own w4 w.heap.size (some ⟨w.heap.size, 0, none⟩) 8 (List.replicate 8 0) := ho3.kept_ (A2 := some ⟨rb, 0, none⟩) hg4 (.inr (fun e => by have := Option.some.inj e; simp at this; omega))
  have gg4 := gg3.trans hg4
  have hs4 := hg4.size
  have HX := Lib.hid (pick_lt hx0 hx1 (by decide))
  have HY := Lib.hid (pick_lt hy0 hy1 (by decide))
  have HZ := Lib.hid (pick_lt hz0 hz1 (by decide))
  clear ho3 hg4 hr3 gg3 hx0 hx1 hy0 hy1 hz0 hz1
  go_wp2_with fail
  have HI0 : Hid (OneAt w rb (k + 3) w4.heap.size [x, y, z] (filled (oneT x y z) 0) (w4.alloc (.cells #[.int .i64 x, .int .i64 y, .int .i64 z] 3))) := Lib.hid
    ⟨by rw [filled_zero, oneT_len]; exact World.ownsRow.alloc ho4 _, own_base (own_lit w4 [x, y, z] (by simp)) (by omega), hr4.alloc _, gb_alloc gg4 _⟩
  have HT8 := Lib.hid (fun s (hs : s < 8) => oneT_at x y z hs)
  have HTL : Hid ((oneT x y z).length = 8) := Lib.hid (oneT_len x y z)
  have HON := Lib.hid (oneT_ones HX.out HY.out HZ.out)
  have HBIT := Lib.hid (fun (s j : Nat) (hs : s < 8) (hj : j < 3) w => Sbit_any s j hs hj w)
  have HSG : Hid (∀ j, j < 3 → [x, y, z][j]? = some ([x, y, z].getD j 0)) := Lib.hid (fun j hj => by rcases nat3 hj with rfl | rfl | rfl <;> rfl)
  obtain ⟨xs, hxs⟩ : ∃ xs, xs = [x, y, z] := ⟨_, rfl⟩
  obtain ⟨tab, htab⟩ : ∃ tab, tab = oneT x y z := ⟨_, rfl⟩
  rw [← hxs] at HT8 HSG
  rw [← htab, ← hxs] at HI0
  rw [← htab] at HT8 HTL HON
  clear hxs htab HX HY HZ ho4 hr4 gg4
  go_loopw [5] (fun sv wr => ∃ s, sv = .int .i64 (s : Nat) ∧ s ≤ 8 ∧ Hid (OneAt w rb (k + 3) w4.heap.size xs (filled tab s) wr)) (fun i _ => 8 - (intOf i).toNat)
  case atStart => exact ⟨0, rfl, by omega, HI0⟩
  case round =>
    obtain ⟨s, rfl, hs, HI⟩ := hrel
    by_cases hlt : s < 8
    · have HIN : Hid (OneAt w rb (k + 3) w4.heap.size xs ((filled tab s).set s (oneV xs s 0)) wr) := Lib.hid (by
        rw [show oneV xs s 0 = 0 from rfl, filled_same1 (by rw [HTL.out]; exact hlt)]; exact HI.out)
      have HSET : Hid ((filled tab s).set s (oneV xs s 3) = filled tab (s + 1)) := Lib.hid (filled_set tab s _ (HT8.out s hlt))
      have HFL : Hid (s < (filled tab s).length) := Lib.hid (by rw [filled_len _ _ (by rw [HTL.out]; omega), HTL.out]; exact hlt)
      have hs0 : (0 : Int) ≤ (s : Int) := by omega
      have hs8 : (s : Int) < 8 := by omega
      have hss : s < 8 := hlt
      clear hlt HI
      go_wp2_with fail
      go_loopw [6] (fun jv wr' => ∃ j, jv = .int .i64 (j : Nat) ∧ j ≤ 3 ∧ Hid (OneAt w rb (k + 3) w4.heap.size xs ((filled tab s).set s (oneV xs s j)) wr')) (fun i _ => 3 - (intOf i).toNat)
      case atStart => exact ⟨0, rfl, by omega, HIN⟩
      case round =>
        obtain ⟨j, rfl, hj, HI⟩ := hrel
        by_cases hlt : j < 3
        · have HB := Lib.hid (HBIT.out s j hss hlt wr)
          have hj0 : (0 : Int) ≤ (j : Int) := by omega
          have hj3 : (j : Int) < 3 := by omega
          obtain ⟨V, hV⟩ : ∃ V, V = oneV xs s j := ⟨_, rfl⟩
          have hcell := HI.out.out.cell (i := s) (x := V) (by rw [List.getElem?_set_self HFL.out, hV])
          have hfree := HI.out.out.free s
          obtain ⟨u, hu⟩ : ∃ u, u = xs.getD j 0 := ⟨_, rfl⟩
          have hc2 := HI.out.single.cell (i := j) (x := u) (by rw [HSG.out j hlt, hu])
          by_cases hbit : s / 2 ^ j % 2 = 1
          · have HST : Hid (∀ n, OneAt w rb (k + 3) w4.heap.size xs ((filled tab s).set s (oneV xs s (j + 1))) ((wr.drewN n).setCell ⟨w.heap.size, s, none⟩ (.int .i64 (if V < u then u else V)))) := Lib.hid (fun n => by
              have h9 := (HI.out.drewN n).set_ hl s (if V < u then u else V)
              rw [List.set_set] at h9
              rw [show oneV xs s (j + 1) = max (oneV xs s j) (xs.getD j 0) by simp only [oneV, hbit, if_true], ← hV, ← hu, show max V u = (if V < u then u else V) by split <;> omega]
              exact h9)
            rw [hbit] at HB
            have hj1 : j + 1 ≤ 3 := hlt
            clear hV hu hbit hlt HI
            go_wp2_with fail
            refine HB.out.mono ?_
            rintro e w5 ⟨rfl, rfl⟩
            go_wp2_with fail
            go_region
            go_wp2
            go_roundw
            case rel => exact ⟨j + 1, by go_num, hj1, Lib.hid (HST.out 1)⟩
            case measure => simp only [intOf]; omega
          · have hb0 : s / 2 ^ j % 2 = 0 := by omega
            have HSN : Hid (OneAt w rb (k + 3) w4.heap.size xs ((filled tab s).set s (oneV xs s (j + 1))) wr) := Lib.hid (by
              rw [show oneV xs s (j + 1) = oneV xs s j by simp only [oneV, hb0]; simp]; exact HI.out)
            rw [hb0] at HB
            have hj1 : j + 1 ≤ 3 := hlt
            clear hV hu hbit hb0 hlt HI
            go_wp2_with fail
            refine HB.out.mono ?_
            rintro e w5 ⟨rfl, rfl⟩
            go_wp2
            go_roundw
            case rel => exact ⟨j + 1, by go_num, hj1, HSN⟩
            case measure => simp only [intOf]; omega
        · obtain rfl : j = 3 := by omega
          have HTE : Hid (OneAt w rb (k + 3) w4.heap.size xs (filled tab (s + 1)) wr) := Lib.hid (by rw [← HSET.out]; exact HI.out)
          clear hlt HI
          go_wp2
          go_roundw
          case rel => exact ⟨s + 1, by go_num, by omega, HTE⟩
          case measure => simp only [intOf]; omega
    · obtain rfl : s = 8 := by omega
      have HTE : Hid (OneAt w rb (k + 3) w4.heap.size xs tab wr) := Lib.hid (by have := HI.out; rw [← HTL.out, filled_all] at this; exact this)
      clear hlt HI
      go_wp2
      go_ret
      exact ⟨w.heap.size, 8, tab, rfl, HTL.out, HON.out, HTE.out.out, HTE.out.rdr, HTE.out.grown⟩

end Go.Proofs.Ytccbjgajmjcpjaa

/-
  Chapter 6, the model: the contract of JoinTables.
-/
namespace Go.Proofs.Ytccbjgajmjcpjaa
open Go.RowKit

/-- The table of two as one. -/
def jnT (a b : List Int) : List Int := (List.range 8).map (fun s => sv [a, b] s)
theorem jnT_len (a b : List Int) : (jnT a b).length = 8 := by simp [jnT]
theorem jnT_at (a b : List Int) {s : Nat} (hs : s < 8) : (jnT a b)[s]? = some (sv [a, b] s) := by simp [jnT, hs]
theorem jnT_snoc (a b : List Int) {s : Nat} (hs : s < 8) : (jnT a b).take (s + 1) = (jnT a b).take s ++ [sv [a, b] s] := by rw [List.take_add_one, jnT_at a b hs]; rfl

theorem cell_new2 (w : World) (u v : Value) (T : TypeId) : (w.alloc (.cells #[u, v] T)).cell? ⟨w.heap.size, 0 + 0, none⟩ = some u ∧ (w.alloc (.cells #[u, v] T)).cell? ⟨w.heap.size, 0 + (0 + 1), none⟩ = some v := by
  have h := World.ownsRow_lit (e := T) (size := 1) (base := w.heap.size) w #[u, v] 2 (Nat.le_refl _) (by unfold maxLen; omega) rfl
  exact ⟨World.ownsRow.cellAt h 0 (by omega), World.ownsRow.cellAt h 1 (by omega)⟩
/-- What JoinTables hands back. -/
def JnIs (w : World) (a b : List Int) (e : Ending) (w' : World) : Prop :=
  Below w.heap.size w w' ∧ ((VT a ∧ VT b ∧ VT (jnT a b) ∧ ∃ g c, e = .returned (.slice (some ⟨g, 0, none⟩) 8 c) ∧ Own w' w.heap.size (some ⟨g, 0, none⟩) c (jnT a b)) ∨ (¬ (VT a ∧ VT b ∧ VT (jnT a b)) ∧ e = .returned (.slice none 0 0)))

set_option maxHeartbeats 2000000 in
set_option maxRecDepth 100000 in
theorem SJoinTables_any (A B : Option Addr) (ca cb : Nat) (a b : List Int) (w : World) (hA : Rd w A ca a) (hB : Rd w B cb b) (hla : a.length ≤ ca) (hlb : b.length ≤ cb) (ha : a.length ≤ 1099511627776) (hb : b.length ≤ 1099511627776) :
    Calls Try.prog 137 #[.slice A a.length ca, .slice B b.length cb] w (JnIs w a b) := by
  have HVA := Lib.hid (fun w1 (h : Rd w1 A ca a) => SvalidTable_any A ca a w1 h ha)
  have HVB := Lib.hid (fun w1 (h : Rd w1 B cb b) => SvalidTable_any B cb b w1 h hb)
  rcases hva : vt a with _ | _
  · have hna : ¬ VT a := fun h => by rw [vt_true h] at hva; cases hva
    rw [hva] at HVA
    clear hva
    go_enter Try.func137, Try.ntmps137
    go_wp2_with fail
    refine (HVA.out w hA).mono ?_
    rintro e w1 ⟨rfl, n, rfl⟩
    go_wp2
    go_ret
    exact ⟨below_drewN' (Below.refl _ _) n, .inr ⟨fun h => hna h.1, rfl⟩⟩
  rcases hvb : vt b with _ | _
  · have hnb : ¬ VT b := fun h => by rw [vt_true h] at hvb; cases hvb
    rw [hva] at HVA
    rw [hvb] at HVB
    clear hva hvb
    go_enter Try.func137, Try.ntmps137
    go_wp2_with fail
    refine (HVA.out w hA).mono ?_
    rintro e w1 ⟨rfl, n, rfl⟩
    go_wp2_with fail
    refine (HVB.out _ (hB.drewN n)).mono ?_
    rintro e w2 ⟨rfl, m, rfl⟩
    go_wp2
    go_ret
    exact ⟨below_drewN' (Below.refl _ _) (n + m), .inr ⟨fun h => hnb h.2.1, rfl⟩⟩
  have hVA : VT a := vt_iff.1 hva
  have hVB : VT b := vt_iff.1 hvb
  rw [hva] at HVA
  rw [hvb] at HVB
  have h8a := hVA.1
  have h8b := hVB.1
  rw [h8a] at HVA hla ⊢
  rw [h8b] at HVB hlb ⊢
  have HV : Hid (∀ t ∈ [a, b], VT t) := Lib.hid (by intro t ht; simp at ht; rcases ht with rfl | rfl <;> assumption)
  clear hva hvb
  go_enter Try.func137, Try.ntmps137
  go_wp2_with fail
  refine (HVA.out w hA).mono ?_
  rintro e w1 ⟨rfl, n, rfl⟩
  go_wp2_with fail
  refine (HVB.out _ (hB.drewN n)).mono ?_
  rintro e w2 ⟨rfl, m, rfl⟩
  go_wp2
  have HO : Hid (Own ((w.drewN (n + m)).alloc (.cells #[] 3)) w.heap.size (some ⟨w.heap.size, 0, none⟩) 0 ((jnT a b).take 0)) := Lib.hid (own_empty (w.drewN (n + m)))
  have hb0 : Below w.heap.size w ((w.drewN (n + m)).alloc (.cells #[] 3)) := (below_drewN' (Below.refl _ w) (n + m)).alloc (by simp) _
  go_loopw [5, 6] (fun o iv wr => ∃ (s g c : Nat), o = .slice (some ⟨g, 0, none⟩) s c ∧ iv = .int .i64 (s : Int) ∧ s ≤ 8 ∧ Hid (Own wr w.heap.size (some ⟨g, 0, none⟩) c ((jnT a b).take s)) ∧ Below w.heap.size w wr) (fun _ i _ => 8 - (intOf i).toNat)
  case atStart => exact ⟨0, w.heap.size, 0, rfl, rfl, by omega, HO, hb0⟩
  case round =>
    obtain ⟨s, g, c, rfl, rfl, hs, HO, hbl⟩ := hrel
    by_cases hlt : s < 8
    · have hs8 : (s : Int) < 8 := by omega
      have HRR : Hid (RdR (wr.alloc (.cells #[.slice A 8 ca, .slice B 8 cb] 24)) (some ⟨wr.heap.size, 0, none⟩) 2 [a, b]) := Lib.hid (by
        have hbA := (Below.refl _ wr).alloc (Nat.le_refl _) (.cells #[.slice A 8 ca, .slice B 8 cb] 24)
        refine ⟨by simp, .inr ⟨wr.heap.size, 0, rfl, fun k r hk => ?_⟩⟩
        rcases k with _ | _ | k
        · obtain rfl : a = r := by simpa using hk
          exact ⟨.slice A 8 ca, cell_new2 wr _ _ 24 |>.1, A, ca, by rw [h8a], by omega, (hA.below hbl).below hbA⟩
        · obtain rfl : b = r := by simpa using hk
          exact ⟨.slice B 8 cb, cell_new2 wr _ _ 24 |>.2, B, cb, by rw [h8b], by omega, (hB.below hbl).below hbA⟩
        · simp at hk)
      have HSV := Lib.hid (SsplitValue_any [a, b] (some ⟨wr.heap.size, 0, none⟩) 2 s _ HRR.out HV.out (by simp) hlt)
      have HSN := Lib.hid (jnT_snoc a b hlt)
      have HLN : Hid (((jnT a b).take s).length = s) := Lib.hid (by rw [List.length_take, jnT_len]; omega)
      have hs1 : s + 1 ≤ 8 := hlt
      have HOA : Hid (∀ j, Own (((wr.alloc (.cells #[.slice A 8 ca, .slice B 8 cb] 24)).drewN j).alloc (.cells #[.int .i64 (sv [a, b] s)] 3)) w.heap.size (some ⟨g, 0, none⟩) c ((jnT a b).take s)) := Lib.hid (fun j => World.ownsRow.alloc ((show Own (wr.alloc _) _ _ _ _ from World.ownsRow.alloc HO.out _).drewN j) _)
      have hbA : ∀ j, Below w.heap.size w (((wr.alloc (.cells #[.slice A 8 ca, .slice B 8 cb] 24)).drewN j).alloc (.cells #[.int .i64 (sv [a, b] s)] 3)) := fun j => (below_drewN' (hbl.alloc hbl.size _) j).alloc (by have := hbl.size; simp; omega) _
      have HBA := Lib.hid hbA
      have hz := hbl.size
      clear hlt HRR HO hbA
      go_wp2_with fail
      refine HSV.out.mono ?_
      rintro e w3 ⟨rfl, j, rfl⟩
      have hcn : (((wr.alloc (.cells #[.slice A 8 ca, .slice B 8 cb] 24)).drewN j).alloc (.cells #[.int .i64 (sv [a, b] s)] 3)).cell? ⟨wr.heap.size + 1, 0, none⟩ = some (.int .i64 (sv [a, b] s)) := by
        have := (own_lit ((wr.alloc (.cells #[.slice A 8 ca, .slice B 8 cb] 24)).drewN j) [sv [a, b] s] (by simp)).cell (i := 0) rfl
        simpa [World.size_alloc] using this
      have hsz : w.heap.size ≤ (((wr.alloc (.cells #[.slice A 8 ca, .slice B 8 cb] 24)).drewN j).alloc (.cells #[.int .i64 (sv [a, b] s)] 3)).heap.size := (HBA.out j).size
      have hgg := (HOA.out j).ge
      go_wp2_with (at_builtin; refine wpList_append_int rfl _ _ rfl w.heap.size g s c ((jnT a b).take s) HLN.out rfl (HOA.out j) (wr.heap.size + 1) _ rfl hcn (by omega) hsz ?_; intro g2 c2 w4 o4 g4 h4; have hb4 := (HBA.out j).grown g4 hsz (fun k e => by injection e with e; omega))
      go_roundw
      case rel => exact ⟨s + 1, g2, c2, rfl, by go_num, hs1, Lib.hid (by rw [HSN.out]; exact o4), hb4⟩
      case measure => simp only [intOf]; omega
    · obtain rfl : s = 8 := by omega
      have HOT : Hid (Own wr w.heap.size (some ⟨g, 0, none⟩) c (jnT a b)) := Lib.hid (by have := HO.out; rw [← jnT_len a b, List.take_length] at this; exact this)
      have HVT := Lib.hid (SvalidTable_any (some ⟨g, 0, none⟩) c (jnT a b) wr HOT.out.rd (by rw [jnT_len]; omega))
      rw [jnT_len] at HVT
      clear hlt HO
      rcases hvt : vt (jnT a b) with _ | _
      · have hn : ¬ VT (jnT a b) := fun h => by rw [vt_true h] at hvt; cases hvt
        rw [hvt] at HVT
        clear hvt
        go_wp2_with fail
        refine HVT.out.mono ?_
        rintro e w3 ⟨rfl, j, rfl⟩
        go_wp2
        go_ret
        exact ⟨below_drewN' hbl j, .inr ⟨fun h => hn h.2.2, rfl⟩⟩
      · have hy : VT (jnT a b) := vt_iff.1 hvt
        rw [hvt] at HVT
        clear hvt
        go_wp2_with fail
        refine HVT.out.mono ?_
        rintro e w3 ⟨rfl, j, rfl⟩
        go_wp2
        go_ret
        exact ⟨below_drewN' hbl j, .inl ⟨hVA, hVB, hy, g, c, rfl, HOT.out.drewN j⟩⟩

end Go.Proofs.Ytccbjgajmjcpjaa

/-
  The generators of the laws of chapter 4: texts of offers, a table.
-/
namespace Go.Proofs.Ytccbjgajmjcpjaa
open Go.RowKit Go.Lib

theorem sv_bd9 {ts : List (List Int)} (h : ∀ t ∈ ts, ∀ s, s < 8 → T t s ≤ 9) : ∀ x : Nat, x < 8 → sv ts x ≤ 9 * ts.length := by
  induction ts with
  | nil => intro x _; simp [sv]
  | cons t ts ih =>
    intro x hx
    simp only [sv]
    refine mx_le (by omega) (fun s hs => ?_)
    have h1 := ih (fun u hu => h u (by simp [hu])) (x - s) (by omega)
    have h2 := h t (by simp) s (subs_lt hs)
    simp only [List.length_cons]
    omega
/-- Two who want one thing each are a table. -/
theorem ones_join {a b : List Int} (ha : Ones a) (hb : Ones b) : VT (jnT a b) := by
  have hz : ∀ t ∈ [a, b], T t 0 = 0 := by
    intro t ht
    simp at ht
    rcases ht with rfl | rfl
    · exact ha.1.2.1
    · exact hb.1.2.1
  have h9 : ∀ t ∈ [a, b], ∀ s, s < 8 → T t s ≤ 9 := by
    intro t ht
    simp at ht
    rcases ht with rfl | rfl
    · exact ha.2
    · exact hb.2
  have hT : ∀ s, s < 8 → T (jnT a b) s = sv [a, b] s := fun s hs => T_of (jnT_at a b hs)
  refine ⟨jnT_len a b, ?_, fun s hs => ⟨?_, fun j hj hbit => ?_⟩⟩
  · rw [hT 0 (by omega)]
    refine Int.le_antisymm ?_ (sv_nonneg _ _)
    simp [sv, subs, mx, hz a (by simp), hz b (by simp), List.range, List.range.loop]
  · rw [hT s hs]
    have h1 := sv_nonneg [a, b] s
    have h2 := sv_bd9 h9 s hs
    simp at h2
    omega
  · have h8 : s + 2 ^ j < 8 := by
      rcases nat8 hs with rfl | rfl | rfl | rfl | rfl | rfl | rfl | rfl <;> rcases nat3 hj with rfl | rfl | rfl <;> first | omega | (exfalso; revert hbit; decide)
    rw [hT s hs, hT _ h8]
    refine sv_more hz h8 ?_
    rcases nat8 hs with rfl | rfl | rfl | rfl | rfl | rfl | rfl | rfl <;> rcases nat3 hj with rfl | rfl | rfl <;> first | decide | (exfalso; revert hbit; decide)

/-- What offerText hands back: a text, not long. -/
def OtxIs (w : World) (rb k : Nat) (e : Ending) (w' : World) : Prop := ∃ s : ByteArray, e = .returned (.string s) ∧ s.size ≤ 1000 ∧ Rdr w' rb k ∧ w.grownBy w' (some rb)

set_option maxHeartbeats 2000000 in
set_option maxRecDepth 100000 in
theorem offerText_any (rb k : Nat) (w : World) (h : Rdr w rb k) (hk : k + 20 ≤ 1000000) :
    Calls Try.prog 177 #[.pointer (some ⟨rb, 0, none⟩)] w (OtxIs w rb (k + 12)) := by
  have hl := h.lt
  go_enter Try.func177, Try.ntmps177
  go_wp2_with fail
  have HC := Lib.hid (lit_str w [⟨#[32, 120, 111, 114, 32]⟩, ⟨#[32, 111, 114, 32]⟩, ⟨#[32, 120, 111, 114, 32]⟩])
  have HR := Lib.hid (h.alloc (.cells #[.string ⟨#[32, 120, 111, 114, 32]⟩, .string ⟨#[32, 111, 114, 32]⟩, .string ⟨#[32, 120, 111, 114, 32]⟩] 9))
  refine (of_any rb k w.heap.size _ 3 _ _ rfl HR.out HC.out (by omega) (by decide) (by decide) (by omega)).mono ?_
  rintro e w1 ⟨wd, hwd, rfl, hr1, hg1⟩
  have hwz : wd.size ≤ 5 := by
    simp only [List.mem_cons, List.not_mem_nil, or_false] at hwd
    rcases hwd with rfl | rfl | rfl <;> decide
  have gg1 := (World.grownBy_alloc w (.cells #[.string ⟨#[32, 120, 111, 114, 32]⟩, .string ⟨#[32, 111, 114, 32]⟩, .string ⟨#[32, 120, 111, 114, 32]⟩] 9) (some rb)).trans hg1
  clear hwd HC HR hg1
  go_wp2_with fail
  refine (one_new rb (k + 1) 5 [2, 3, 1, 4, 5] _ w1 rfl rfl hr1 (by decide) (by decide) (by omega)).mono ?_
  rintro e w2 ⟨n, hn, rfl, hr2, hg2⟩
  have hn0 : 0 ≤ n := by simp only [List.mem_cons, List.not_mem_nil, or_false] at hn; omega
  have hn5 : n ≤ 5 := by simp only [List.mem_cons, List.not_mem_nil, or_false] at hn; omega
  have gg2 := gg1.trans hg2
  have hl2 : rb < w2.heap.size := hr2.lt
  clear hn hr1 gg1 hg2
  go_wp2_with fail
  go_loopw [4, 5] (fun sv nv wr => ∃ (s : ByteArray) (m : Nat), sv = .string s ∧ nv = .int .i64 (m : Int) ∧ m ≤ 5 ∧ s.size ≤ 20 * (5 - m) ∧ Rdr wr rb (k + 2 + 2 * (5 - m)) ∧ w.grownBy wr (some rb)) (fun _ i _ => (intOf i).toNat)
  case atStart => exact ⟨⟨#[]⟩, n.toNat, rfl, by rw [Int.toNat_of_nonneg hn0], by omega, by simp [ByteArray.size], hr2.more (by omega), gg2⟩
  case round =>
    obtain ⟨s, m, rfl, rfl, hm, hsz, hr, hg⟩ := hrel
    rcases m with _ | m
    · go_wp2
      go_ret
      exact ⟨s, rfl, by omega, hr.more (by omega), hg⟩
    · have hlt := hr.lt
      have hmp : (0 : Int) < ((m + 1 : Nat) : Int) := by omega
      have HOF : Hid (∀ w', Rdr w' rb (k + 2 + 2 * (5 - (m + 1))) → rb < w'.heap.size → Calls Try.prog 190 #[.pointer (some ⟨rb, 0, none⟩), .slice (some ⟨w'.heap.size, 0, none⟩) 9 9] (w'.alloc (.cells #[.string ⟨#[97]⟩, .string ⟨#[98]⟩, .string ⟨#[99]⟩, .string ⟨#[97, 98]⟩, .string ⟨#[98, 99]⟩, .string ⟨#[97, 99]⟩, .string ⟨#[97, 98, 99]⟩, .string ⟨#[97]⟩, .string ⟨#[98]⟩] 9)) fun e w'' => ∃ s : ByteArray, s.size ≤ 3 ∧ e = .returned (.string s) ∧ Rdr w'' rb (k + 2 + 2 * (5 - (m + 1)) + 1) ∧ w'.grownBy w'' (some rb)) := Lib.hid (fun w' hr' hl' => by
        refine (of_any rb _ w'.heap.size 9 9 [⟨#[97]⟩, ⟨#[98]⟩, ⟨#[99]⟩, ⟨#[97, 98]⟩, ⟨#[98, 99]⟩, ⟨#[97, 99]⟩, ⟨#[97, 98, 99]⟩, ⟨#[97]⟩, ⟨#[98]⟩] _ rfl (hr'.alloc _) (lit_str w' [⟨#[97]⟩, ⟨#[98]⟩, ⟨#[99]⟩, ⟨#[97, 98]⟩, ⟨#[98, 99]⟩, ⟨#[97, 99]⟩, ⟨#[97, 98, 99]⟩, ⟨#[97]⟩, ⟨#[98]⟩]) (by omega) (by decide) (by decide) (by omega)).mono ?_
        rintro e w'' ⟨s', hs', rfl, hr'', hg''⟩
        refine ⟨s', ?_, rfl, hr'', (World.grownBy_alloc w' _ (some rb)).trans hg''⟩
        simp only [List.mem_cons, List.not_mem_nil, or_false] at hs'
        rcases hs' with rfl | rfl | rfl | rfl | rfl | rfl | rfl | rfl | rfl <;> decide)
      rcases hem : s.toList.isEmpty with _ | _
      · have hcat : ¬ 9223372036854775807 < s.size + wd.size := by omega
        go_wp2_with fail
        refine (HOF.out wr hr hlt).mono ?_
        rintro e w3 ⟨u, hu, rfl, hr3, hg3⟩
        have gg3 := hg.trans hg3
        have c1 : ¬ 9223372036854775807 < (s ++ wd).size + u.size := by rw [ByteArray.size_append]; omega
        have c2 : ¬ 9223372036854775807 < (s ++ wd ++ u).size + (⟨#[58]⟩ : ByteArray).size := by rw [ByteArray.size_append, ByteArray.size_append]; have : (⟨#[58]⟩ : ByteArray).size = 1 := rfl; omega
        clear hg hg3 hr
        go_wp2_with fail
        refine (pick_any rb _ 10 w3 hr3 (by omega) (by decide) (by decide)).mono ?_
        rintro e w4 ⟨q, rfl, hq0, hq1, hr4, hg4⟩
        obtain ⟨q, rfl⟩ := Int.eq_ofNat_of_zero_le hq0
        have gg4 := gg3.trans hg4
        have hd := dec_len q
        have c3 : ¬ 9223372036854775807 < (s ++ wd ++ u ++ (⟨#[58]⟩ : ByteArray)).size + (sB (decDigits q)).size := by rw [ByteArray.size_append, ByteArray.size_append, ByteArray.size_append, sB_size]; have : (⟨#[58]⟩ : ByteArray).size = 1 := rfl; omega
        have HZ : Hid ((s ++ wd ++ u ++ (⟨#[58]⟩ : ByteArray) ++ sB (decDigits q)).size ≤ 20 * (5 - m)) := Lib.hid (by rw [ByteArray.size_append, ByteArray.size_append, ByteArray.size_append, ByteArray.size_append, sB_size]; have : (⟨#[58]⟩ : ByteArray).size = 1 := rfl; omega)
        have HQN := Lib.hid (fun w => Snumber_any 1 q (by omega) (by omega) w)
        clear gg3 hg4 hr3 hq0 hq1 hd HOF
        go_wp2_with fail
        refine (HQN.out _).mono ?_
        rintro e w5 ⟨rfl, j, rfl⟩
        go_wp2
        go_roundw
        case rel => exact ⟨_, m, rfl, by go_num, by omega, HZ.out, (hr4.drewN j).more (by omega), gb_drewN gg4 j⟩
        case measure => simp only [intOf]; omega
      · go_wp2_with fail
        refine (HOF.out wr hr hlt).mono ?_
        rintro e w3 ⟨u, hu, rfl, hr3, hg3⟩
        have gg3 := hg.trans hg3
        have c1 : ¬ 9223372036854775807 < (s).size + u.size := by omega
        have c2 : ¬ 9223372036854775807 < (s ++ u).size + (⟨#[58]⟩ : ByteArray).size := by rw [ByteArray.size_append]; have : (⟨#[58]⟩ : ByteArray).size = 1 := rfl; omega
        clear hg hg3 hr
        go_wp2_with fail
        refine (pick_any rb _ 10 w3 hr3 (by omega) (by decide) (by decide)).mono ?_
        rintro e w4 ⟨q, rfl, hq0, hq1, hr4, hg4⟩
        obtain ⟨q, rfl⟩ := Int.eq_ofNat_of_zero_le hq0
        have gg4 := gg3.trans hg4
        have hd := dec_len q
        have c3 : ¬ 9223372036854775807 < (s ++ u ++ (⟨#[58]⟩ : ByteArray)).size + (sB (decDigits q)).size := by rw [ByteArray.size_append, ByteArray.size_append, sB_size]; have : (⟨#[58]⟩ : ByteArray).size = 1 := rfl; omega
        have HZ : Hid ((s ++ u ++ (⟨#[58]⟩ : ByteArray) ++ sB (decDigits q)).size ≤ 20 * (5 - m)) := Lib.hid (by rw [ByteArray.size_append, ByteArray.size_append, ByteArray.size_append, sB_size]; have : (⟨#[58]⟩ : ByteArray).size = 1 := rfl; omega)
        have HQN := Lib.hid (fun w => Snumber_any 1 q (by omega) (by omega) w)
        clear gg3 hg4 hr3 hq0 hq1 hd HOF
        go_wp2_with fail
        refine (HQN.out _).mono ?_
        rintro e w5 ⟨rfl, j, rfl⟩
        go_wp2
        go_roundw
        case rel => exact ⟨_, m, rfl, by go_num, by omega, HZ.out, (hr4.drewN j).more (by omega), gb_drewN gg4 j⟩
        case measure => simp only [intOf]; omega

end Go.Proofs.Ytccbjgajmjcpjaa

/-
  The generators of the laws of chapter 4: a table.
-/
namespace Go.Proofs.Ytccbjgajmjcpjaa
open Go.RowKit Go.Lib

/-- The sum of what the first j things alone are worth, of those in the set. -/
def sumV (xs : List Int) (s : Nat) : Nat → Int
  | 0 => 0
  | j + 1 => sumV xs s j + ((s / 2 ^ j % 2 : Nat) : Int) * xs.getD j 0
def sumT (x y z : Int) : List Int := (List.range 8).map (fun s => sumV [x, y, z] s 3)
theorem sumT_len (x y z : Int) : (sumT x y z).length = 8 := by simp [sumT]
theorem sumT_at (x y z : Int) {s : Nat} (hs : s < 8) : (sumT x y z)[s]? = some (sumV [x, y, z] s 3) := by simp [sumT, hs]
theorem sumV_bd {x y z : Int} (hx : 0 ≤ x ∧ x ≤ 9) (hy : 0 ≤ y ∧ y ≤ 9) (hz : 0 ≤ z ∧ z ≤ 9) (s : Nat) : ∀ j, j ≤ 3 → 0 ≤ sumV [x, y, z] s j ∧ sumV [x, y, z] s j ≤ 9 * j := by
  intro j
  induction j with
  | zero => intro _; simp [sumV]
  | succ j ih =>
    intro hj
    have := ih (by omega)
    have hv : [x, y, z].getD j 0 = x ∨ [x, y, z].getD j 0 = y ∨ [x, y, z].getD j 0 = z := by
      rcases nat3 (show j < 3 by omega) with rfl | rfl | rfl <;> simp
    have hb : s / 2 ^ j % 2 = 0 ∨ s / 2 ^ j % 2 = 1 := by omega
    simp only [sumV]
    generalize [x, y, z].getD j 0 = v at hv ⊢
    rcases hb with h | h <;> rw [h]
    · simp only [Int.natCast_zero, Int.zero_mul]; omega
    · simp only [Int.natCast_one, Int.one_mul]; omega

/-- A region that draws its order, all ways of which end in the same. -/
theorem wp_once {P : Program} {c : Code} {K : Act → World → Prop} {Q : Exit → Act → World → Prop} {a : Act} {w : World} {a0 : Act} {w0 : World} (h : ∀ K1 : Act → World → Prop, K1 a0 w0 → c.wp P (Exit.then K1 Q) a w) (hk : K a0 w0) : c.wp P (Exit.then K Q) a w := h K hk

theorem wp_onceB {P : Program} {c : Code} {K : Act → World → Prop} {n : Nat} {Q : Exit → Act → World → Prop} {a : Act} {w : World} {a0 : Act} {w0 : World} (h : ∀ K1 : Act → World → Prop, K1 a0 w0 → c.wp P (Exit.inBlock n (Exit.then K1 Q)) a w) (hk : K a0 w0) : c.wp P (Exit.inBlock n (Exit.then K Q)) a w := h K hk

theorem OneAt.drew {w : World} {rb k gS : Nat} {xs zs : List Int} {wr : World} (h : OneAt w rb k gS xs zs wr) : OneAt w rb k gS xs zs wr.drew := ⟨h.out, h.single, h.rdr, h.grown.trans ⟨rfl, rfl, rfl, Nat.le_refl _, fun _ _ _ => rfl⟩⟩

theorem TblIs.base {w w0 : World} {rb k k' : Nat} {P : List Int → Prop} {e : Ending} {w' : World} (h : TblIs w0 rb k P e w') (hg : w.grownBy w0 (some rb)) (hk : k ≤ k') : TblIs w rb k' (fun _ => True) e w' := by
  obtain ⟨g, c, ys, he, hl, _, ho, hr, hg2⟩ := h
  exact ⟨g, c, ys, he, hl, trivial, ho.base hg.size, hr.more hk, hg.trans hg2⟩

set_option maxHeartbeats 4000000 in
set_option maxRecDepth 100000 in
theorem goodTable_any (rb k : Nat) (w : World) (h : Rdr w rb k) (hk : k + 50 ≤ 1000000) :
    Calls Try.prog 138 #[.pointer (some ⟨rb, 0, none⟩)] w (TblIs w rb (k + 30) fun _ => True) := by
  have hl := h.lt
  go_enter Try.func138, Try.ntmps138
  go_wp2_with fail
  refine (pick_any rb k 6 w h (by omega) (by decide) (by decide)).mono ?_
  rintro e w1 ⟨m, rfl, hm0, hm1, hr1, hg1⟩
  have hl1 := hr1.lt
  by_cases ha : m = 0 ∨ m = 1
  · as_aux_lemma =>
    have hs : (m == 0) = true ∨ (m == 1) = true := by simpa using ha
    rcases ha with rfl | rfl <;> (
      go_wp2_with fail
      refine (offerText_any rb (k + 1) w1 hr1 (by omega)).mono ?_
      rintro e w2 ⟨s, rfl, hsz, hr2, hg2⟩
      have gg2 := hg1.trans hg2
      go_wp2_with fail
      refine (SreadOffer_any s w2 (by omega)).mono ?_
      rintro e w3 ⟨hb3, ⟨t, g, c, htt, rfl, ho3⟩ | ⟨_, rfl⟩⟩
      · have hr3 := hr2.below hb3
        have gg3 := gg2.trans (gb_of_below hb3 (some rb))
        have HLE := Lib.hid (rdF_len htt)
        rcases hvt : vt t with _ | _
        · clear hvt
          go_wp2_with fail
          refine (oneTable_any rb (k + 1 + 12) w3 hr3 (by omega)).mono ?_
          rintro e w4 ⟨g4, c4, ys, rfl, hl4, _, o4, hr4, hg4⟩
          go_wp2
          go_ret
          exact ⟨g4, c4, ys, rfl, hl4, trivial, o4.base gg3.size, hr4.more (by omega), gg3.trans hg4⟩
        · clear hvt
          go_wp2
          go_ret
          exact ⟨g, c, t, rfl, HLE.out, trivial, ho3.base gg2.size, hr3.more (by omega), gg3⟩
      · have hr3 := hr2.below hb3
        have gg3 := gg2.trans (gb_of_below hb3 (some rb))
        go_wp2_with fail
        refine (oneTable_any rb (k + 1 + 12) w3 hr3 (by omega)).mono ?_
        rintro e w4 ⟨g4, c4, ys, rfl, hl4, _, o4, hr4, hg4⟩
        go_wp2
        go_ret
        exact ⟨g4, c4, ys, rfl, hl4, trivial, o4.base gg3.size, hr4.more (by omega), gg3.trans hg4⟩)
  by_cases hb : m = 2
  · subst hb
    go_wp2_with (at_make; refine wpList_make_ints rfl _ _ rfl w1.heap.size 8 rfl rfl (by omega) (by simp) ?_; intro w2 ho2 hb2)
    have hr2 := hr1.below hb2
    have hg2 := gb_of_below hb2 (some rb)
    have hs2 := ho2.lt
    refine (pick_any rb (k + 1) 8 w2 hr2 (by omega) (by decide) (by decide)).mono ?_
    rintro e w3 ⟨x, rfl, hx0, hx1, hr3, hg3⟩
    have ho3 : Own w3 w1.heap.size (some ⟨w1.heap.size, 0, none⟩) 8 (List.replicate 8 0) := ho2.kept_ (A2 := some ⟨rb, 0, none⟩) hg3 (.inr (fun e => by have h3 : w1.heap.size = rb := Option.some.inj e; omega))
    have gg3 := hg2.trans hg3
    have hs3 := hg3.size
    clear ho2 hb2 hg3 hr2 hg2
    go_wp2_with fail
    refine (pick_any rb (k + 1 + 1) 8 w3 hr3 (by omega) (by decide) (by decide)).mono ?_
    rintro e w4 ⟨y, rfl, hy0, hy1, hr4, hg4⟩
    have ho4 : Own w4 w1.heap.size (some ⟨w1.heap.size, 0, none⟩) 8 (List.replicate 8 0) := ho3.kept_ (A2 := some ⟨rb, 0, none⟩) hg4 (.inr (fun e => by have h3 : w1.heap.size = rb := Option.some.inj e; omega))
    have gg4 := gg3.trans hg4
    have hs4 := hg4.size
    clear ho3 hg4 hr3 gg3
    go_wp2_with fail
    refine (pick_any rb (k + 1 + 1 + 1) 8 w4 hr4 (by omega) (by decide) (by decide)).mono ?_
    rintro e w5 ⟨z, rfl, hz0, hz1, hr5, hg5⟩
    have ho5 : Own w5 w1.heap.size (some ⟨w1.heap.size, 0, none⟩) 8 (List.replicate 8 0) := ho4.kept_ (A2 := some ⟨rb, 0, none⟩) hg5 (.inr (fun e => by have h3 : w1.heap.size = rb := Option.some.inj e; omega))
    have gg5 := gg4.trans hg5
    have hs5 := hg5.size
    have HX : Hid (0 ≤ x ∧ x ≤ 9) := Lib.hid (by have := pick_lt hx0 hx1 (by decide); omega)
    have HY : Hid (0 ≤ y ∧ y ≤ 9) := Lib.hid (by have := pick_lt hy0 hy1 (by decide); omega)
    have HZ : Hid (0 ≤ z ∧ z ≤ 9) := Lib.hid (by have := pick_lt hz0 hz1 (by decide); omega)
    clear ho4 hg5 hr4 gg4 hx0 hx1 hy0 hy1 hz0 hz1
    go_wp2_with fail
    have HI0 : Hid (OneAt w1 rb (k + 4) w5.heap.size [x, y, z] (filled (sumT x y z) 0) (w5.alloc (.cells #[.int .i64 x, .int .i64 y, .int .i64 z] 3))) := Lib.hid
      ⟨by rw [filled_zero, sumT_len]; exact World.ownsRow.alloc ho5 _, own_base (own_lit w5 [x, y, z] (by simp)) (by omega), hr5.alloc _, gb_alloc gg5 _⟩
    have HT8 := Lib.hid (fun s (hs : s < 8) => sumT_at x y z hs)
    have HTL : Hid ((sumT x y z).length = 8) := Lib.hid (sumT_len x y z)
    have HBD := Lib.hid (fun s j (hj : j ≤ 3) => sumV_bd HX.out HY.out HZ.out s j hj)
    have HVB : Hid (∀ j, j < 3 → 0 ≤ [x, y, z].getD j 0 ∧ [x, y, z].getD j 0 ≤ 9) := Lib.hid (fun j hj => by rcases nat3 hj with rfl | rfl | rfl <;> first | exact HX.out | exact HY.out | exact HZ.out)
    have HBIT := Lib.hid (fun (s j : Nat) (hs : s < 8) (hj : j < 3) w => Sbit_any s j hs hj w)
    have HSG : Hid (∀ j, j < 3 → [x, y, z][j]? = some ([x, y, z].getD j 0)) := Lib.hid (fun j hj => by rcases nat3 hj with rfl | rfl | rfl <;> rfl)
    obtain ⟨xs, hxs⟩ : ∃ xs, xs = [x, y, z] := ⟨_, rfl⟩
    obtain ⟨tab, htab⟩ : ∃ tab, tab = sumT x y z := ⟨_, rfl⟩
    rw [← hxs] at HT8 HSG HVB HBD
    rw [← htab, ← hxs] at HI0
    rw [← htab] at HT8 HTL
    clear hxs htab HX HY HZ ho5 hr5 gg5
    go_loopw [7] (fun sv wr => ∃ s, sv = .int .i64 (s : Nat) ∧ s ≤ 8 ∧ Hid (OneAt w1 rb (k + 4) w5.heap.size xs (filled tab s) wr)) (fun i _ => 8 - (intOf i).toNat)
    case atStart => exact ⟨0, rfl, by omega, HI0⟩
    case round =>
      obtain ⟨s, rfl, hs, HI⟩ := hrel
      by_cases hlt : s < 8
      · have HIN : Hid (OneAt w1 rb (k + 4) w5.heap.size xs ((filled tab s).set s (sumV xs s 0)) wr) := Lib.hid (by
          rw [show sumV xs s 0 = 0 from rfl, filled_same1 (by rw [HTL.out]; exact hlt)]; exact HI.out)
        have HSET : Hid ((filled tab s).set s (sumV xs s 3) = filled tab (s + 1)) := Lib.hid (filled_set tab s _ (HT8.out s hlt))
        have HFL : Hid (s < (filled tab s).length) := Lib.hid (by rw [filled_len _ _ (by rw [HTL.out]; omega), HTL.out]; exact hlt)
        have hs0 : (0 : Int) ≤ (s : Int) := by omega
        have hs8 : (s : Int) < 8 := by omega
        have hss : s < 8 := hlt
        clear hlt HI
        go_wp2_with fail
        go_loopw [8] (fun jv wr' => ∃ j, jv = .int .i64 (j : Nat) ∧ j ≤ 3 ∧ Hid (OneAt w1 rb (k + 4) w5.heap.size xs ((filled tab s).set s (sumV xs s j)) wr')) (fun i _ => 3 - (intOf i).toNat)
        case atStart => exact ⟨0, rfl, by omega, HIN⟩
        case round =>
          obtain ⟨j, rfl, hj, HI⟩ := hrel
          by_cases hlt : j < 3
          · have HB := Lib.hid (HBIT.out s j hss hlt)
            have hj0 : (0 : Int) ≤ (j : Int) := by omega
            have hj3 : (j : Int) < 3 := by omega
            obtain ⟨V, hV⟩ : ∃ V, V = sumV xs s j := ⟨_, rfl⟩
            obtain ⟨b, hbb⟩ : ∃ b, b = s / 2 ^ j % 2 := ⟨_, rfl⟩
            have hcell := HI.out.out.cell (i := s) (x := V) (by rw [List.getElem?_set_self HFL.out, hV])
            have hfree := HI.out.out.free s
            obtain ⟨u, hu⟩ : ∃ u, u = xs.getD j 0 := ⟨_, rfl⟩
            have hc2 := HI.out.single.cell (i := j) (x := u) (by rw [HSG.out j hlt, hu])
            have hub := HVB.out j hlt
            have hvb := HBD.out s j (by omega)
            rw [← hu] at hub
            rw [← hV] at hvb
            have hb2 : b ≤ 1 := by omega
            have hmul : 0 ≤ (b : Int) * u ∧ (b : Int) * u ≤ 9 := by
              rcases (show b = 0 ∨ b = 1 by omega) with rfl | rfl <;> simp <;> omega
            have e1 : IntKind.i64.wrap ((b : Int) * u) = (b : Int) * u := IntWalk.i64_in _ (by omega)
            have e2 : IntKind.i64.wrap (V + (b : Int) * u) = V + (b : Int) * u := IntWalk.i64_in _ (by omega)
            have HSD : Hid (OneAt w1 rb (k + 4) w5.heap.size xs ((filled tab s).set s (sumV xs s (j + 1))) (wr.setCell ⟨w1.heap.size, s, none⟩ (.int .i64 (V + (b : Int) * u))).drew) := Lib.hid (by
              have h9 := HI.out.set_ hl1 s (V + (b : Int) * u)
              rw [List.set_set] at h9
              rw [show sumV xs s (j + 1) = V + (b : Int) * u by simp only [sumV]; rw [← hV, ← hbb, ← hu]]
              exact h9.drew)
            rw [← hbb] at HB
            have hj1 : j + 1 ≤ 3 := hlt
            clear hV hu hbb hlt HI hub hvb hmul
            go_wp2_with fail
            refine wp_onceB (a0 := ?a0) (w0 := ?w0) (fun K1 h1 => ?first) ?rest
            case first =>
              go_region_with (go_at_call 156; refine (HB.out _).mono ?_; rintro e w6 ⟨rfl, rfl⟩)
              all_goals exact h1
            case rest =>
              go_wp2
              exact ⟨⟨j + 1, by go_num, hj1, HSD⟩, by simp only [intOf]; omega⟩
          · obtain rfl : j = 3 := by omega
            have HTE : Hid (OneAt w1 rb (k + 4) w5.heap.size xs (filled tab (s + 1)) wr) := Lib.hid (by rw [← HSET.out]; exact HI.out)
            clear hlt HI
            go_wp2
            go_roundw
            case rel => exact ⟨s + 1, by go_num, by omega, HTE⟩
            case measure => simp only [intOf]; omega
      · obtain rfl : s = 8 := by omega
        have HTE : Hid (OneAt w1 rb (k + 4) w5.heap.size xs tab wr) := Lib.hid (by have := HI.out; rw [← HTL.out, filled_all] at this; exact this)
        clear hlt HI
        go_wp2
        go_ret
        exact ⟨w1.heap.size, 8, tab, rfl, HTL.out, trivial, HTE.out.out.base hg1.size, HTE.out.rdr.more (by omega), hg1.trans HTE.out.grown⟩
  by_cases hc : m = 3
  · subst hc
    as_aux_lemma =>
    go_wp2_with fail
    refine (oneTable_any rb (k + 1) w1 hr1 (by omega)).mono ?_
    rintro e w2 ⟨g2, c2, ys2, rfl, hl2, hp2, o2, hr2, hg2⟩
    have hlt2 := hr2.lt
    go_wp2_with fail
    refine (oneTable_any rb (k + 1 + 3) w2 hr2 (by omega)).mono ?_
    rintro e w3 ⟨g3, c3, ys3, rfl, hl3, hp3, o3, hr3, hg3⟩
    have gg3 := hg1.trans (hg2.trans hg3)
    have o23 : Own w3 w1.heap.size (some ⟨g2, 0, none⟩) c2 ys2 := o2.kept_ (A2 := some ⟨rb, 0, none⟩) hg3 (.inr (fun e => by have := Option.some.inj e; have h3 := o2.ge; have : g2 = rb := this; omega))
    have HJ := Lib.hid (SJoinTables_any (some ⟨g2, 0, none⟩) (some ⟨g3, 0, none⟩) c2 c3 ys2 ys3 w3 o23.rd o3.rd o23.cap.1 o3.cap.1 (by omega) (by omega))
    have HON := Lib.hid (ones_join hp2 hp3)
    have HP2 := Lib.hid hp2.1
    have HP3 := Lib.hid hp3.1
    rw [hl2, hl3] at HJ
    clear hp2 hp3
    go_wp2_with fail
    refine HJ.out.mono ?_
    rintro e w4 ⟨hb4, ⟨_, _, _, g4, c4, rfl, o4⟩ | ⟨hno, _⟩⟩
    · have gg4 := gg3.trans (gb_of_below hb4 (some rb))
      go_wp2
      go_ret
      exact ⟨g4, c4, jnT ys2 ys3, rfl, jnT_len _ _, trivial, o4.base gg3.size, (hr3.below hb4).more (by omega), gg4⟩
    · exact absurd ⟨HP2.out, HP3.out, HON.out⟩ hno
  · as_aux_lemma =>
    have h0 : ¬ m = 0 := fun e => ha (.inl e)
    have h1 : ¬ m = 1 := fun e => ha (.inr e)
    have q0 : (m == 0) = false := by simpa using h0
    have q1 : (m == 1) = false := by simpa using h1
    have q2 : (m == 2) = false := by simpa using hb
    have q3 : (m == 3) = false := by simpa using hc
    clear h0 h1 ha hb hc
    go_wp2_with fail
    refine (oneTable_any rb (k + 1) w1 hr1 (by omega)).mono ?_
    rintro e w4 ⟨g4, c4, ys, rfl, hl4, _, o4, hr4, hg4⟩
    go_wp2
    go_ret
    exact ⟨g4, c4, ys, rfl, hl4, trivial, o4.base hg1.size, hr4.more (by omega), hg1.trans hg4⟩

end Go.Proofs.Ytccbjgajmjcpjaa

/-
  The generators of the laws of chapter 4: a table, most often.
-/
namespace Go.Proofs.Ytccbjgajmjcpjaa
open Go.RowKit Go.Lib

theorem own_take {w : World} {B g c : Nat} {ys : List Int} (h : Own w B (some ⟨g, 0, none⟩) c ys) (n : Nat) (hn : n ≤ ys.length) : Own w B (some ⟨g, 0, none⟩) c (ys.take n) := by
  have hl : (ys.take n).length = n := by rw [List.length_take]; omega
  rcases h.2 with ⟨hv, _⟩ | ⟨g', cap, cur, hv, hB, hh, h1, h2, h3, h4⟩
  · cases hv
  · injection hv with hA hn' hc
    injection hA with hA
    injection hA with hA
    subst hA hc
    unfold Own
    rw [hl]
    refine ⟨by simp; omega, .inr ⟨g, c, cur, rfl, hB, hh, by omega, h2, h3, ?_⟩⟩
    have : (cur.toList.take (ys.length * 1)).take (n * 1) = (ys.map (Value.int .i64)).take (n * 1) := by rw [h4]
    rw [List.take_take, Nat.min_eq_left (by omega)] at this
    rw [this, List.map_take]
    simp

/-- What is drawn: a list of at most eight numbers in a block of its own. -/
def TbsIs (w : World) (rb k : Nat) (e : Ending) (w' : World) : Prop :=
  ∃ g c ys, e = .returned (.slice (some ⟨g, 0, none⟩) ys.length c) ∧ ys.length ≤ 8 ∧ Own w' w.heap.size (some ⟨g, 0, none⟩) c ys ∧ Rdr w' rb k ∧ w.grownBy w' (some rb)

set_option maxHeartbeats 4000000 in
set_option maxRecDepth 100000 in
theorem someTable_any (rb k : Nat) (w : World) (h : Rdr w rb k) (hk : k + 80 ≤ 1000000) :
    Calls Try.prog 139 #[.pointer (some ⟨rb, 0, none⟩)] w (TbsIs w rb (k + 40)) := by
  have hl := h.lt
  go_enter Try.func139, Try.ntmps139
  go_wp2_with fail
  refine (goodTable_any rb k w h (by omega)).mono ?_
  rintro e w1 ⟨g, c, ys, rfl, hy, _, o1, hr1, hg1⟩
  have hl1 := hr1.lt
  have hgr := o1.ge
  go_wp2_with fail
  refine (pick_any rb (k + 30) 40 w1 hr1 (by omega) (by decide) (by decide)).mono ?_
  rintro e w2 ⟨m, rfl, hm0, hm1, hr2, hg2⟩
  have gg2 := hg1.trans hg2
  have o2 : Own w2 w.heap.size (some ⟨g, 0, none⟩) c ys := o1.kept_ (A2 := some ⟨rb, 0, none⟩) hg2 (.inr (fun e => by have h3 : g = rb := Option.some.inj e; omega))
  have hcap := o2.cap
  by_cases h0 : m = 0
  · subst h0
    go_wp2_with fail
    refine (pick_any rb (k + 30 + 1) 8 w2 hr2 (by omega) (by decide) (by decide)).mono ?_
    rintro e w3 ⟨i, rfl, hi0, hi1, hr3, hg3⟩
    obtain ⟨i, rfl⟩ := Int.eq_ofNat_of_zero_le hi0
    have hi8 : i < 8 := by omega
    have o3 : Own w3 w.heap.size (some ⟨g, 0, none⟩) c ys := o2.kept_ (A2 := some ⟨rb, 0, none⟩) hg3 (.inr (fun e => by have h3 : g = rb := Option.some.inj e; omega))
    have gg3 := gg2.trans hg3
    clear hg2 hg3 hg1 o1 o2 hi0 hi1
    go_wp2_with fail
    refine (one_new rb (k + 30 + 1 + 1) 4 [31, -1, 0, 30] _ w3 rfl rfl hr3 (by decide) (by decide) (by omega)).mono ?_
    rintro e w4 ⟨v, _, rfl, hr4, hg4⟩
    have o4 : Own w4 w.heap.size (some ⟨g, 0, none⟩) c ys := o3.kept_ (A2 := some ⟨rb, 0, none⟩) hg4 (.inr (fun e => by have h3 : g = rb := Option.some.inj e; omega))
    have gg4 := gg3.trans hg4
    obtain ⟨y, hyi⟩ := at_some (xs := ys) (k := i) (by omega)
    have hcell := o4.cell hyi
    have hfree := o4.free i
    have o5 := o4.set_ i v
    have hi0' : (0 : Int) ≤ (i : Int) := by omega
    have hi8' : (i : Int) < 8 := by omega
    have HL : Hid ((ys.set i v).length = 8) := Lib.hid (by rw [List.length_set]; exact hy)
    have HR5 := Lib.hid (hr4.set_ (g := g) (i := i) (v := .int .i64 v) (by omega))
    have HG5 := Lib.hid (gb_set (g := g) (i := i) (v := .int .i64 v) gg4 hgr)
    clear hyi hg4 o3
    go_wp2
    go_ret
    exact ⟨g, c, ys.set i v, by rw [HL.out]; rfl, by rw [HL.out]; omega, o5, HR5.out.more (by omega), HG5.out⟩
  by_cases h1 : m = 1
  · subst h1
    have h7 := own_take o2 7 (by omega)
    have hl7 : (ys.take 7).length = 7 := by rw [List.length_take]; omega
    go_wp2
    go_ret
    exact ⟨g, c, ys.take 7, by rw [hl7]; rfl, by omega, h7, hr2.more (by omega), gg2⟩
  · have q0 : (m == 0) = false := by simpa using h0
    have q1 : (m == 1) = false := by simpa using h1
    clear h0 h1
    go_wp2
    go_ret
    exact ⟨g, c, ys, by rw [hy]; rfl, by omega, o2, hr2.more (by omega), gg2⟩

end Go.Proofs.Ytccbjgajmjcpjaa

/-
  The generators of the laws of chapter 4: tables.
-/
namespace Go.Proofs.Ytccbjgajmjcpjaa
open Go.RowKit Go.Lib

/-- What is drawn: tables, of at most eight numbers each. -/
def TablesIs (w : World) (rb k : Nat) (e : Ending) (w' : World) : Prop :=
  ∃ v ps, e = .returned v ∧ RowsU w' w.heap.size v ps ∧ ps.length ≤ 4 ∧ (∀ p ∈ ps, p.2.2.length ≤ 8) ∧ Rdr w' rb k ∧ w.grownBy w' (some rb)

def lenW : Value → Nat
  | .slice _ n _ => n
  | _ => 0

set_option maxHeartbeats 4000000 in
set_option maxRecDepth 100000 in
theorem someTables_any (rb k : Nat) (w : World) (h : Rdr w rb k) (hk : k + 250 ≤ 1000000) :
    Calls Try.prog 68 #[.pointer (some ⟨rb, 0, none⟩), .int .i64 4] w (TablesIs w rb (k + 170)) := by
  obtain ⟨i0, hi, hz0, hz1, hz2⟩ := info_parts intsU_info
  have hl := h.lt
  have HE := Lib.hid (rowsU_empty w)
  have HL : Hid (Own ((w.alloc (.cells #[] 24)).alloc (.cells #[.int .i64 2, .int .i64 3, .int .i64 2, .int .i64 1, .int .i64 0, .int .i64 4] 3)) (w.heap.size + 1) (some ⟨w.heap.size + 1, 0, none⟩) 6 [2, 3, 2, 1, 0, 4]) := Lib.hid (by
    have := own_lit (w.alloc (.cells #[] 24)) [2, 3, 2, 1, 0, 4] (by decide)
    rw [World.size_alloc] at this
    exact this)
  have HR := Lib.hid ((h.alloc (.cells #[] 24)).alloc (.cells #[.int .i64 2, .int .i64 3, .int .i64 2, .int .i64 1, .int .i64 0, .int .i64 4] 3))
  have HG : Hid (w.grownBy ((w.alloc (.cells #[] 24)).alloc (.cells #[.int .i64 2, .int .i64 3, .int .i64 2, .int .i64 1, .int .i64 0, .int .i64 4] 3)) (some rb)) := Lib.hid (gb_alloc (World.grownBy_alloc w _ (some rb)) _)
  have HO : Hid (RowsU ((w.alloc (.cells #[] 24)).alloc (.cells #[.int .i64 2, .int .i64 3, .int .i64 2, .int .i64 1, .int .i64 0, .int .i64 4] 3)) w.heap.size (.slice (some ⟨w.heap.size, 0, none⟩) 0 0) []) := Lib.hid (HE.out.below ((Below.refl _ _).alloc (Nat.le_refl _) _))
  have hl2 : w.heap.size + 1 ≠ rb := by omega
  clear HE
  go_enter Try.func68, Try.ntmps68
  go_wp2_with fail
  refine (one_any rb k (w.heap.size + 1) 6 6 (w.heap.size + 1) [2, 3, 2, 1, 0, 4] _ rfl HR.out HL.out hl2 (by decide) (by decide) (by omega)).mono ?_
  rintro e w1 ⟨most, hmo, rfl, hr1, hg1⟩
  have hm0 : 0 ≤ most := by simp only [List.mem_cons, List.not_mem_nil, or_false] at hmo; omega
  have hm1 : most ≤ 4 := by simp only [List.mem_cons, List.not_mem_nil, or_false] at hmo; omega
  have ho1 := HO.out.ask hg1 hl
  have gg1 := HG.out.trans hg1
  obtain ⟨S, hS⟩ : ∃ S, S = w.heap.size := ⟨_, rfl⟩
  have HSS := Lib.hid hS
  rw [← hS] at ho1 hl
  clear hmo HR HG HO HL hg1 hl2
  go_wp2_with fail
  rw [← hS]
  clear hS
  go_loopw [5] (fun v wr => ∃ (ps : List (Nat × Nat × List Int)), ps.length ≤ 4 ∧ (∃ g c, v = .slice (some ⟨g, 0, none⟩) ps.length c) ∧ Hid (∀ p ∈ ps, p.2.2.length ≤ 8) ∧ RowsU wr S v ps ∧ Rdr wr rb (k + 1 + 30 * ps.length) ∧ w.grownBy wr (some rb))
    (fun v _ => 4 - lenW v)
  case atStart => exact ⟨[], Nat.zero_le _, ⟨S, 0, rfl⟩, Lib.hid (fun _ h => absurd h (by simp)), ho1, hr1, gg1⟩
  case round =>
    obtain ⟨ps, hps, ⟨g, c, rfl⟩, HP, hR, hr, hg⟩ := hrel
    by_cases hlt : (ps.length : Int) < most
    · have hp4 : ps.length < 4 := by omega
      have HRW := Lib.hid hR
      go_wp2_with fail
      refine (goodTable_any rb (k + 1 + 30 * ps.length) wr hr (by omega)).mono ?_
      rintro e w2 ⟨g2, c2, ys, rfl, hy8, _, o2, hr2, hg2⟩
      have hy : ys.length ≤ 8 := by omega
      have e8 : slU (g2, c2, ys) = .slice (some ⟨g2, 0, none⟩) 8 c2 := by show Value.slice _ ys.length _ = _; rw [hy8]
      have E8 := Lib.hid e8
      clear hy8
      have hR2 := HRW.out.ask hg2 hl
      have gg2 := hg.trans hg2
      have hnot := HRW.out.notIn (Nat.le_refl _) o2
      have HN := Lib.hid hnot
      have hS2 : S ≤ wr.heap.size := by rw [HSS.out]; exact hg.size
      have HT := Lib.hid (own_len hR2.row ((Below.refl _ w2).alloc (Nat.le_refl _) (.cells #[.slice (some ⟨g2, 0, none⟩) 8 c2] 24)))
      have hb63 : ps.length + 1 ≤ maxLen := by unfold maxLen; omega
      have hSz : S ≤ w2.heap.size + 1 := by have := hg2.size; omega
      clear hR hnot e8
      go_wp2_with (at_builtin; (refine wpList_append_own _ rfl _ _ 23 rfl S 24 i0 (.slice none 0 0) 1 24 Try.underlying23 hi hz0 hz1 hz2 rfl (by decide) (.slice (some ⟨g, 0, none⟩) ps.length c) ps.length (ps.map slU) rfl HT.out ⟨w2.heap.size, 0, none⟩ 1 1 [.slice (some ⟨g2, 0, none⟩) 8 c2] rfl rfl (cell_one_new _ _ _) (by simp [Value.oneCell']) hb63 (by omega) (by simpa using hSz) ?_; intro v5 w5 hown5 hg5 _))
      rw [← E8.out] at hown5
      have R5 : RowsU w5 S v5 (ps ++ [(g2, c2, ys)]) := hR2.more (p := (g2, c2, ys)) (o2.base hS2) HN.out hown5 hg5
      have hgeg : S ≤ g := (World.ownsRow.lt hR2.row g rfl).1
      have hr5 := (hr2.alloc (.cells #[.slice (some ⟨g2, 0, none⟩) 8 c2] 24)).grown (g := g) hg5 (by omega)
      have gg5 := gb_new (g := g) (gb_alloc gg2 (.cells #[.slice (some ⟨g2, 0, none⟩) 8 c2] 24)) hg5 (by rw [← HSS.out]; exact hgeg)
      obtain ⟨g5, c5, rfl⟩ := R5.one (by simp)
      have HP5 : Hid (∀ p ∈ ps ++ [(g2, c2, ys)], p.2.2.length ≤ 8) := Lib.hid (by
        intro p hp
        rcases List.mem_append.1 hp with hp | hp
        · exact HP.out p hp
        · obtain rfl : p = (g2, c2, ys) := by simpa using hp
          exact hy)
      have hlp : (ps ++ [(g2, c2, ys)]).length = ps.length + 1 := by simp
      have HLP := Lib.hid hlp
      clear hown5 hg5 hR2 HT o2 hlp
      go_roundw
      case rel => exact ⟨ps ++ [(g2, c2, ys)], by rw [HLP.out]; omega, ⟨g5, c5, rfl⟩, HP5, R5, hr5.more (by rw [HLP.out]; omega), gg5⟩
      case measure => simp [lenW]; omega
    · cases ps with
      | nil =>
        have hz : ¬ (0 : Int) < (([] : List (Nat × Nat × List Int)).length : Int) := by simp
        have HR0 := Lib.hid hR
        clear hR
        go_wp2
        go_ret
        exact ⟨_, [], rfl, HR0.out.base (by rw [HSS.out]; exact Nat.le_refl _), by simp, (fun _ h => absurd h (by simp)), hr.more (by simp), hg⟩
      | cons p rs =>
        obtain ⟨L, hL⟩ : ∃ L, L = (p :: rs).length := ⟨_, rfl⟩
        have hL0 : (0 : Int) < (L : Int) := by rw [hL]; simp
        have HLL := Lib.hid hL
        rw [← hL] at hr hps hlt ⊢
        have HRW := Lib.hid hR
        have hR' := hR
        rw [← hL] at hR'
        clear hR hL hR'
        go_wp2_with fail
        refine (pick_any rb (k + 1 + 30 * L) 40 wr hr (by omega) (by decide) (by decide)).mono ?_
        rintro e w2 ⟨m, rfl, hm2, _, hr2, hg2⟩
        have gg2 := hg.trans hg2
        have hR2 := HRW.out.ask hg2 hl
        by_cases hm : m = 0
        · have hmb : (m == 0) = true := by simpa using hm
          clear hm
          go_wp2_with fail
          refine (someTable_any rb (k + 1 + 30 * L + 1) w2 hr2 (by omega)).mono ?_
          rintro e w3 ⟨g3, c3, zs, rfl, hz8, o3, hr3, hg3⟩
          have hR3 := hR2.ask hg3 hl
          have gg3 := gg2.trans hg3
          have hS2 : S ≤ w2.heap.size := by rw [HSS.out]; exact gg2.size
          have HN3 := Lib.hid (hR2.notIn (Nat.le_refl _) o3)
          have hc0 : w3.cell? ⟨g, 0, none⟩ = some (slU p) := World.ownsRow.cellAt hR3.row 0 (by simp)
          have hf0 : w3.frozen? ⟨g, 0, none⟩ = false := World.ownsRow.frozenAt hR3.row 0
          have HPUT := Lib.hid (hR3.put (q := (g3, c3, zs)) (o3.base hS2) HN3.out)
          have hSg : S ≤ g := (World.ownsRow.lt hR3.row g rfl).1
          have HR4 := Lib.hid (hr3.set_ (g := g) (i := 0) (v := slU (g3, c3, zs)) (by omega))
          have HG4 := Lib.hid (gb_set (g := g) (i := 0) (v := slU (g3, c3, zs)) gg3 (by rw [← HSS.out]; exact hSg))
          have HQ : Hid (∀ q ∈ ((g3, c3, zs) :: rs), q.2.2.length ≤ 8) := Lib.hid (fun q hq => by
            rcases List.mem_cons.1 hq with rfl | hq
            · exact hz8
            · exact HP.out q (by simp [hq]))
          clear hR2 hR3 o3 hg3
          go_wp2
          go_ret
          exact ⟨_, (g3, c3, zs) :: rs, by rw [HLL.out]; rfl, HPUT.out.base (by rw [HSS.out]; exact Nat.le_refl _), by have := HLL.out; simp at this ⊢; omega, HQ.out, HR4.out.more (by omega), HG4.out⟩
        · have hmb : (m == 0) = false := by simpa using hm
          have HRF := Lib.hid (hR2.base (B' := w.heap.size) (by rw [HSS.out]; exact Nat.le_refl _))
          clear hm hR2
          go_wp2
          go_ret
          exact ⟨_, p :: rs, by rw [HLL.out]; rfl, HRF.out, by rw [← HLL.out]; exact hps, HP.out, hr2.more (by omega), gg2⟩

end Go.Proofs.Ytccbjgajmjcpjaa
