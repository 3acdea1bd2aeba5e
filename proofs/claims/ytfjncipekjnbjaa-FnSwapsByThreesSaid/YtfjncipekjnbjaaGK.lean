/-
  The laws of chapter 6: lists that are at most others; the draw and the walk of FnJoinTables.
-/
import Derived.Test.YtfjncipekjnbjaaKa
import Derived.Test.YtfjncipekjnbjaaJr
import Derived.Test.YtfjncipekjnbjaaVu
namespace Go.Proofs.Ytfjncipekjnbjaa
open Go.RowKit Go.Lib

/-- Each of the one list is at most that of the other. -/
def amB (xs ys : List Int) : Bool := decide (∀ k, k < xs.length → T xs k ≤ T ys k)
theorem amB_iff {xs ys : List Int} : amB xs ys = true ↔ ∀ k, k < xs.length → T xs k ≤ T ys k := by unfold amB; simp
theorem amB_bad {xs ys : List Int} {k : Nat} {x y : Int} (hx : xs[k]? = some x) (hy : ys[k]? = some y) (h : y < x) : amB xs ys = false := by
  rcases hb : amB xs ys with _ | _
  · rfl
  · have hk : k < xs.length := by rcases Nat.lt_or_ge k xs.length with h1 | h1; exact h1; rw [List.getElem?_eq_none h1] at hx; cases hx
    have := amB_iff.1 hb k hk
    rw [T_of hx, T_of hy] at this
    omega
def AmTo (xs ys : List Int) (k : Nat) : Prop := ∀ j, j < k → T xs j ≤ T ys j
theorem AmTo.step {xs ys : List Int} {k : Nat} {x y : Int} (h : AmTo xs ys k) (hx : xs[k]? = some x) (hy : ys[k]? = some y) (hxy : ¬ y < x) : AmTo xs ys (k + 1) := fun j hj => by
  rcases Nat.lt_or_ge j k with h1 | h1
  · exact h j h1
  · obtain rfl : j = k := by omega
    rw [T_of hx, T_of hy]
    omega
theorem AmTo.all {xs ys : List Int} (h : AmTo xs ys xs.length) : amB xs ys = true := amB_iff.2 h

set_option maxHeartbeats 400000 in
theorem atMost_any (A B : Option Addr) (c d n : Nat) (xs ys : List Int) (w : World) (hx : xs.length = n) (hy : ys.length = n) (h1 : Rd w A c xs) (h2 : Rd w B d ys) (hl : n ≤ 1099511627776) :
    Calls Try.prog 36 #[.slice A n c, .slice B n d] w (BoolIs w (amB xs ys)) := by
  subst hx
  have he : ((xs.length : Int) == (xs.length : Int)) = true := by simp
  have HY := Lib.hid hy
  clear hy
  go_enter Try.func36, Try.ntmps36
  go_wp2
  go_loopw [5] (fun i wr => ∃ k n : Nat, k ≤ xs.length ∧ i = .int .i64 k ∧ wr = w.drewN n ∧ Hid (AmTo xs ys k))
    (fun i _ => xs.length - (intOf i).toNat)
  case atStart => exact ⟨0, 0, Nat.zero_le _, rfl, rfl, Lib.hid (fun j hj => absurd hj (by omega))⟩
  case round =>
    obtain ⟨k, n, hk, rfl, rfl, HT⟩ := hrel
    by_cases hlt : k < xs.length
    · obtain ⟨b1, o1, x, rfl, _, hx, hc1⟩ := h1.at_ hlt
      have hlt2 : k < ys.length := by rw [HY.out]; exact hlt
      obtain ⟨b2, o2, y, rfl, _, hy, hc2⟩ := h2.at_ hlt2
      clear hlt2
      by_cases hxy : y < x
      · have hne : decide (y < x) = true := by simpa using hxy
        have HE := Lib.hid (amB_bad hx.out hy.out hxy)
        go_wp2
        go_quiet (fail)
        go_wp2
        go_ret
        exact ⟨by rw [HE.out]; rfl, n + nq, World.drewN_drewN _ _ _⟩
      · have hne : decide (y < x) = false := by simpa using hxy
        have HT' := Lib.hid (HT.out.step hx.out hy.out hxy)
        go_wp2
        go_quiet (fail)
        go_wp2
        go_roundw
        case rel => exact ⟨k + 1, _, by omega, by go_num, rfl, HT'⟩
        case measure => simp [intOf]; omega
    · obtain rfl : k = xs.length := by omega
      have HE := Lib.hid HT.out.all
      go_wp2
      go_ret
      exact ⟨by rw [HE.out]; rfl, _, rfl⟩

/-- What is drawn: two lists of at most eight numbers. -/
def DrawnT2 (w : World) (e : Ending) (w' : World) : Prop :=
  ∃ (g c : Nat) (t : List Int) (g2 c2 : Nat) (u : List Int), e = .returned (.tuple #[.slice (some ⟨g, 0, none⟩) t.length c, .slice (some ⟨g2, 0, none⟩) u.length c2]) ∧ Rd w' (some ⟨g, 0, none⟩) c t ∧ Rd w' (some ⟨g2, 0, none⟩) c2 u ∧ t.length ≤ 8 ∧ t.length ≤ c ∧ u.length ≤ 8 ∧ u.length ≤ c2 ∧ Below w.heap.size w w'

set_option maxHeartbeats 1000000 in
set_option maxRecDepth 100000 in
theorem DrawJoinTables_any (A : Option Addr) (c : Nat) (xs : List Int) (w : World) (h : Came .u8 w A c xs) :
    Calls Try.prog 37 #[.slice A xs.length c] w (DrawnT2 w) := by
  go_enter Try.func37, Try.ntmps37
  go_wp2_with fail
  refine (newReader_any A c xs w h).mono ?_
  rintro e w1 ⟨rb, rfl, hrb, hr1, hb1⟩
  go_wp2_with fail
  refine (pick_any rb 0 2 w1 hr1 (by decide) (by decide) (by decide)).mono ?_
  rintro e w2 ⟨m, rfl, hm0, hm1, hr2, hg2⟩
  have hl2 := hr2.lt
  by_cases hm : m = 0
  · subst hm
    go_wp2_with fail
    refine (oneTable_any rb (0 + 1) w2 hr2 (by decide)).mono ?_
    rintro e w3 ⟨g, c3, t, rfl, ht8, _, o3, hr3, hg3⟩
    have hge := o3.ge
    go_wp2_with fail
    refine (oneTable_any rb (0 + 1 + 3) w3 hr3 (by decide)).mono ?_
    rintro e w4 ⟨g4, c4, u, rfl, hu8, _, o4, hr4, hg4⟩
    have o34 : Own w4 w2.heap.size (some ⟨g, 0, none⟩) c3 t := o3.kept_ (A2 := some ⟨rb, 0, none⟩) hg4 (.inr (fun e => by have h3 : g = rb := Option.some.inj e; omega))
    have HB := Lib.hid (hb1.trans (gb_below ((hg2.trans hg3).trans hg4) hb1.size hrb))
    have HT8 := Lib.hid ht8
    have HU8 := Lib.hid hu8
    clear hg2 hg3 hg4 o3 ht8 hu8
    go_wp2
    go_ret2
    exact ⟨g, c3, t, g4, c4, u, by rw [HT8.out, HU8.out]; rfl, o34.rd, o4.rd, by rw [HT8.out]; omega, o34.cap.1, by rw [HU8.out]; omega, o4.cap.1, HB.out⟩
  · have hmb : (m == 0) = false := by simpa using hm
    clear hm
    go_wp2_with fail
    refine (someTable_any rb (0 + 1) w2 hr2 (by decide)).mono ?_
    rintro e w3 ⟨g, c3, t, rfl, ht8, o3, hr3, hg3⟩
    have hge := o3.ge
    go_wp2_with fail
    refine (someTable_any rb (0 + 1 + 40) w3 hr3 (by decide)).mono ?_
    rintro e w4 ⟨g4, c4, u, rfl, hu8, o4, hr4, hg4⟩
    have o34 : Own w4 w2.heap.size (some ⟨g, 0, none⟩) c3 t := o3.kept_ (A2 := some ⟨rb, 0, none⟩) hg4 (.inr (fun e => by have h3 : g = rb := Option.some.inj e; omega))
    have HB := Lib.hid (hb1.trans (gb_below ((hg2.trans hg3).trans hg4) hb1.size hrb))
    clear hg2 hg3 hg4 o3
    go_wp2
    go_ret2
    exact ⟨g, c3, t, g4, c4, u, rfl, o34.rd, o4.rd, ht8, o34.cap.1, hu8, o4.cap.1, HB.out⟩

theorem joF_some {a b : List Int} (h : (joF a b).length ≠ 0) : VT a ∧ VT b ∧ VT (joF a b) ∧ joF a b = jnT a b := by
  by_cases hh : VT a ∧ VT b ∧ VT (jnT a b)
  · have e := joF_yes hh
    exact ⟨hh.1, hh.2.1, by rw [e]; exact hh.2.2, e⟩
  · rw [joF_no hh] at h; exact absurd rfl h
theorem jnT_comm {a b : List Int} (ha : VT a) (hb : VT b) : jnT b a = jnT a b := by
  rw [jnT_tg ha hb, jnT_tg hb ha]
  exact ext8 (tg_len _ _) (tg_len _ _) (fun x hx => by rw [tg_at _ _ hx, tg_at _ _ hx]; exact jn_comm hx)
theorem joF_comm {a b : List Int} (h : (joF a b).length ≠ 0) : joF b a = joF a b := by
  obtain ⟨ha, hb, hv, e⟩ := joF_some h
  rw [e, ← jnT_comm ha hb]
  refine joF_yes ⟨hb, ha, ?_⟩
  rw [jnT_comm ha hb, ← e]
  exact hv
theorem jnT_val {a b : List Int} (ha : VT a) (hb : VT b) {x : Nat} (hx : x < 8) : T (jnT a b) x = jn (T a) (T b) x := by rw [jnT_tg ha hb, tg_at _ _ hx]
/-- What the law says of a joined table. -/
theorem joF_says {a b : List Int} (h : (joF a b).length ≠ 0) : a.length = 8 ∧ b.length = 8 ∧ (joF a b).length = 8 ∧ vt (joF a b) = true ∧ joF b a = joF a b ∧ amB a (joF a b) = true ∧ amB b (joF a b) = true ∧ (mvB a = true → mvB b = true → mvB (joF a b) = true) := by
  obtain ⟨ha, hb, hv, e⟩ := joF_some h
  have hw : ∀ {x : Nat}, x < 8 → T (joF a b) x = jn (T a) (T b) x := fun hx => by rw [e]; exact jnT_val ha hb hx
  refine ⟨ha.1, hb.1, hv.1, vt_true hv, joF_comm h, amB_iff.2 (fun k hk => ?_), amB_iff.2 (fun k hk => ?_), fun m1 m2 => ?_⟩
  · have hk8 : k < 8 := by rw [ha.1] at hk; exact hk
    rw [hw hk8]
    have := jn_ge (a := T a) (b := T b) (sub_self hk8)
    rw [Nat.sub_self, hb.2.1] at this
    omega
  · have hk8 : k < 8 := by rw [hb.1] at hk; exact hk
    rw [hw hk8]
    have := jn_ge (a := T a) (b := T b) (sub_zero k)
    rw [ha.2.1, Nat.sub_zero] at this
    omega
  · have o1 := (mvB_iff.1 m1).2.mo ha
    have o2 := (mvB_iff.1 m2).2.mo hb
    have := mo_congr (b := T (joF a b)) (fun s hs => (hw hs).symm) (jn_mo o1 o2 (fun s hs => (hb.bd hs).1))
    exact mvB_true hv (this.mv hv)

set_option maxHeartbeats 4000000 in
set_option maxRecDepth 100000 in
theorem fnJoinTables_walk {A : Option Addr} {c : Nat} {xs : List Int} {w : World} (h : Came .u8 w A c xs) :
    Calls Try.prog 8 #[.slice A xs.length c] w fun e w' => e = .returned (.bool true) ∧ Below w.heap.size w w' := by
  by_cases hlen : 1048576 < xs.length
  · go_enter Try.func8, Try.ntmps8
    go_wp2
    go_ret
    exact ⟨rfl, Below.refl _ _⟩
  have hl1 : xs.length ≤ 1048576 := by omega
  have HD := Lib.hid (DrawJoinTables_any A c xs w h)
  clear hlen h
  go_enter Try.func8, Try.ntmps8
  go_wp2_with fail
  refine HD.out.mono ?_
  rintro e w1 ⟨g, c1, a, g2, c2, b, rfl, hA, hB, ha8, hac, hb8, hbc, b1⟩
  have HI := Lib.hid (fun w' (h : Rd w' (some ⟨g, 0, none⟩) c1 a) (h2 : Rd w' (some ⟨g2, 0, none⟩) c2 b) => JoinTables_any (some ⟨g, 0, none⟩) (some ⟨g2, 0, none⟩) c1 c2 a b w' h h2 (by omega) (by omega))
  have HS := Lib.hid (fun w' (h : Rd w' (some ⟨g, 0, none⟩) c1 a) (h2 : Rd w' (some ⟨g2, 0, none⟩) c2 b) => SJoinTables_own (some ⟨g, 0, none⟩) (some ⟨g2, 0, none⟩) c1 c2 a b w' h h2 hac hbc (by omega) (by omega))
  have HR := Lib.hid (fun w' (h : Rd w' (some ⟨g, 0, none⟩) c1 a) (h2 : Rd w' (some ⟨g2, 0, none⟩) c2 b) => JoinTables_any (some ⟨g2, 0, none⟩) (some ⟨g, 0, none⟩) c2 c1 b a w' h2 h (by omega) (by omega))
  have hA1 := Lib.hid (fun w' (h : Rd w' (some ⟨g, 0, none⟩) c1 a) => SwapsByMoves_any (some ⟨g, 0, none⟩) c1 a w' h (by omega))
  have hB1 := Lib.hid (fun w' (h : Rd w' (some ⟨g2, 0, none⟩) c2 b) => SwapsByMoves_any (some ⟨g2, 0, none⟩) c2 b w' h (by omega))
  have hsay := joF_says (a := a) (b := b)
  have hzl := joF_len a b
  obtain ⟨zs, hzs⟩ : ∃ zs, zs = joF a b := ⟨_, rfl⟩
  rw [← hzs] at HI HS hsay hzl
  have HSAY := Lib.hid hsay
  have hzl2 : zs.length ≤ 1099511627776 := by omega
  clear hsay hzs HD hl1
  go_wp2_with fail
  refine (HI.out w1 hA hB).mono ?_
  rintro e w2 ⟨A2, c3, rfl, o2, b2⟩
  have B2 := below_then b1 b2
  have hA2 := hA.below b2
  have hB2 := hB.below b2
  go_wp2_with fail
  refine (HS.out w2 hA2 hB2).mono ?_
  rintro e w3 ⟨A3, c4, rfl, o3, b3⟩
  have B3 := below_then B2 b3
  have hA3 := hA2.below b3
  have hB3 := hB2.below b3
  have r23 := (o2.below b3).rd
  clear o2 hA2 hB2 b2 b3 b1 hA hB
  go_wp2_with fail
  refine (equalU_any A2 A3 c3 c4 zs zs w3 r23 o3.rd hzl2).mono ?_
  rw [eqB_self]
  rintro e w4 ⟨rfl, n4, rfl⟩
  by_cases hz : zs.length = 0
  · have hz0 : ((zs.length : Int) == 0) = true := by simp [hz]
    clear hz
    go_wp2_with fail
    refine (HS.out (w3.drewN n4) (hA3.drewN n4) (hB3.drewN n4)).mono ?_
    rintro e w5 ⟨A5, c5, rfl, o5, b5⟩
    have B5 := below_then (below_drewN' B3 n4) b5
    have r25 := (r23.drewN n4).below b5
    clear o3 r23
    go_wp2_with fail
    refine (equalU_any A2 A5 c3 c5 zs zs w5 r25 o5.rd hzl2).mono ?_
    rw [eqB_self]
    rintro e w6 ⟨rfl, n6, rfl⟩
    go_wp2
    go_ret
    exact ⟨rfl, below_drewN' B5 n6⟩
  · have hz0 : ((zs.length : Int) == 0) = false := beq_eq_false_iff_ne.2 (by omega)
    obtain ⟨ea, eb, ez, hv, hcm, am1, am2, hmv⟩ := HSAY.out hz
    rw [hcm] at HR
    have HV := Lib.hid (fun w' (h : Rd w' A2 c3 zs) => ValidTable_any A2 c3 zs w' h hzl2)
    rw [hv] at HV
    have HM1 := Lib.hid (fun w' (h : Rd w' (some ⟨g, 0, none⟩) c1 a) (h2 : Rd w' A2 c3 zs) => atMost_any (some ⟨g, 0, none⟩) A2 c1 c3 8 a zs w' ea ez h h2 (by omega))
    have HM2 := Lib.hid (fun w' (h : Rd w' (some ⟨g2, 0, none⟩) c2 b) (h2 : Rd w' A2 c3 zs) => atMost_any (some ⟨g2, 0, none⟩) A2 c2 c3 8 b zs w' eb ez h h2 (by omega))
    rw [am1] at HM1
    rw [am2] at HM2
    have HZ := Lib.hid (fun w' (h : Rd w' A2 c3 zs) => SwapsByMoves_any A2 c3 zs w' h hzl2)
    have HMV := Lib.hid hmv
    rw [ea, eb] at HR
    rw [ea] at hA1
    rw [eb] at hB1
    rw [ez] at HV HZ hz0 ⊢
    rw [ea, eb]
    have B4 := below_drewN' B3 n4
    have r24 := r23.drewN n4
    have hA4 := hA3.drewN n4
    have hB4 := hB3.drewN n4
    clear hz hv hcm am1 am2 hmv HSAY HI HS o3 r23 hA3 hB3 B3
    go_wp2_with fail
    refine (HV.out _ r24).mono ?_
    rintro e w5 ⟨rfl, b5⟩
    have B5 := below_then B4 b5
    have r25 := r24.below b5
    have hA5 := hA4.below b5
    have hB5 := hB4.below b5
    clear b5 r24 hA4 hB4 B4
    go_wp2_with fail
    refine (HR.out _ hA5 hB5).mono ?_
    rintro e w6 ⟨A6, c6, rfl, o6, b6⟩
    have B6 := below_then B5 b6
    have r26 := r25.below b6
    have hA6 := hA5.below b6
    have hB6 := hB5.below b6
    clear b6 r25 hA5 hB5 B5
    have HEQ := Lib.hid (equalU_any A6 A2 c6 c3 zs zs w6 o6.rd r26 hzl2)
    rw [eqB_self, ez] at HEQ
    rw [ez]
    go_wp2_with fail
    refine HEQ.out.mono ?_
    rintro e w7 ⟨rfl, n7, rfl⟩
    have r27 := r26.drewN n7
    have hA7 := hA6.drewN n7
    have hB7 := hB6.drewN n7
    have B7 := below_drewN' B6 n7
    clear r26 hA6 hB6 HEQ
    go_wp2_with fail
    refine (HM1.out _ hA7 r27).mono ?_
    rintro e w8 ⟨rfl, n8, rfl⟩
    go_wp2_with fail
    refine (HM2.out _ ?_ ?_).mono ?_
    · exact hB7.drewN n8
    · exact r27.drewN n8
    rintro e w9 ⟨rfl, n9, rfl⟩
    have r29 : Rd (w6.drewN (n7 + n8 + n9)) A2 c3 zs := (r27.drewN n8).drewN n9
    have hA9 : Rd (w6.drewN (n7 + n8 + n9)) (some ⟨g, 0, none⟩) c1 a := (hA7.drewN n8).drewN n9
    have hB9 : Rd (w6.drewN (n7 + n8 + n9)) (some ⟨g2, 0, none⟩) c2 b := (hB7.drewN n8).drewN n9
    have B9 : Below w.heap.size w (w6.drewN (n7 + n8 + n9)) := below_drewN' B6 (n7 + n8 + n9)
    clear r27 hA7 hB7 B7
    rcases hma : mvB a with _ | _
    · rw [hma] at hA1
      clear hma
      go_wp2_with fail
      refine (hA1.out _ hA9).mono ?_
      rintro e w10 ⟨rfl, b10⟩
      go_wp2
      go_ret
      exact ⟨rfl, below_then B9 b10⟩
    · rw [hma] at hA1
      go_wp2_with fail
      refine (hA1.out _ hA9).mono ?_
      rintro e w10 ⟨rfl, b10⟩
      have B10 := below_then B9 b10
      have r210 := r29.below b10
      have hB10 := hB9.below b10
      rcases hmb : mvB b with _ | _
      · rw [hmb] at hB1
        clear hma hmb
        go_wp2_with fail
        refine (hB1.out _ hB10).mono ?_
        rintro e w11 ⟨rfl, b11⟩
        go_wp2
        go_ret
        exact ⟨rfl, below_then B10 b11⟩
      · rw [hmb] at hB1
        have hmz := HMV.out hma hmb
        rw [hmz] at HZ
        clear hma hmb hmz
        go_wp2_with fail
        refine (hB1.out _ hB10).mono ?_
        rintro e w11 ⟨rfl, b11⟩
        go_wp2_with fail
        refine (HZ.out _ (r210.below b11)).mono ?_
        rintro e w12 ⟨rfl, b12⟩
        go_wp2
        go_ret
        exact ⟨rfl, below_then (below_then B10 b11) b12⟩

end Go.Proofs.Ytfjncipekjnbjaa

/-
  The laws of chapter 6: prices drawn, the draws of a table and prices, lists in which a number is, and that rise.
-/
namespace Go.Proofs.Ytfjncipekjnbjaa
open Go.RowKit Go.Lib

/-- What is drawn: prices, most often. -/
def PrsIs (w : World) (rb k : Nat) (e : Ending) (w' : World) : Prop :=
  ∃ (g off c : Nat) (p : List Int), e = .returned (.slice (some ⟨g, off, none⟩) p.length c) ∧ (p.length = 3 ∨ p.length = 2) ∧ (∀ x ∈ p, -1 ≤ x ∧ x ≤ 41) ∧ Rd w' (some ⟨g, off, none⟩) c p ∧ p.length ≤ c ∧ w.heap.size ≤ g ∧ g < w'.heap.size ∧ Rdr w' rb k ∧ w.grownBy w' (some rb)

theorem mem3 {x y z : Int} {P : Int → Prop} (hx : P x) (hy : P y) (hz : P z) : ∀ v ∈ [x, y, z], P v := by
  intro v hv
  simp only [List.mem_cons, List.not_mem_nil, or_false] at hv
  rcases hv with rfl | rfl | rfl <;> assumption
theorem mem2 {y z : Int} {P : Int → Prop} (hy : P y) (hz : P z) : ∀ v ∈ [y, z], P v := by
  intro v hv
  simp only [List.mem_cons, List.not_mem_nil, or_false] at hv
  rcases hv with rfl | rfl <;> assumption

set_option maxHeartbeats 1600000 in
set_option maxRecDepth 100000 in
theorem somePrices_any (rb k : Nat) (w : World) (h : Rdr w rb k) (hk : k + 50 ≤ 1000000) :
    Calls Try.prog 76 #[.pointer (some ⟨rb, 0, none⟩)] w (PrsIs w rb (k + 6)) := by
  have hl := h.lt
  go_enter Try.func76, Try.ntmps76
  go_wp2_with fail
  refine (pick_any rb k 8 w h (by omega) (by decide) (by decide)).mono ?_
  rintro e w1 ⟨x, rfl, hx0, hx1, hr1, hg1⟩
  go_wp2_with fail
  refine (pick_any rb (k + 1) 8 w1 hr1 (by omega) (by decide) (by decide)).mono ?_
  rintro e w2 ⟨y, rfl, hy0, hy1, hr2, hg2⟩
  have gg2 := hg1.trans hg2
  clear hg1 hg2
  go_wp2_with fail
  refine (pick_any rb (k + 1 + 1) 8 w2 hr2 (by omega) (by decide) (by decide)).mono ?_
  rintro e w3 ⟨z, rfl, hz0, hz1, hr3, hg3⟩
  have gg3 := gg2.trans hg3
  have hl3 := hr3.lt
  have HX : Hid (-1 ≤ x ∧ x ≤ 41) := Lib.hid (by have := pick_lt hx0 hx1 (by decide); omega)
  have HY : Hid (-1 ≤ y ∧ y ≤ 41) := Lib.hid (by have := pick_lt hy0 hy1 (by decide); omega)
  have HZ : Hid (-1 ≤ z ∧ z ≤ 41) := Lib.hid (by have := pick_lt hz0 hz1 (by decide); omega)
  clear gg2 hg3 hx0 hx1 hy0 hy1 hz0 hz1
  have hr4 := hr3.alloc (.cells #[.int .i64 x, .int .i64 y, .int .i64 z] 3)
  have o4 : Own (w3.alloc (.cells #[.int .i64 x, .int .i64 y, .int .i64 z] 3)) w3.heap.size (some ⟨w3.heap.size, 0, none⟩) 3 [x, y, z] := own_lit w3 [x, y, z] (by simp)
  have gg4 := gb_alloc gg3 (.cells #[.int .i64 x, .int .i64 y, .int .i64 z] 3)
  have hsz := gg3.size
  obtain ⟨w4, hw4⟩ : ∃ w4, w4 = w3.alloc (.cells #[.int .i64 x, .int .i64 y, .int .i64 z] 3) := ⟨_, rfl⟩
  have hs4 : w4.heap.size = w3.heap.size + 1 := by rw [hw4]; simp
  rw [← hw4] at hr4 o4 gg4
  have HW := Lib.hid hw4
  go_wp2_with fail
  rw [← HW.out]
  clear hw4 gg3
  refine (pick_any rb (k + 1 + 1 + 1) 30 w4 hr4 (by omega) (by decide) (by decide)).mono ?_
  rintro e w5 ⟨m, rfl, hm0, hm1, hr5, hg5⟩
  have o5 : Own w5 w3.heap.size (some ⟨w3.heap.size, 0, none⟩) 3 [x, y, z] := o4.kept_ (A2 := some ⟨rb, 0, none⟩) hg5 (.inr (fun e => by have h3 : w3.heap.size = rb := Option.some.inj e; omega))
  have gg5 := gg4.trans hg5
  have hs5 := hg5.size
  have hlt5 : w3.heap.size < w5.heap.size := by omega
  clear hg5 gg4 o4 hr4 HW
  by_cases h0 : m = 0
  · subst h0
    go_wp2_with fail
    refine (one_new rb (k + 1 + 1 + 1 + 1) 3 [-1, 40, 41] _ w5 rfl rfl hr5 (by decide) (by decide) (by omega)).mono ?_
    rintro e w6 ⟨v, hv, rfl, hr6, hg6⟩
    have HV : Hid (-1 ≤ v ∧ v ≤ 41) := Lib.hid (by simp only [List.mem_cons, List.not_mem_nil, or_false] at hv; omega)
    have o6 : Own w6 w3.heap.size (some ⟨w3.heap.size, 0, none⟩) 3 [x, y, z] := o5.kept_ (A2 := some ⟨rb, 0, none⟩) hg6 (.inr (fun e => by have h3 : w3.heap.size = rb := Option.some.inj e; omega))
    have gg6 := gg5.trans hg6
    have hs6 := hg6.size
    have hcell := o6.cell (show [x, y, z][0]? = some x from rfl)
    have hfree := o6.free 0
    have HO := Lib.hid (o6.set_ 0 v)
    have HR := Lib.hid (hr6.set_ (g := w3.heap.size) (i := 0) (v := .int .i64 v) (by omega))
    have HG := Lib.hid (gb_set (g := w3.heap.size) (i := 0) (v := .int .i64 v) gg6 hsz)
    have HLT : Hid (w3.heap.size < (w6.setCell ⟨w3.heap.size, 0, none⟩ (.int .i64 v)).heap.size) := Lib.hid (by simp; omega)
    clear hg6 o5 hv hs5
    go_wp2
    go_ret
    exact ⟨w3.heap.size, 0, 3, [v, y, z], rfl, .inl rfl, mem3 HV.out HY.out HZ.out, HO.out.rd, by simp, hsz, HLT.out, HR.out.more (by omega), HG.out⟩
  by_cases h1 : m = 1
  · subst h1
    have hrd : Rd w5 (some ⟨w3.heap.size, 0 + 1, none⟩) 2 [y, z] := Rd.drop_ o5.rd 1
    go_wp2
    go_ret
    exact ⟨w3.heap.size, 1, 2, [y, z], rfl, .inr rfl, mem2 HY.out HZ.out, hrd, by simp, hsz, hlt5, hr5.more (by omega), gg5⟩
  · have q0 : (m == 0) = false := by simpa using h0
    have q1 : (m == 1) = false := by simpa using h1
    clear h0 h1
    go_wp2
    go_ret
    exact ⟨w3.heap.size, 0, 3, [x, y, z], rfl, .inl rfl, mem3 HX.out HY.out HZ.out, o5.rd, by simp, hsz, hlt5, hr5.more (by omega), gg5⟩

/-- What is drawn: a list of at most eight numbers, and prices. -/
def DrawnTP (w : World) (e : Ending) (w' : World) : Prop :=
  ∃ (g c : Nat) (t : List Int) (g2 off c2 : Nat) (p : List Int), e = .returned (.tuple #[.slice (some ⟨g, 0, none⟩) t.length c, .slice (some ⟨g2, off, none⟩) p.length c2]) ∧ Rd w' (some ⟨g, 0, none⟩) c t ∧ Rd w' (some ⟨g2, off, none⟩) c2 p ∧ t.length ≤ 8 ∧ t.length ≤ c ∧
    (p.length = 3 ∨ p.length = 2) ∧ (∀ x ∈ p, -1 ≤ x ∧ x ≤ 41) ∧ p.length ≤ c2 ∧ Below w.heap.size w w'

set_option maxHeartbeats 1000000 in
set_option maxRecDepth 100000 in
theorem DrawSurplusAt_any (A : Option Addr) (c : Nat) (xs : List Int) (w : World) (h : Came .u8 w A c xs) :
    Calls Try.prog 20 #[.slice A xs.length c] w (DrawnTP w) := by
  go_enter Try.func20, Try.ntmps20
  go_wp2_with fail
  refine (newReader_any A c xs w h).mono ?_
  rintro e w1 ⟨rb, rfl, hrb, hr1, hb1⟩
  go_wp2_with fail
  refine (someTable_any rb 0 w1 hr1 (by decide)).mono ?_
  rintro e w2 ⟨g, c2, t, rfl, ht, o2, hr2, hg2⟩
  have hge := o2.ge
  have hl1 := hr1.lt
  go_wp2_with fail
  refine (somePrices_any rb (0 + 40) w2 hr2 (by decide)).mono ?_
  rintro e w3 ⟨g3, off, c3, p, rfl, hp, hpb, r3, hc3, hg3, _, _, hgg3⟩
  have o23 : Own w3 w1.heap.size (some ⟨g, 0, none⟩) c2 t := o2.kept_ (A2 := some ⟨rb, 0, none⟩) hgg3 (.inr (fun e => by have h3 : g = rb := Option.some.inj e; omega))
  have HB := Lib.hid (hb1.trans (gb_below (hg2.trans hgg3) hb1.size hrb))
  have HP := Lib.hid hpb
  clear hg2 hgg3 o2 hpb
  go_wp2
  go_ret2
  exact ⟨g, c2, t, g3, off, c3, p, rfl, o23.rd, r3, ht, o23.cap.1, hp, HP.out, hc3, HB.out⟩

set_option maxHeartbeats 1000000 in
set_option maxRecDepth 100000 in
theorem DrawDemandAt_any (A : Option Addr) (c : Nat) (xs : List Int) (w : World) (h : Came .u8 w A c xs) :
    Calls Try.prog 23 #[.slice A xs.length c] w (DrawnTP w) := by
  go_enter Try.func23, Try.ntmps23
  go_wp2_with fail
  refine (newReader_any A c xs w h).mono ?_
  rintro e w1 ⟨rb, rfl, hrb, hr1, hb1⟩
  go_wp2_with fail
  refine (someTable_any rb 0 w1 hr1 (by decide)).mono ?_
  rintro e w2 ⟨g, c2, t, rfl, ht, o2, hr2, hg2⟩
  have hge := o2.ge
  have hl1 := hr1.lt
  go_wp2_with fail
  refine (somePrices_any rb (0 + 40) w2 hr2 (by decide)).mono ?_
  rintro e w3 ⟨g3, off, c3, p, rfl, hp, hpb, r3, hc3, hg3, _, _, hgg3⟩
  have o23 : Own w3 w1.heap.size (some ⟨g, 0, none⟩) c2 t := o2.kept_ (A2 := some ⟨rb, 0, none⟩) hgg3 (.inr (fun e => by have h3 : g = rb := Option.some.inj e; omega))
  have HB := Lib.hid (hb1.trans (gb_below (hg2.trans hgg3) hb1.size hrb))
  have HP := Lib.hid hpb
  clear hg2 hgg3 o2 hpb
  go_wp2
  go_ret2
  exact ⟨g, c2, t, g3, off, c3, p, rfl, o23.rd, r3, ht, o23.cap.1, hp, HP.out, hc3, HB.out⟩

end Go.Proofs.Ytfjncipekjnbjaa

/-
  The laws of chapter 6: the walks of FnSurplusAt and FnDemandAt.
-/
namespace Go.Proofs.Ytfjncipekjnbjaa
open Go.RowKit Go.Lib

theorem eight_all {t : List Int} (h : t.length ≤ 8) : t.length ≤ 1099511627776 := by omega

/-- Prices that are 1 more. -/
def upL (p : List Int) : List Int := p.map (fun x => x + 1)
theorem upL_len (p : List Int) : (upL p).length = p.length := by simp [upL]
theorem upL_snoc {p : List Int} {k : Nat} {x : Int} (h : p[k]? = some x) : (upL p).take (k + 1) = (upL p).take k ++ [x + 1] := by
  rw [List.take_add_one, show (upL p)[k]? = some (x + 1) by unfold upL; rw [List.getElem?_map, h]; rfl]
  rfl
theorem upL_T {p : List Int} {k : Nat} (h : k < p.length) : T (upL p) k = T p k + 1 := by
  have hx := T_at h
  exact T_of (by unfold upL; rw [List.getElem?_map, hx]; rfl)
theorem suB_yes {t p : List Int} (h : ¬ suB t p < 0) : VT t ∧ VP p ∧ suB t p = su t p := by
  unfold suB at h ⊢
  rcases hv : vt t && vp p with _ | _
  · rw [hv] at h; simp at h
  · obtain ⟨h1, h2⟩ := Bool.and_eq_true_iff.1 hv
    exact ⟨vt_iff.1 h1, vp_iff.1 h2, rfl⟩
theorem su_top {t p : List Int} (hv : VT t) (hp : VP p) : su t p ≤ T t 7 := by
  obtain ⟨s, hs, h⟩ := su_got (p := p) hv.2.1
  have a := hv.all
  have b := hp.bd hs
  rw [h]
  unfold lf
  rcases nat8 hs with rfl | rfl | rfl | rfl | rfl | rfl | rfl | rfl <;> omega
theorem su_up {t p : List Int} (hv : VT t) (hp : VP p) : su t (upL p) ≤ su t p ∧ su t p - 3 ≤ su t (upL p) := by
  have h3 := hp.1
  have u0 := upL_T (p := p) (k := 0) (by omega)
  have u1 := upL_T (p := p) (k := 1) (by omega)
  have u2 := upL_T (p := p) (k := 2) (by omega)
  have v := pr_vals p
  have v' := pr_vals (upL p)
  have key : ∀ s, s < 8 → lf t (upL p) s ≤ lf t p s ∧ lf t p s - 3 ≤ lf t (upL p) s := fun s hs => by
    unfold lf
    rcases nat8 hs with rfl | rfl | rfl | rfl | rfl | rfl | rfl | rfl <;> omega
  obtain ⟨s, hs, h⟩ := su_got (p := upL p) hv.2.1
  obtain ⟨r, hr, h'⟩ := su_got (p := p) hv.2.1
  have a := su_le (t := t) (p := p) hs
  have b := su_le (t := t) (p := upL p) hr
  have k1 := key s hs
  have k2 := key r hr
  omega
/-- What the law says of the surplus. -/
theorem su_says {t p : List Int} (h : ¬ suB t p < 0) : t.length = 8 ∧ p.length = 3 ∧ suB t p ≤ T t 7 ∧ (suB t (upL p) < 0 ∨ (suB t (upL p) ≤ suB t p ∧ suB t p - 3 ≤ suB t (upL p))) ∧ -1 ≤ suB t (upL p) ∧ suB t p ≤ 30 := by
  obtain ⟨hv, hp, e⟩ := suB_yes h
  have a := hv.bd (show 7 < 8 by omega)
  have b := su_top hv hp
  have ge : -1 ≤ suB t (upL p) := by
    unfold suB
    split
    · have := su_ge t (upL p); omega
    · omega
  refine ⟨hv.1, hp.1, by rw [e]; exact b, ?_, ge, by omega⟩
  by_cases h2 : suB t (upL p) < 0
  · exact .inl h2
  · obtain ⟨_, _, e2⟩ := suB_yes h2
    have := su_up hv hp
    exact .inr (by omega)

set_option maxHeartbeats 4000000 in
set_option maxRecDepth 100000 in
theorem fnSurplusAt_walk {A : Option Addr} {c : Nat} {xs : List Int} {w : World} (h : Came .u8 w A c xs) :
    Calls Try.prog 4 #[.slice A xs.length c] w fun e w' => e = .returned (.bool true) ∧ Below w.heap.size w w' := by
  by_cases hlen : 1048576 < xs.length
  · go_enter Try.func4, Try.ntmps4
    go_wp2
    go_ret
    exact ⟨rfl, Below.refl _ _⟩
  have hl1 : xs.length ≤ 1048576 := by omega
  have HD := Lib.hid (DrawSurplusAt_any A c xs w h)
  clear hlen h
  go_enter Try.func4, Try.ntmps4
  go_wp2_with fail
  refine HD.out.mono ?_
  rintro e w1 ⟨g, c1, t, g2, off, c2, p, rfl, hA, hB, ht8, htc, hp3, hpb, hpc, b1⟩
  have hpl : p.length ≤ 1099511627776 := by omega
  have hI := fun w' (h : Rd w' (some ⟨g, 0, none⟩) c1 t) (h2 : Rd w' (some ⟨g2, off, none⟩) c2 p) => SurplusAt_any (some ⟨g, 0, none⟩) (some ⟨g2, off, none⟩) c1 c2 t p w' h h2 (by omega)
  have hS := fun w' (h : Rd w' (some ⟨g, 0, none⟩) c1 t) (h2 : Rd w' (some ⟨g2, off, none⟩) c2 p) => SSurplusAt_any (some ⟨g, 0, none⟩) (some ⟨g2, off, none⟩) c1 c2 t p w' h h2 (by omega) hpl
  have hsay := su_says (t := t) (p := p)
  have HQ := Lib.hid (fun w' (A5 : Option Addr) (c5 : Nat) (h : Rd w' (some ⟨g, 0, none⟩) c1 t) (h2 : Rd w' A5 c5 (upL p)) => SurplusAt_any (some ⟨g, 0, none⟩) A5 c1 c5 t (upL p) w' h h2 (by omega))
  obtain ⟨v, hv⟩ : ∃ v, v = suB t p := ⟨_, rfl⟩
  rw [← hv] at hI hS hsay
  have HI := Lib.hid hI
  have HS := Lib.hid hS
  have HSAY := Lib.hid hsay
  have HPB := Lib.hid hpb
  have hvv : (v != v) = false := by simp
  clear hI hS hsay hv hpb HD hl1
  go_wp2_with fail
  refine (HI.out w1 hA hB).mono ?_
  rintro e w2 ⟨rfl, b2⟩
  have B2 := below_then b1 b2
  have hA2 := hA.below b2
  have hB2 := hB.below b2
  go_wp2_with fail
  refine (HS.out w2 hA2 hB2).mono ?_
  rintro e w3 ⟨rfl, n3, rfl⟩
  have B3 := below_drewN' B2 n3
  have hA3 := hA2.drewN n3
  have hB3 := hB2.drewN n3
  clear hA hB hA2 hB2 b1 b2
  by_cases hneg : v < 0
  · go_wp2_with fail
    refine (HS.out _ hA3 hB3).mono ?_
    rintro e w4 ⟨rfl, n4, rfl⟩
    go_wp2
    go_ret
    exact ⟨rfl, below_drewN' B2 (n3 + n4)⟩
  · obtain ⟨ht, hp, htop, hmore, hge, hv30⟩ := HSAY.out (by omega)
    obtain ⟨b7, o7, x7, hA7, _, hx7, hc7⟩ := hA3.at_ (k := 7) (by omega)
    obtain ⟨u, hu⟩ : ∃ u, u = suB t (upL p) := ⟨_, rfl⟩
    rw [← hu] at HQ hmore hge
    rw [T_of hx7.out] at htop
    have HX7 := Lib.hid (T_of hx7.out)
    rw [ht, hp]
    rw [ht] at HQ
    rw [upL_len, hp] at HQ
    have HP3 := Lib.hid hp
    have HT8 := Lib.hid ht
    have HMORE := Lib.hid hmore
    have HTOP := Lib.hid htop
    clear hmore hu hx7 htop ht hp HI HS hp3 HSAY hc7 hA7
    obtain ⟨w4, hw4⟩ : ∃ w4, w4 = w2.drewN n3 := ⟨_, rfl⟩
    rw [← hw4] at hA3 hB3 B3 ⊢
    clear hw4
    have HE0 : Hid (Own (w4.alloc (.cells #[] 3)) w4.heap.size (some ⟨w4.heap.size, 0, none⟩) 0 ((upL p).take 0)) := Lib.hid (own_empty w4)
    have hb0 : Below w4.heap.size w4 (w4.alloc (.cells #[] 3)) := (Below.refl _ w4).alloc (Nat.le_refl _) _
    go_wp2_with fail
    go_loopw [6, 7] (fun o i wr => ∃ (k : Nat) (A1 : Option Addr) (c1 : Nat), k ≤ 3 ∧ o = .slice A1 k c1 ∧ i = .int .i64 (k : Int) ∧ Hid (Own wr w4.heap.size A1 c1 ((upL p).take k)) ∧ Below w4.heap.size w4 wr) (fun _ i _ => 3 - (intOf i).toNat)
    case atStart => exact ⟨0, _, 0, by omega, rfl, rfl, HE0, hb0⟩
    case round =>
      obtain ⟨k, A1, c1', hk, rfl, rfl, HO, hb⟩ := hrel
      by_cases hlt : k < 3
      · obtain ⟨b, of2, x, hA5, _, hx, hcx⟩ := (hB3.below hb).at_ (k := k) (by rw [HP3.out]; exact hlt)
        have hxb := HPB.out x (List.mem_of_getElem? hx.out)
        have HT := Lib.hid (upL_snoc hx.out)
        have HN : Hid (((upL p).take k).length = k) := Lib.hid (by rw [List.length_take, upL_len, HP3.out]; omega)
        have HOL := Lib.hid (own_lit wr [x + 1] (by simp))
        have HOA : Hid (Own (wr.alloc (.cells #[.int .i64 (x + 1)] 3)) w4.heap.size A1 c1' ((upL p).take k)) := Lib.hid (World.ownsRow.alloc HO.out _)
        have HBA : Hid (Below w4.heap.size w4 (wr.alloc (.cells #[.int .i64 (x + 1)] 3))) := Lib.hid (hb.alloc hb.size _)
        have e1 : IntKind.i64.wrap (x + 1) = x + 1 := IntWalk.i64_in _ (by omega)
        have hk3 : (k : Int) < 3 := by omega
        have hk0 : (0 : Int) ≤ (k : Int) := by omega
        have hk1 : k + 1 ≤ 3 := hlt
        injection hA5 with hA5
        injection hA5 with hg5 ho5
        subst hg5 ho5
        clear hx hxb hlt HO
        go_wp2_with (at_builtin; refine wpList_append_any rfl _ _ 24 Try.underlying24 rfl w4.heap.size A1 c1' ((upL p).take k) k HN.out rfl HOA.out _ _ [x + 1] 1 rfl rfl HOL.out.rd (by omega) HBA.out.size ?_; intro A6 c6 w6 o6 g6)
        have B6 := Own.grownBelow0 HBA.out HOA.out HBA.out.size g6
        have HO6 : Hid (Own w6 w4.heap.size A6 c6 ((upL p).take (k + 1))) := Lib.hid (by rw [HT.out]; exact o6)
        go_wp2
        go_roundw
        case rel => exact ⟨k + 1, A6, c6, hk1, rfl, by go_num, HO6, B6⟩
        case measure => simp [intOf]; omega
      · obtain rfl : k = 3 := by omega
        have HOQ : Hid (Own wr w4.heap.size A1 c1' (upL p)) := Lib.hid (by have := HO.out; rwa [List.take_of_length_le (by rw [upL_len, HP3.out]; omega)] at this)
        have hAr := hA3.below hb
        have BB := below_then B3 hb
        clear HO hlt hb
        go_wp2_with fail
        refine (HQ.out _ A1 c1' hAr HOQ.out.rd).mono ?_
        rintro e w7 ⟨rfl, b7'⟩
        have hA7 := hAr.below b7'
        obtain ⟨b8, o8, x8, hA8, _, hx8, hc8⟩ := hA7.at_ (k := 7) (by rw [HT8.out]; omega)
        injection hA8 with hA8
        injection hA8 with hg8 ho8
        subst hg8 ho8
        have hx88 : x8 = x7 := by
          have h1 := T_of hx8.out
          rw [← h1]
          exact HX7.out
        subst hx88
        have htop := HTOP.out
        have B9 := below_then BB b7'
        have e1 : IntKind.i64.wrap (v - 3) = v - 3 := IntWalk.i64_in _ (by omega)
        have e2 : IntKind.i64.wrap (8 - 1) = 7 := rfl
        rcases HMORE.out with hm | ⟨hm1, hm2⟩
        · clear hx8 hA7
          go_wp2
          go_ret
          exact ⟨rfl, B9⟩
        · by_cases hu0 : u < 0
          · clear hx8 hA7 hm1 hm2
            go_wp2
            go_ret
            exact ⟨rfl, B9⟩
          · clear hx8 hA7
            go_wp2
            go_ret
            exact ⟨rfl, B9⟩

end Go.Proofs.Ytfjncipekjnbjaa
