/-
  Chapter 2: the contracts of what reckons with fractions, of the program and of the model.
-/
import Derived.Test.YtoipjhdnmiomeaaGE
import Derived.Deep.RegionWith
import Derived.StillTailTactics
import Derived.Test.YtoipjhdnmiomeaaGB
namespace Go.Proofs.Ytoipjhdnmiomeaa
open Go.RowKit

/-- The value of a fraction. -/
def frV (n d : Int) : Value := .agg #[.int .i64 n, .int .i64 d]

theorem gcd_step (a b : Nat) : Nat.gcd b (a % b) = Nat.gcd a b := by rw [Nat.gcd_comm a b, Nat.gcd_rec b a, Nat.gcd_comm]

set_option maxHeartbeats 400000 in
theorem commonFactor_any (a b : Nat) (w : World) (ha : a ≤ 4611686018427387903) (hb : b ≤ 4611686018427387903) :
    Calls Try.prog 84 #[.int .i64 a, .int .i64 b] w fun e w' => e = .returned (.int .i64 (Nat.gcd a b : Nat)) ∧ Below w.heap.size w w' := by
  go_enter Try.func84, Try.ntmps84
  go_wp2
  go_loopw [0, 1] (fun s i wr => ∃ x y : Nat, s = .int .i64 x ∧ i = .int .i64 y ∧ x ≤ 4611686018427387903 ∧ y ≤ 4611686018427387903 ∧ Hid (Nat.gcd x y = Nat.gcd a b) ∧ Below w.heap.size w wr) (fun _ i _ => (intOf i).toNat)
  case atStart => exact ⟨a, b, rfl, rfl, ha, hb, Lib.hid rfl, Below.refl _ _⟩
  case round =>
    obtain ⟨x, y, rfl, rfl, hx, hy, HG, hbel⟩ := hrel
    by_cases h0 : y = 0
    · subst h0
      have HE := Lib.hid (show x = Nat.gcd a b by rw [← HG.out]; simp)
      go_wp2
      go_ret
      exact ⟨by rw [HE.out]; rfl, hbel⟩
    · have h1 : (1 : Int) ≤ y := by omega
      have h2 : ((y : Int) != 0) = true := by simp; omega
      have hm : (x : Int) % (y : Int) = ((x % y : Nat) : Int) := by omega
      have hm2 : x % y < y := Nat.mod_lt _ (by omega)
      have HG2 := Lib.hid (show Nat.gcd y (x % y) = Nat.gcd a b by rw [gcd_step, HG.out])
      go_wp2
      go_quiet (fail)
      go_wp2
      go_roundw
      case rel => exact ⟨y, x % y, rfl, by go_num, by omega, by omega, HG2, below_drewN' hbel _⟩
      case measure => simp [intOf]; omega

set_option maxHeartbeats 400000 in
theorem gcd_any (a b : Int) (w : World) (ha0 : -4611686018427387903 ≤ a) (ha : a ≤ 4611686018427387903) (hb0 : -4611686018427387903 ≤ b) (hb : b ≤ 4611686018427387903) :
    Calls Try.prog 93 #[.int .i64 a, .int .i64 b] w fun e w' => e = .returned (.int .i64 (Nat.gcd a.natAbs b.natAbs : Nat)) ∧ Below w.heap.size w w' := by
  go_enter Try.func93, Try.ntmps93
  go_wp2
  go_loopw [0, 1] (fun s i wr => ∃ x y : Int, s = .int .i64 x ∧ i = .int .i64 y ∧ -4611686018427387903 ≤ x ∧ x ≤ 4611686018427387903 ∧ -4611686018427387903 ≤ y ∧ y ≤ 4611686018427387903 ∧ Hid (Nat.gcd x.natAbs y.natAbs = Nat.gcd a.natAbs b.natAbs) ∧ Below w.heap.size w wr) (fun _ i _ => (intOf i).natAbs)
  case atStart => exact ⟨a, b, rfl, rfl, ha0, ha, hb0, hb, Lib.hid rfl, Below.refl _ _⟩
  case round =>
    obtain ⟨x, y, rfl, rfl, hx0, hx, hy0, hy, HG, hbel⟩ := hrel
    by_cases h0 : y = 0
    · subst h0
      by_cases hs : 0 ≤ x
      · have HE := Lib.hid (show x = ((Nat.gcd a.natAbs b.natAbs : Nat) : Int) by rw [← HG.out]; simp; omega)
        have hm : max x (-x) = x := by omega
        go_wp2
        go_ret
        exact ⟨by rw [← HE.out]; simp; try omega, hbel⟩
      · have HE := Lib.hid (show -x = ((Nat.gcd a.natAbs b.natAbs : Nat) : Int) by rw [← HG.out]; simp; omega)
        have hm : max x (-x) = -x := by omega
        go_wp2
        go_ret
        exact ⟨by rw [← HE.out]; simp; try omega, hbel⟩
    · have h2 : (y != 0) = true := by simpa using h0
      have hm2 : (x.tmod y).natAbs < y.natAbs := by rw [Int.natAbs_tmod]; exact Nat.mod_lt _ (by omega)
      have HG2 := Lib.hid (show Nat.gcd y.natAbs (x.tmod y).natAbs = Nat.gcd a.natAbs b.natAbs by rw [Int.natAbs_tmod, gcd_step, HG.out])
      go_wp2
      go_roundw
      case rel => exact ⟨y, x.tmod y, rfl, by go_num, by omega, by omega, by omega, by omega, HG2, hbel⟩
      case measure => simp only [intOf]; first | exact hm2 | (simp; exact hm2)

set_option maxHeartbeats 400000 in
theorem divisor_any (a b : Int) (w : World) (ha0 : -4611686018427387903 ≤ a) (ha : a ≤ 4611686018427387903) (hb0 : -4611686018427387903 ≤ b) (hb : b ≤ 4611686018427387903) :
    Calls Try.prog 28 #[.int .i64 a, .int .i64 b] w fun e w' => e = .returned (.int .i64 (Nat.gcd a.natAbs b.natAbs : Nat)) ∧ Below w.heap.size w w' := by
  go_enter Try.func28, Try.ntmps28
  go_wp2
  go_loopw [0, 1] (fun s i wr => ∃ x y : Int, s = .int .i64 x ∧ i = .int .i64 y ∧ -4611686018427387903 ≤ x ∧ x ≤ 4611686018427387903 ∧ -4611686018427387903 ≤ y ∧ y ≤ 4611686018427387903 ∧ Hid (Nat.gcd x.natAbs y.natAbs = Nat.gcd a.natAbs b.natAbs) ∧ Below w.heap.size w wr) (fun _ i _ => (intOf i).natAbs)
  case atStart => exact ⟨a, b, rfl, rfl, ha0, ha, hb0, hb, Lib.hid rfl, Below.refl _ _⟩
  case round =>
    obtain ⟨x, y, rfl, rfl, hx0, hx, hy0, hy, HG, hbel⟩ := hrel
    by_cases h0 : y = 0
    · subst h0
      by_cases hs : 0 ≤ x
      · have HE := Lib.hid (show x = ((Nat.gcd a.natAbs b.natAbs : Nat) : Int) by rw [← HG.out]; simp; omega)
        have hm : max x (-x) = x := by omega
        go_wp2
        go_ret
        exact ⟨by rw [← HE.out]; simp; try omega, hbel⟩
      · have HE := Lib.hid (show -x = ((Nat.gcd a.natAbs b.natAbs : Nat) : Int) by rw [← HG.out]; simp; omega)
        have hm : max x (-x) = -x := by omega
        go_wp2
        go_ret
        exact ⟨by rw [← HE.out]; simp; try omega, hbel⟩
    · have h2 : (y != 0) = true := by simpa using h0
      have hm2 : (x.tmod y).natAbs < y.natAbs := by rw [Int.natAbs_tmod]; exact Nat.mod_lt _ (by omega)
      have HG2 := Lib.hid (show Nat.gcd y.natAbs (x.tmod y).natAbs = Nat.gcd a.natAbs b.natAbs by rw [Int.natAbs_tmod, gcd_step, HG.out])
      go_wp2
      go_roundw
      case rel => exact ⟨y, x.tmod y, rfl, by go_num, by omega, by omega, by omega, by omega, HG2, hbel⟩
      case measure => simp only [intOf]; first | exact hm2 | (simp; exact hm2)
end Go.Proofs.Ytoipjhdnmiomeaa

/-
  Chapter 2: the contracts of what reckons with fractions, of the program, of the model and of the laws.
-/
namespace Go.Proofs.Ytoipjhdnmiomeaa
open Go.RowKit

theorem pair_in {a w' : World} {B : Nat} {t : Nat} {x y : Value} (hb : Below (a.alloc (.cells #[x, y] t)).heap.size (a.alloc (.cells #[x, y] t)) w') (hB : B = a.heap.size) :
    w'.heap[B]? = some (.cells #[x, y] t (0, 0)) := by
  subst hB
  refine (hb.block _ (by simp)).trans ?_
  unfold World.alloc
  simp
theorem pair_facts {w' : World} {B t : Nat} {x y : Value} (h : w'.heap[B]? = some (.cells #[x, y] t (0, 0))) :
    w'.cell? ⟨B, 0, none⟩ = some x ∧ w'.cell? ⟨B, 1, none⟩ = some y ∧ w'.frozen? ⟨B, 0, none⟩ = false ∧ w'.frozen? ⟨B, 1, none⟩ = false := by
  simp [World.cell?, World.frozen?, h]
theorem pair_set {w' : World} {B t : Nat} {x y : Value} (u v : Value) (h : w'.heap[B]? = some (.cells #[x, y] t (0, 0))) :
    ((w'.setCell ⟨B, 0, none⟩ u).setCell ⟨B, 1, none⟩ v).heap[B]? = some (.cells #[u, v] t (0, 0)) := by
  have h1 := heap_setCell_same w' B 0 _ _ u h
  have h2 := heap_setCell_same _ B 1 _ _ v h1
  exact h2
theorem pair_below {a w' : World} {B : Nat} {o : Obj} (u v : Value) (hb : Below (a.alloc o).heap.size (a.alloc o) w') (hB : B = a.heap.size) :
    Below a.heap.size a ((w'.setCell ⟨B, 0, none⟩ u).setCell ⟨B, 1, none⟩ v) := by
  subst hB
  exact ((((Below.refl _ a).alloc (Nat.le_refl _) o).trans (hb.mono (by simp))).setCell (Nat.le_refl _) u).setCell (Nat.le_refl _) v
theorem pair_new (w : World) (o : Obj) : (w.alloc o).heap[w.heap.size]? = some o := by
  show (w.heap.push o)[w.heap.size]? = some o
  simp
theorem pair_old {X w' : World} {B : Nat} {o : Obj} (hb : Below X.heap.size X w') (hX : X.heap[B]? = some o) : w'.heap[B]? = some o :=
  (hb.block _ (Array.getElem?_eq_some_iff.1 hX).1).trans hX
theorem pair_below2 {a X w' : World} {B : Nat} (u v : Value) (hb : Below X.heap.size X w') (ha : Below a.heap.size a X) (hB : a.heap.size ≤ B) :
    Below a.heap.size a ((w'.setCell ⟨B, 0, none⟩ u).setCell ⟨B, 1, none⟩ v) :=
  ((ha.trans (hb.mono ha.size)).setCell hB u).setCell hB v
theorem below_up {a b c : World} (h : Below a.heap.size a b) (k : Below b.heap.size b c) : Below a.heap.size a c := h.trans (k.mono h.size)
theorem below_al (a : World) (o : Obj) : Below a.heap.size a (a.alloc o) := (Below.refl _ a).alloc (Nat.le_refl _) o

theorem wholeOf_any (k : Int) (w : World) :
    Calls Try.prog 74 #[.int .i64 k] w fun e w' => e = .returned (frV k 1) ∧ Below w.heap.size w w' := by
  go_enter Try.func74, Try.ntmps74
  go_wp2
  refine bodyPost_ret (v := frV k 1) (by simp [results, Try.results74, go_sem, frV]) rfl ⟨rfl, Below.alloc (Below.refl _ _) (Nat.le_refl _) _⟩

theorem commonFactor_is (x y g : Int) (w : World) (hx : 0 ≤ x) (hy : 0 ≤ y) (hx1 : x ≤ 4611686018427387903) (hy1 : y ≤ 4611686018427387903) (hg : g = (Nat.gcd x.natAbs y.natAbs : Nat)) :
    Calls Try.prog 84 #[.int .i64 x, .int .i64 y] w fun e w' => e = .returned (.int .i64 g) ∧ Below w.heap.size w w' := by
  obtain ⟨a, rfl⟩ : ∃ a : Nat, x = a := ⟨x.natAbs, by omega⟩
  obtain ⟨b, rfl⟩ : ∃ b : Nat, y = b := ⟨y.natAbs, by omega⟩
  have := commonFactor_any a b w (by omega) (by omega)
  rw [hg]
  exact this

/-- Of the fraction of up and dn: by which both are divided. -/
theorem frac_parts {up dn n d : Int} (hq : FrIs (fq up dn) n d) (h1 : 1 ≤ dn) : ∃ g : Int, g = ((Nat.gcd up.natAbs dn.natAbs : Nat) : Int) ∧ 1 ≤ g ∧ g ≤ dn ∧ n = up.tdiv g ∧ d = dn / g ∧ (0 ≤ up → n = up / g) := by
  obtain ⟨hn, hd⟩ := hq.same (fq_is h1)
  have hg1 : 1 ≤ Nat.gcd up.natAbs dn.natAbs := Nat.gcd_pos_of_pos_right _ (by omega)
  have hgd : Nat.gcd up.natAbs dn.natAbs ≤ dn.natAbs := Nat.gcd_le_right _ (by omega)
  refine ⟨_, rfl, by omega, by omega, hn, ?_, fun h => ?_⟩
  · rw [hd, Int.tdiv_eq_ediv_of_nonneg (by omega)]
  · rw [hn, Int.tdiv_eq_ediv_of_nonneg h]

set_option maxHeartbeats 600000 in
theorem fracOf_any (up dn n d : Int) (w : World) (hq : FrIs (fq up dn) n d) (h1 : 1 ≤ dn) (hu0 : -4611686018427387903 ≤ up) (hu1 : up ≤ 4611686018427387903) (hd : dn ≤ 4611686018427387903) :
    Calls Try.prog 54 #[.int .i64 up, .int .i64 dn] w fun e w' => e = .returned (frV n d) ∧ Below w.heap.size w w' := by
  obtain ⟨g, hg, g1, g2, hn, hdd, hnn⟩ := frac_parts hq h1
  obtain ⟨m, hm⟩ : ∃ m : Int, m = (up.natAbs : Int) := ⟨_, rfl⟩
  have hmm : max up (-up) = m := by omega
  have HC := Lib.hid (fun w => commonFactor_is (max up (-up)) dn g w (by omega) (by omega) (by omega) hd (by rw [hg, hmm, hm]; rfl))
  clear hmm hm
  have HD := Lib.hid hdd
  have hs : 0 ≤ up ∨ up < 0 := by omega
  rcases hs with h0 | h0
  · rw [show max up (-up) = up by omega] at HC
    have HN := Lib.hid (hnn h0)
    clear hn hnn hdd hg hq
    go_enter Try.func54, Try.ntmps54
    go_wp2_with fail
    refine (HC.out _).mono ?_
    rintro e w' ⟨rfl, hb⟩
    have hk := pair_in hb rfl
    obtain ⟨c0, c1, f0, f1⟩ := pair_facts hk
    go_wp2_with fail
    go_region
    all_goals go_wp2
    obtain ⟨e0, e1, _, _⟩ := pair_facts (pair_set (.int .i64 (up / g)) (.int .i64 (dn / g)) hk)
    have hB := pair_below (.int .i64 (up / g)) (.int .i64 (dn / g)) hb rfl
    refine bodyPost_ret (v := frV n d) (by simp [results, Try.results54, go_sem, frV, e0, e1, HN.out, HD.out]) rfl ⟨rfl, hB.drew⟩
  · rw [show max up (-up) = -up by omega] at HC
    have HN := Lib.hid hn
    clear hn hnn hdd hg hq
    go_enter Try.func54, Try.ntmps54
    go_wp2_with fail
    refine (HC.out _).mono ?_
    rintro e w' ⟨rfl, hb⟩
    have hk := pair_in hb rfl
    obtain ⟨c0, c1, f0, f1⟩ := pair_facts hk
    go_wp2_with fail
    go_region
    all_goals go_wp2
    obtain ⟨e0, e1, _, _⟩ := pair_facts (pair_set (.int .i64 (up.tdiv g)) (.int .i64 (dn / g)) hk)
    have hB := pair_below (.int .i64 (up.tdiv g)) (.int .i64 (dn / g)) hb rfl
    refine bodyPost_ret (v := frV n d) (by simp [results, Try.results54, go_sem, frV, e0, e1, HN.out, HD.out]) rfl ⟨rfl, hB.drew⟩

set_option maxHeartbeats 600000 in
theorem Sfrac_any (up dn n d : Int) (w : World) (hq : FrIs (fq up dn) n d) (h1 : 1 ≤ dn) (hu0 : -4611686018427387903 ≤ up) (hu1 : up ≤ 4611686018427387903) (hd : dn ≤ 4611686018427387903) :
    Calls Try.prog 79 #[.int .i64 up, .int .i64 dn] w fun e w' => e = .returned (frV n d) ∧ Below w.heap.size w w' := by
  obtain ⟨g, hg, g1, g2, hn, hdd, hnn⟩ := frac_parts hq h1
  have HC := Lib.hid (fun w => gcd_any up dn w hu0 hu1 (by omega) hd)
  rw [← hg] at HC
  have HD := Lib.hid hdd
  have hs : 0 ≤ up ∨ up < 0 := by omega
  rcases hs with h0 | h0
  · have HN := Lib.hid (hnn h0)
    clear hn hnn hdd hg hq
    go_enter Try.func79, Try.ntmps79
    go_wp2_with fail
    refine (HC.out _).mono ?_
    rintro e w' ⟨rfl, hb⟩
    have hk := pair_in hb rfl
    obtain ⟨c0, c1, f0, f1⟩ := pair_facts hk
    go_wp2_with fail
    go_region
    all_goals go_wp2
    obtain ⟨e0, e1, _, _⟩ := pair_facts (pair_set (.int .i64 (up / g)) (.int .i64 (dn / g)) hk)
    have hB := pair_below (.int .i64 (up / g)) (.int .i64 (dn / g)) hb rfl
    refine bodyPost_ret (v := frV n d) (by simp [results, Try.results79, go_sem, frV, e0, e1, HN.out, HD.out]) rfl ⟨rfl, hB.drew⟩
  · have HN := Lib.hid hn
    clear hn hnn hdd hg hq
    go_enter Try.func79, Try.ntmps79
    go_wp2_with fail
    refine (HC.out _).mono ?_
    rintro e w' ⟨rfl, hb⟩
    have hk := pair_in hb rfl
    obtain ⟨c0, c1, f0, f1⟩ := pair_facts hk
    go_wp2_with fail
    go_region
    all_goals go_wp2
    obtain ⟨e0, e1, _, _⟩ := pair_facts (pair_set (.int .i64 (up.tdiv g)) (.int .i64 (dn / g)) hk)
    have hB := pair_below (.int .i64 (up.tdiv g)) (.int .i64 (dn / g)) hb rfl
    refine bodyPost_ret (v := frV n d) (by simp [results, Try.results79, go_sem, frV, e0, e1, HN.out, HD.out]) rfl ⟨rfl, hB.drew⟩

set_option maxHeartbeats 600000 in
theorem LfracOf_any (up dn n d : Int) (w : World) (hq : FrIs (fq up dn) n d) (h1 : 1 ≤ dn) (hu0 : -4611686018427387903 ≤ up) (hu1 : up ≤ 4611686018427387903) (hd : dn ≤ 4611686018427387903) :
    Calls Try.prog 27 #[.int .i64 up, .int .i64 dn] w fun e w' => e = .returned (frV n d) ∧ Below w.heap.size w w' := by
  obtain ⟨g, hg, g1, g2, hn, hdd, hnn⟩ := frac_parts hq h1
  have HC := Lib.hid (fun w => divisor_any up dn w hu0 hu1 (by omega) hd)
  rw [← hg] at HC
  have HD := Lib.hid hdd
  have hs : 0 ≤ up ∨ up < 0 := by omega
  rcases hs with h0 | h0
  · have HN := Lib.hid (hnn h0)
    clear hn hnn hdd hg hq
    go_enter Try.func27, Try.ntmps27
    go_wp2_with fail
    refine (HC.out _).mono ?_
    rintro e w' ⟨rfl, hb⟩
    have hk := pair_in hb rfl
    obtain ⟨c0, c1, f0, f1⟩ := pair_facts hk
    go_wp2_with fail
    go_region
    all_goals go_wp2
    obtain ⟨e0, e1, _, _⟩ := pair_facts (pair_set (.int .i64 (up / g)) (.int .i64 (dn / g)) hk)
    have hB := pair_below (.int .i64 (up / g)) (.int .i64 (dn / g)) hb rfl
    refine bodyPost_ret (v := frV n d) (by simp [results, Try.results27, go_sem, frV, e0, e1, HN.out, HD.out]) rfl ⟨rfl, hB.drew⟩
  · have HN := Lib.hid hn
    clear hn hnn hdd hg hq
    go_enter Try.func27, Try.ntmps27
    go_wp2_with fail
    refine (HC.out _).mono ?_
    rintro e w' ⟨rfl, hb⟩
    have hk := pair_in hb rfl
    obtain ⟨c0, c1, f0, f1⟩ := pair_facts hk
    go_wp2_with fail
    go_region
    all_goals go_wp2
    obtain ⟨e0, e1, _, _⟩ := pair_facts (pair_set (.int .i64 (up.tdiv g)) (.int .i64 (dn / g)) hk)
    have hB := pair_below (.int .i64 (up.tdiv g)) (.int .i64 (dn / g)) hb rfl
    refine bodyPost_ret (v := frV n d) (by simp [results, Try.results27, go_sem, frV, e0, e1, HN.out, HD.out]) rfl ⟨rfl, hB.drew⟩
end Go.Proofs.Ytoipjhdnmiomeaa

/-
  Chapter 2: the contracts of less, plus and times of fractions.
-/
namespace Go.Proofs.Ytoipjhdnmiomeaa
open Go.RowKit

/-- Whether the fraction a/b is less than c/d. -/
def lessF (a b c d : Int) : Bool := decide (a * d < c * b)
theorem lessF_is {p q : Rat} {a b c d : Int} (hp : FrIs p a b) (hq : FrIs q c d) : lessF a b c d = decide (p < q) := by
  unfold lessF
  obtain ⟨rfl, rfl⟩ := hp
  obtain ⟨rfl, rfl⟩ := hq
  rw [Bool.eq_iff_iff, decide_eq_true_iff, decide_eq_true_iff, Rat.lt_iff]

set_option maxHeartbeats 600000 in
theorem less_any (a b c d : Int) (l : Bool) (w : World) (hl : lessF a b c d = l) (h1 : -4611686018427387904 ≤ a * d) (h2 : a * d ≤ 4611686018427387903) (h3 : -4611686018427387904 ≤ c * b) (h4 : c * b ≤ 4611686018427387903) :
    Calls Try.prog 59 #[frV a b, frV c d] w fun e w' => e = .returned (.bool l) ∧ Below w.heap.size w w' := by
  have HL := Lib.hid hl
  clear hl
  unfold frV
  go_enter Try.func59, Try.ntmps59
  go_wp2
  go_ret
  exact ⟨by rw [← HL.out]; rfl, ((below_al _ _).alloc (by simp) _)⟩

set_option maxHeartbeats 600000 in
theorem Sless_any (a b c d : Int) (l : Bool) (w : World) (hl : lessF a b c d = l) (h1 : -4611686018427387904 ≤ a * d) (h2 : a * d ≤ 4611686018427387903) (h3 : -4611686018427387904 ≤ c * b) (h4 : c * b ≤ 4611686018427387903) :
    Calls Try.prog 82 #[frV a b, frV c d] w fun e w' => e = .returned (.bool l) ∧ Below w.heap.size w w' := by
  have HL := Lib.hid hl
  clear hl
  unfold frV
  go_enter Try.func82, Try.ntmps82
  go_wp2
  go_ret
  exact ⟨by rw [← HL.out]; rfl, ((below_al _ _).alloc (by simp) _)⟩

set_option maxHeartbeats 600000 in
theorem lessOf_any (a b c d : Int) (l : Bool) (w : World) (hl : lessF a b c d = l) (h1 : -4611686018427387904 ≤ a * d) (h2 : a * d ≤ 4611686018427387903) (h3 : -4611686018427387904 ≤ c * b) (h4 : c * b ≤ 4611686018427387903) :
    Calls Try.prog 26 #[frV a b, frV c d] w fun e w' => e = .returned (.bool l) ∧ Below w.heap.size w w' := by
  have HL := Lib.hid hl
  clear hl
  unfold frV
  go_enter Try.func26, Try.ntmps26
  go_wp2
  go_ret
  exact ⟨by rw [← HL.out]; rfl, ((below_al _ _).alloc (by simp) _)⟩

set_option maxHeartbeats 600000 in
theorem plus_any (a b c d n m : Int) (w : World) (hq : FrIs (fq (a * d + c * b) (b * d)) n m) (h1 : -2305843009213693951 ≤ a * d) (h2 : a * d ≤ 2305843009213693951) (h3 : -2305843009213693951 ≤ c * b) (h4 : c * b ≤ 2305843009213693951) (h5 : 1 ≤ b * d) (h6 : b * d ≤ 4611686018427387903) :
    Calls Try.prog 77 #[frV a b, frV c d] w fun e w' => e = .returned (frV n m) ∧ Below w.heap.size w w' := by
  have HC := Lib.hid (fun w => fracOf_any _ _ _ _ w hq h5 (by omega) (by omega) h6)
  clear hq
  unfold frV
  go_enter Try.func77, Try.ntmps77
  go_wp2_with fail
  refine (HC.out _).mono ?_
  rintro e w' ⟨rfl, hb⟩
  have hk := pair_in (B := w.heap.size + 1 + 1) hb (by simp)
  obtain ⟨c0, c1, f0, f1⟩ := pair_facts hk
  unfold frV
  go_wp2
  obtain ⟨e0, e1, _, _⟩ := pair_facts (pair_set (.int .i64 n) (.int .i64 m) hk)
  have hB := pair_below (.int .i64 n) (.int .i64 m) (B := w.heap.size + 1 + 1) hb (by simp)
  refine bodyPost_ret (v := frV n m) (by simp [results, Try.results77, go_sem, frV, e0, e1]) rfl ⟨rfl, ?_⟩
  exact below_up (below_al _ _) (below_up (below_al _ _) hB)

set_option maxHeartbeats 600000 in
theorem Splus_any (a b c d n m : Int) (w : World) (hq : FrIs (fq (a * d + c * b) (b * d)) n m) (h1 : -2305843009213693951 ≤ a * d) (h2 : a * d ≤ 2305843009213693951) (h3 : -2305843009213693951 ≤ c * b) (h4 : c * b ≤ 2305843009213693951) (h5 : 1 ≤ b * d) (h6 : b * d ≤ 4611686018427387903) :
    Calls Try.prog 80 #[frV a b, frV c d] w fun e w' => e = .returned (frV n m) ∧ Below w.heap.size w w' := by
  have HC := Lib.hid (fun w => Sfrac_any _ _ _ _ w hq h5 (by omega) (by omega) h6)
  clear hq
  unfold frV
  go_enter Try.func80, Try.ntmps80
  go_wp2_with fail
  refine (HC.out _).mono ?_
  rintro e w' ⟨rfl, hb⟩
  have hk := pair_in (B := w.heap.size + 1 + 1) hb (by simp)
  obtain ⟨c0, c1, f0, f1⟩ := pair_facts hk
  unfold frV
  go_wp2
  obtain ⟨e0, e1, _, _⟩ := pair_facts (pair_set (.int .i64 n) (.int .i64 m) hk)
  have hB := pair_below (.int .i64 n) (.int .i64 m) (B := w.heap.size + 1 + 1) hb (by simp)
  refine bodyPost_ret (v := frV n m) (by simp [results, Try.results80, go_sem, frV, e0, e1]) rfl ⟨rfl, ?_⟩
  exact below_up (below_al _ _) (below_up (below_al _ _) hB)

set_option maxHeartbeats 600000 in
theorem times_any (a b k n m : Int) (w : World) (hq : FrIs (fq (a * k) b) n m) (h1 : -4611686018427387904 < a * k) (h2 : a * k ≤ 4611686018427387903) (h5 : 1 ≤ b) (h6 : b ≤ 4611686018427387903) :
    Calls Try.prog 75 #[frV a b, .int .i64 k] w fun e w' => e = .returned (frV n m) ∧ Below w.heap.size w w' := by
  have HC := Lib.hid (fun w => fracOf_any _ _ _ _ w hq h5 (by omega) (by omega) h6)
  clear hq
  unfold frV
  go_enter Try.func75, Try.ntmps75
  go_wp2_with fail
  refine (HC.out _).mono ?_
  rintro e w' ⟨rfl, hb⟩
  have hk := pair_in (B := w.heap.size + 1) hb (by simp)
  obtain ⟨c0, c1, f0, f1⟩ := pair_facts hk
  unfold frV
  go_wp2
  obtain ⟨e0, e1, _, _⟩ := pair_facts (pair_set (.int .i64 n) (.int .i64 m) hk)
  have hB := pair_below (.int .i64 n) (.int .i64 m) (B := w.heap.size + 1) hb (by simp)
  refine bodyPost_ret (v := frV n m) (by simp [results, Try.results75, go_sem, frV, e0, e1]) rfl ⟨rfl, ?_⟩
  exact below_up (below_al _ _) hB

set_option maxHeartbeats 600000 in
theorem Stimes_any (a b c d n m : Int) (w : World) (hq : FrIs (fq (a * c) (b * d)) n m) (h1 : -2305843009213693951 ≤ a * c) (h2 : a * c ≤ 2305843009213693951) (h5 : 1 ≤ b * d) (h6 : b * d ≤ 4611686018427387903) :
    Calls Try.prog 81 #[frV a b, frV c d] w fun e w' => e = .returned (frV n m) ∧ Below w.heap.size w w' := by
  have HC := Lib.hid (fun w => Sfrac_any _ _ _ _ w hq h5 (by omega) (by omega) h6)
  clear hq
  unfold frV
  go_enter Try.func81, Try.ntmps81
  go_wp2_with fail
  refine (HC.out _).mono ?_
  rintro e w' ⟨rfl, hb⟩
  have hk := pair_in (B := w.heap.size + 1 + 1) hb (by simp)
  obtain ⟨c0, c1, f0, f1⟩ := pair_facts hk
  unfold frV
  go_wp2
  obtain ⟨e0, e1, _, _⟩ := pair_facts (pair_set (.int .i64 n) (.int .i64 m) hk)
  have hB := pair_below (.int .i64 n) (.int .i64 m) (B := w.heap.size + 1 + 1) hb (by simp)
  refine bodyPost_ret (v := frV n m) (by simp [results, Try.results81, go_sem, frV, e0, e1]) rfl ⟨rfl, ?_⟩
  exact below_up (below_al _ _) (below_up (below_al _ _) hB)
end Go.Proofs.Ytoipjhdnmiomeaa

/-
  Chapter 2: the contracts of the model's virtual and of the program's slopeOf.
-/
namespace Go.Proofs.Ytoipjhdnmiomeaa
open Go.RowKit

/-- A region that draws, all but its last operations quiet. -/
theorem region_tail {P : Program} {id : Nat} {Q : Exit → Act → World → Prop} {a : Act} {w : World} {l : List Oper} (n : Nat) (hm : P.follows .mixedOrders = true) (hB : Region.lexTailB .any l.toArray n = true)
    (h : wpStill P l.toArray w.drew (fun a' => wpList P l.toArray Q (l.drop n) a' w.drew) (l.take n) a) : (Code.region id l.toArray true).wp P Q a w := wp_region_still_tail n hm hB h

theorem virt_parts {xs : List Int} {v : Nat} {x n d : Int} (hv : vW xs = true) (hx : xs[v]? = some x) (hq : FrIs (virtQ xs v) n d) :
    FrIs (fq (v * x - tailW xs (v + 1)) x) n d ∧ 1 ≤ x ∧ x ≤ 6 ∧ 0 ≤ (v : Int) * x ∧ (v : Int) * x ≤ 36 := by
  have hlt := (List.getElem?_eq_some_iff.1 hx).1
  have hx1 := vW_mem hv x (List.mem_of_getElem? hx)
  have hw : wt xs v = x := by unfold wt; rw [List.getD_eq_getElem?_getD, hx]; rfl
  have h6 := (vW_le hv).2
  refine ⟨?_, hx1.1, hx1.2, Int.mul_nonneg (by omega) (by omega), ?_⟩
  · unfold virtQ at hq
    rw [hw] at hq
    exact hq
  · have := Int.mul_le_mul (show (v : Int) ≤ 6 by omega) hx1.2 (by omega) (by omega)
    omega

set_option maxHeartbeats 1000000 in
theorem Svirtual_any (A : Option Addr) (c : Nat) (xs : List Int) (v : Nat) (n d : Int) (w : World) (h : Rd w A c xs) (hv : vW xs = true) (hlt : v < xs.length) (hq : FrIs (virtQ xs v) n d) :
    Calls Try.prog 57 #[.slice A xs.length c, .int .i64 v] w fun e w' => e = .returned (frV n d) ∧ Below w.heap.size w w' := by
  obtain ⟨b, off, x, rfl, hbs, hx, hc⟩ := h.at_ hlt
  obtain ⟨p1, p2, p3, p4, p5⟩ := virt_parts hv hx.out hq
  obtain ⟨l1, l2⟩ := vW_le hv
  have HT := Lib.hid (fun w h => tail_any (some ⟨b, off, none⟩) c xs (v + 1) w h (by omega) (by omega) (vW_small hv))
  obtain ⟨t1, t2⟩ := rev_b hv (v + 1)
  have hR := fun o => show Rd (w.alloc o).drew _ _ _ from h.below (below_al w o).drew
  generalize tailW xs (v + 1) = T at p1 HT t1 t2
  have HC := Lib.hid (fun w => Sfrac_any _ _ _ _ w p1 p2 (by omega) (by omega) (by omega))
  clear p1 hq hv hx
  go_enter Try.func57, Try.ntmps57
  go_wp2_with fail
  refine region_tail 15 (by kernel_rfl) (by kernel_rfl) ?_
  simp only [List.take_succ_cons, List.take_zero, List.drop_succ_cons, List.drop_zero]
  iterate 9 (refine wpStill_step (fun K hK => ?_); go_simp; (try go_bits); refine hK _ ?_; clear hK K)
  refine wpStill_step (fun K hK => ?_)
  go_simp
  refine ⟨_, (HT.out _ (hR _)).mono fun _ _ h => ⟨h.1, h.2.symm⟩, hK _ ?_⟩
  clear hK K
  iterate 5 (refine wpStill_step (fun K hK => ?_); go_simp; (try go_bits); refine hK _ ?_; clear hK K)
  refine wpStill_nil ?_
  go_wp2_with fail
  refine (HC.out _).mono ?_
  rintro e w1 ⟨rfl, hb⟩
  have hk := pair_old (B := w.heap.size) hb (pair_new w _)
  obtain ⟨c0, c1, f0, f1⟩ := pair_facts hk
  unfold frV
  go_wp2
  obtain ⟨e0, e1, _, _⟩ := pair_facts (pair_set (.int .i64 n) (.int .i64 d) hk)
  have hB := pair_below2 (a := w) (B := w.heap.size) (.int .i64 n) (.int .i64 d) hb (below_al w _).drew (Nat.le_refl _)
  refine bodyPost_ret (v := frV n d) (by simp [results, Try.results57, go_sem, frV, e0, e1]) rfl ⟨rfl, hB⟩
end Go.Proofs.Ytoipjhdnmiomeaa

/-
  Chapter 2, the program: the contracts of slopeOf and steepestFrom.
-/
namespace Go.Proofs.Ytoipjhdnmiomeaa
open Go.RowKit

theorem slope_parts {xs : List Int} {u v : Nat} {n d : Int} (hv : vW xs = true) (huv : u < v) (hvl : v ≤ xs.length) (hq : FrIs (slopeQ xs u v) n d) :
    FrIs (fq (u * tailW xs u - v * tailW xs v) (tailW xs u - tailW xs v)) n d ∧ 1 ≤ tailW xs u - tailW xs v ∧ -216 ≤ n ∧ n ≤ 216 ∧ 1 ≤ d ∧ d ≤ 36 := by
  have h1 := tailW_lt (vW_valid hv) huv hvl
  have l6 := (vW_le hv).2
  have r1 := revW_le hv (show u ≤ 6 by omega)
  have r2 := revW_le hv (show v ≤ 6 by omega)
  have r3 := revW_nn hv u
  have r4 := revW_nn hv v
  have t1 := rev_b hv u
  have t2 := rev_b hv v
  have hf := fq_le (up := revW xs u - revW xs v) (dn := tailW xs u - tailW xs v) (by omega) hq
  exact ⟨hq, by omega, by omega, by omega, by omega, by omega⟩

theorem mul_bd {a d A D : Int} (h1 : -A ≤ a) (h2 : a ≤ A) (h3 : 1 ≤ d) (h4 : d ≤ D) (hA : 0 ≤ A) : -(A * D) ≤ a * d ∧ a * d ≤ A * D := by
  have e1 : A * d ≤ A * D := Int.mul_le_mul_of_nonneg_left h4 hA
  have e2 : a * d ≤ A * d := Int.mul_le_mul_of_nonneg_right h2 (by omega)
  have e3 : -A * d ≤ a * d := Int.mul_le_mul_of_nonneg_right h1 (by omega)
  have e4 : -A * d = -(A * d) := Int.neg_mul _ _
  constructor <;> omega

set_option maxHeartbeats 1000000 in
theorem slopeOf_any (b off c : Nat) (xs : List Int) (u v : Nat) (n d : Int) (w : World) (h : Rd w (some ⟨b, off, none⟩) c xs) (hcc : xs.length ≤ c) (hv : vW xs = true) (huv : u < v) (hvl : v ≤ xs.length) (hq : FrIs (slopeQ xs u v) n d) :
    Calls Try.prog 85 #[.slice (some ⟨b, off, none⟩) xs.length c, .int .i64 u, .int .i64 v] w fun e w' => e = .returned (frV n d) ∧ Below w.heap.size w w' := by
  obtain ⟨p1, p2, _⟩ := slope_parts hv huv hvl hq
  obtain ⟨l1, l2⟩ := vW_le hv
  have hR := fun o => h.below (below_al w o)
  have HU := Lib.hid (fun w h => manyFrom_any b off c xs u w h hcc (by omega) (by omega) (vW_small hv))
  have HV := Lib.hid (fun w h => manyFrom_any b off c xs v w h hcc (by omega) (by omega) (vW_small hv))
  obtain ⟨t1, t2⟩ := rev_b hv u
  obtain ⟨t3, t4⟩ := rev_b hv v
  have r1 := revW_le hv (show u ≤ 6 by omega)
  have r2 := revW_le hv (show v ≤ 6 by omega)
  have r3 := revW_nn hv u
  have r4 := revW_nn hv v
  unfold revW at r1 r2 r3 r4
  generalize tailW xs u = T at p1 p2 HU t1 t2 r1 r3
  generalize tailW xs v = S at p1 p2 HV t3 t4 r2 r4
  have HC := Lib.hid (fun w => fracOf_any _ _ _ _ w p1 p2 (by omega) (by omega) (by omega))
  clear p1 hq hv
  go_enter Try.func85, Try.ntmps85
  go_wp2_with fail
  refine (HU.out _ (hR _)).mono ?_
  rintro e w1 ⟨rfl, rfl⟩
  go_wp2_with fail
  refine (HV.out _ (hR _)).mono ?_
  rintro e w1 ⟨rfl, rfl⟩
  go_wp2_with fail
  refine (HC.out _).mono ?_
  rintro e w1 ⟨rfl, hb⟩
  have hk := pair_old (B := w.heap.size) hb (pair_new w _)
  obtain ⟨c0, c1, f0, f1⟩ := pair_facts hk
  unfold frV
  go_wp2
  obtain ⟨e0, e1, _, _⟩ := pair_facts (pair_set (.int .i64 n) (.int .i64 d) hk)
  have hB := pair_below2 (a := w) (B := w.heap.size) (.int .i64 n) (.int .i64 d) hb (below_al w _) (Nat.le_refl _)
  refine bodyPost_ret (v := frV n d) (by simp [results, Try.results85, go_sem, frV, e0, e1]) rfl ⟨rfl, hB⟩

/-- The pair x, y lies in the block B, and nothing else. -/
def PairAt (w : World) (B : Nat) (x y : Int) : Prop := w.heap[B]? = some (.cells #[.int .i64 x, .int .i64 y] 30 (0, 0))
theorem PairAt.lt {w : World} {B : Nat} {x y : Int} (h : PairAt w B x y) : B < w.heap.size := (Array.getElem?_eq_some_iff.1 h).1
theorem PairAt.below {w w' : World} {B : Nat} {x y : Int} (h : PairAt w B x y) (hb : Below w.heap.size w w') : PairAt w' B x y := (hb.block _ h.lt).trans h
theorem PairAt.new {w : World} {x y : Int} : PairAt (w.alloc (.cells #[.int .i64 x, .int .i64 y] 30)) w.heap.size x y := pair_new w _
theorem PairAt.old {w : World} {B : Nat} {x y : Int} (h : PairAt w B x y) (o : Obj) : PairAt (w.alloc o) B x y := h.below (below_al w o)
theorem PairAt.set_ {w : World} {B : Nat} {x y : Int} (h : PairAt w B x y) (u v : Int) : PairAt ((w.setCell ⟨B, 0, none⟩ (.int .i64 u)).setCell ⟨B, 1, none⟩ (.int .i64 v)) B u v := pair_set _ _ h
theorem PairAt.other {w : World} {B C : Nat} {x y : Int} (h : PairAt w B x y) (hne : B ≠ C) (u v : Value) : PairAt ((w.setCell ⟨C, 0, none⟩ u).setCell ⟨C, 1, none⟩ v) B x y := by
  unfold PairAt at *
  rw [Below.heap_setCell _ _ _ _ (by exact hne), Below.heap_setCell _ _ _ _ (by exact hne)]
  exact h
theorem PairAt.facts {w : World} {B : Nat} {x y : Int} (h : PairAt w B x y) : w.cell? ⟨B, 0, none⟩ = some (.int .i64 x) ∧ w.cell? ⟨B, 1, none⟩ = some (.int .i64 y) ∧ w.frozen? ⟨B, 0, none⟩ = false ∧ w.frozen? ⟨B, 1, none⟩ = false := pair_facts h
theorem below_set2 {a w : World} {B : Nat} (h : Below a.heap.size a w) (hB : a.heap.size ≤ B) (u v : Value) : Below a.heap.size a ((w.setCell ⟨B, 0, none⟩ u).setCell ⟨B, 1, none⟩ v) := (h.setCell hB u).setCell hB v

theorem steepTo_less {w : List Int} {h u : Nat} {s : Nat × Rat} (hl : slopeQ w u h < s.2) : steepTo w h (u + 1) s = steepTo w h u s := by rw [steepTo, if_pos hl]
theorem steepTo_more {w : List Int} {h u : Nat} {s : Nat × Rat} (hl : ¬ slopeQ w u h < s.2) : steepTo w h (u + 1) s = steepTo w h u (u, slopeQ w u h) := by rw [steepTo, if_neg hl]

set_option maxHeartbeats 2000000 in
theorem steepestFrom_any (b off c : Nat) (xs : List Int) (v at_ : Nat) (n d : Int) (w : World) (h : Rd w (some ⟨b, off, none⟩) c xs) (hcc : xs.length ≤ c) (hv : vW xs = true) (hv1 : 1 ≤ v) (hvl : v ≤ xs.length) (hat : (steep xs v).1 = at_) (hq : FrIs (steep xs v).2 n d) :
    Calls Try.prog 56 #[.slice (some ⟨b, off, none⟩) xs.length c, .int .i64 v] w fun e w' => e = .returned (.tuple #[.int .i64 at_, frV n d]) ∧ Below w.heap.size w w' := by
  obtain ⟨l1, l2⟩ := vW_le hv
  have HV := Lib.hid hv
  have HQ := Lib.hid hq
  have HAT := Lib.hid hat
  obtain ⟨_, _, z1, z2, z3, z4⟩ := slope_parts hv (show v - 1 < v by omega) hvl (FrIs.self _)
  have HSL := Lib.hid (fun (u : Nat) (hu : u < v) w h => slopeOf_any b off c xs u v _ _ w h hcc hv hu hvl (FrIs.self _))
  have hR := fun o => h.below (below_al w o)
  clear hv hq hat
  have e1 : ((v : Int) - 1) = ((v - 1 : Nat) : Int) := by omega
  have HF := Lib.hid (HSL.out (v - 1) (by omega))
  generalize hz : (slopeQ xs (v - 1) v).num = z at HF z1 z2
  generalize hy : ((slopeQ xs (v - 1) v).den : Int) = y at HF z3 z4
  have HZ := Lib.hid (show FrIs (slopeQ xs (v - 1) v) z y from ⟨hz.symm, hy.symm⟩)
  clear hz hy
  go_enter Try.func56, Try.ntmps56
  go_wp2_with fail
  refine (HF.out _ (hR _)).mono ?_
  rintro e w1 ⟨rfl, hb⟩
  have hb0 := below_up (below_al w _) hb
  have hk := PairAt.below (PairAt.new (w := w)) hb
  have hlt := hk.lt
  unfold frV
  go_wp2
  have hlw : w.heap.size < w1.heap.size := hlt
  have hr0 := h.below hb0
  go_loopw [6, 8] (fun s i wr => ∃ (k to : Nat) (n' d' : Int) (q : Rat), s = .int .i64 to ∧ i = .int .i64 ((k : Int) - 1) ∧ k ≤ v - 1 ∧ to < v ∧ Below w.heap.size w wr ∧ PairAt wr w.heap.size 0 0 ∧ PairAt wr w1.heap.size n' d' ∧
      -216 ≤ n' ∧ n' ≤ 216 ∧ 1 ≤ d' ∧ d' ≤ 36 ∧ Hid (FrIs q n' d') ∧ Hid (steepTo xs v k (to, q) = steep xs v)) (fun _ i _ => (intOf i + 1).toNat)
  case atStart => exact ⟨v - 1, v - 1, z, y, _, rfl, by go_num, Nat.le_refl _, by omega, below_up hb0 (below_al _ _), hk.old _, PairAt.new, z1, z2, z3, z4, HZ, Lib.hid rfl⟩
  case round =>
    obtain ⟨k, to, n', d', q, rfl, rfl, hkv, hto, hbr, hP5, hP7, m1, m2, m3, m4, HQ', HS⟩ := hrel
    have hl7 := hP7.lt
    rcases Nat.eq_zero_or_pos k with rfl | hk0
    · have HE := Lib.hid (show to = at_ by have := HS.out; rw [steepTo] at this; rw [← HAT.out, ← this])
      have HE2 := Lib.hid (show n' = n ∧ d' = d by have := HS.out; rw [steepTo] at this; have h2 := HQ.out; rw [← this] at h2; exact HQ'.out.same h2)
      obtain ⟨c0, c1, f0, f1⟩ := hP7.facts
      obtain ⟨c2, c3, f2, f3⟩ := hP5.facts
      go_wp2
      go_region
      all_goals go_wp2
      obtain ⟨g0, g1, _, _⟩ := (hP5.set_ n' d').facts
      have hB := below_set2 hbr (Nat.le_refl _) (.int .i64 n') (.int .i64 d')
      obtain ⟨rfl, rfl⟩ := HE2.out
      refine bodyPost_ret (v := .tuple #[.int .i64 at_, frV n' d']) (by simp [results, Try.results56, go_sem, frV, g0, g1]; have := HE.out; omega) rfl ⟨rfl, hB.drew⟩
    · obtain ⟨m, rfl⟩ : ∃ m, k = m + 1 := ⟨k - 1, by omega⟩
      have em : (((m + 1 : Nat) : Int) - 1) = (m : Int) := by omega
      rw [em]
      clear em
      obtain ⟨_, _, y1, y2, y3, y4⟩ := slope_parts HV.out (show m < v by omega) hvl (FrIs.self _)
      have HF2 := Lib.hid (HSL.out m (by omega))
      have HY := Lib.hid (fun hh => steepTo_less (w := xs) (h := v) (u := m) (s := (to, q)) hh)
      have HN := Lib.hid (fun hh => steepTo_more (w := xs) (h := v) (u := m) (s := (to, q)) hh)
      generalize hx : (slopeQ xs m v).num = x at HF2 y1 y2
      generalize hyy : ((slopeQ xs m v).den : Int) = yy at HF2 y3 y4
      have HZ2 := Lib.hid (show FrIs (slopeQ xs m v) x yy from ⟨hx.symm, hyy.symm⟩)
      have HL := Lib.hid (lessF_is HZ2.out HQ'.out)
      obtain ⟨u1, u2⟩ := mul_bd y1 y2 m3 m4 (by omega)
      obtain ⟨u3, u4⟩ := mul_bd m1 m2 y3 y4 (by omega)
      clear hx hyy
      have hr1 := h.below hbr
      by_cases hlt2 : slopeQ xs m v < q
      · have HS2 := Lib.hid ((HY.out hlt2).symm.trans HS.out)
        have HLL := Lib.hid (show lessF x yy n' d' = true by rw [HL.out]; simpa using hlt2)
        clear HY HN hlt2
        go_wp2_with fail
        refine (HF2.out _ hr1).mono ?_
        rintro e w2 ⟨rfl, hb2⟩
        have hP52 := hP5.below hb2
        have hP72 := hP7.below hb2
        have hl72 := hP72.lt
        have hbr2 := below_up hbr hb2
        obtain ⟨c0, c1, f0, f1⟩ := hP72.facts
        unfold frV
        go_wp2_with fail
        refine (less_any x yy n' d' _ _ HLL.out (by omega) (by omega) (by omega) (by omega)).mono ?_
        rintro e w3 ⟨rfl, hb3⟩
        have hP53 := (hP52.old (.cells #[.int .i64 x, .int .i64 yy] 30)).below hb3
        have hP73 := (hP72.old (.cells #[.int .i64 x, .int .i64 yy] 30)).below hb3
        have hbr3 := below_up (below_up hbr2 (below_al _ _)) hb3
        go_wp2
        go_roundw
        case rel => exact ⟨m, to, n', d', q, rfl, by go_num, by omega, hto, hbr3, hP53, hP73, m1, m2, m3, m4, HQ', HS2⟩
        case measure => simp [intOf] <;> omega
      · have HS2 := Lib.hid ((HN.out hlt2).symm.trans HS.out)
        have HLL := Lib.hid (show lessF x yy n' d' = false by rw [HL.out]; simpa using hlt2)
        clear HY HN hlt2
        go_wp2_with fail
        refine (HF2.out _ hr1).mono ?_
        rintro e w2 ⟨rfl, hb2⟩
        have hP52 := hP5.below hb2
        have hP72 := hP7.below hb2
        have hl72 := hP72.lt
        have hbr2 := below_up hbr hb2
        obtain ⟨c0, c1, f0, f1⟩ := hP72.facts
        unfold frV
        go_wp2_with fail
        refine (less_any x yy n' d' _ _ HLL.out (by omega) (by omega) (by omega) (by omega)).mono ?_
        rintro e w3 ⟨rfl, hb3⟩
        have hP53 := (hP52.old (.cells #[.int .i64 x, .int .i64 yy] 30)).below hb3
        have hP73 := (hP72.old (.cells #[.int .i64 x, .int .i64 yy] 30)).below hb3
        have hP93 := (PairAt.new (w := w2) (x := x) (y := yy)).below hb3
        have hbr3 := below_up (below_up hbr2 (below_al _ _)) hb3
        have hne : w.heap.size ≠ w1.heap.size := by omega
        obtain ⟨c2, c3, f2, f3⟩ := hP73.facts
        obtain ⟨c4, c5, f4, f5⟩ := hP93.facts
        go_wp2
        go_region
        all_goals go_wp2
        go_roundw
        case rel => exact ⟨m, m, x, yy, _, rfl, by go_num, by omega, by omega, (below_set2 hbr3 (by omega) _ _).drew, hP53.other hne _ _, hP73.set_ x yy, y1, y2, y3, y4, HZ2, HS2⟩
        case measure => simp [intOf] <;> omega
end Go.Proofs.Ytoipjhdnmiomeaa

/-
  Words for slices of fractions in memory.
-/
namespace Go.Proofs.Ytoipjhdnmiomeaa
open Go.RowKit

/-- The cells of pairs, one behind the other. -/
def cellsF (ps : List (Int × Int)) : List Value := ps.flatMap fun p => [.int .i64 p.1, .int .i64 p.2]
theorem cellsF_nil : cellsF [] = [] := rfl
theorem cellsF_cons (p : Int × Int) (ps : List (Int × Int)) : cellsF (p :: ps) = .int .i64 p.1 :: .int .i64 p.2 :: cellsF ps := rfl
theorem cellsF_len (ps : List (Int × Int)) : (cellsF ps).length = ps.length * 2 := by
  induction ps with
  | nil => rfl
  | cons p ps ih => rw [cellsF_cons]; simp [ih]; omega
theorem cellsF_app (ps qs : List (Int × Int)) : cellsF (ps ++ qs) = cellsF ps ++ cellsF qs := by unfold cellsF; rw [List.flatMap_append]
theorem cellsF_at : ∀ (ps : List (Int × Int)) (k : Nat), (cellsF ps)[k * 2]? = ps[k]?.map (fun p => Value.int .i64 p.1) ∧ (cellsF ps)[k * 2 + 1]? = ps[k]?.map (fun p => Value.int .i64 p.2)
  | [], k => by simp [cellsF_nil]
  | p :: ps, 0 => by simp [cellsF_cons]
  | p :: ps, k + 1 => by
    obtain ⟨h1, h2⟩ := cellsF_at ps k
    rw [cellsF_cons, show (k + 1) * 2 = k * 2 + 1 + 1 by omega]
    simp only [List.getElem?_cons_succ]
    exact ⟨h1, h2⟩
theorem cellsF_set : ∀ (ps : List (Int × Int)) (k : Nat) (p : Int × Int), ((cellsF ps).set (k * 2) (.int .i64 p.1)).set (k * 2 + 1) (.int .i64 p.2) = cellsF (ps.set k p)
  | [], k, p => by simp [cellsF_nil]
  | q :: ps, 0, p => by simp [cellsF_cons]
  | q :: ps, k + 1, p => by
    have h := cellsF_set ps k p
    rw [List.set_cons_succ, cellsF_cons, cellsF_cons, show (k + 1) * 2 = k * 2 + 1 + 1 by omega, ← h]
    simp only [List.set_cons_succ]
theorem cellsF_mem (ps : List (Int × Int)) : ∀ u ∈ cellsF ps, u.oneCell' = true := by
  intro u hu
  simp only [cellsF, List.mem_flatMap] at hu
  obtain ⟨p, _, hu⟩ := hu
  simp at hu
  rcases hu with rfl | rfl <;> rfl

theorem frac_info : (Try.prog.info? 30).map (fun i => (i.zero, i.size, i.bytes)) = some (some (.agg #[.int .i64 0, .int .i64 0]), 2, 16) := by kernel_rfl

/-- The slice (A, as long as ps, c) lies in a block of the call's own, from block B on, and holds the pairs ps. -/
def OwnF (w : World) (B : Nat) (A : Option Addr) (c : Nat) (ps : List (Int × Int)) : Prop :=
  w.ownsRow B 30 2 (.slice A ps.length c) ps.length (cellsF ps)
theorem OwnF.below {w w' : World} {B : Nat} {A : Option Addr} {c : Nat} {ps : List (Int × Int)} (h : OwnF w B A c ps) (hb : Below w.heap.size w w') : OwnF w' B A c ps := own_len h hb
theorem OwnF.base {w : World} {B B' : Nat} {A : Option Addr} {c : Nat} {ps : List (Int × Int)} (h : OwnF w B A c ps) (hB : B' ≤ B) : OwnF w B' A c ps := own_base h hB
theorem OwnF.drewN {w : World} {B : Nat} {A : Option Addr} {c : Nat} {ps : List (Int × Int)} (h : OwnF w B A c ps) (n : Nat) : OwnF (w.drewN n) B A c ps := h
theorem OwnF.drew {w : World} {B : Nat} {A : Option Addr} {c : Nat} {ps : List (Int × Int)} (h : OwnF w B A c ps) : OwnF w.drew B A c ps := h

section
variable {w : World} {B g c : Nat} {ps : List (Int × Int)}
theorem OwnF.cell (h : OwnF w B (some ⟨g, 0, none⟩) c ps) {i : Nat} {x y : Int} (hx : ps[i]? = some (x, y)) : w.cell? ⟨g, i * 2, none⟩ = some (.int .i64 x) ∧ w.cell? ⟨g, i * 2 + 1, none⟩ = some (.int .i64 y) := by
  have hi := (List.getElem?_eq_some_iff.1 hx).1
  have e1 := World.ownsRow.cellAt h (i * 2) (by omega)
  have e2 := World.ownsRow.cellAt h (i * 2 + 1) (by omega)
  obtain ⟨h1, h2⟩ := cellsF_at ps i
  rw [e1, e2, h1, h2, hx]
  exact ⟨rfl, rfl⟩
theorem OwnF.free (h : OwnF w B (some ⟨g, 0, none⟩) c ps) (i : Nat) : w.frozen? ⟨g, i, none⟩ = false := World.ownsRow.frozenAt h i
theorem OwnF.set_ (h : OwnF w B (some ⟨g, 0, none⟩) c ps) (i : Nat) (x y : Int) : OwnF ((w.setCell ⟨g, i * 2, none⟩ (.int .i64 x)).setCell ⟨g, i * 2 + 1, none⟩ (.int .i64 y)) B (some ⟨g, 0, none⟩) c (ps.set i (x, y)) := by
  have h1 := (World.ownsRow.stored h (i * 2) (.int .i64 x)).1
  have h2 := (World.ownsRow.stored h1 (i * 2 + 1) (.int .i64 y)).1
  unfold OwnF
  rw [List.length_set, ← cellsF_set]
  exact h2
theorem OwnF.ge (h : OwnF w B (some ⟨g, 0, none⟩) c ps) : B ≤ g := (World.ownsRow.lt h g rfl).1
theorem OwnF.lt (h : OwnF w B (some ⟨g, 0, none⟩) c ps) : g < w.heap.size := (World.ownsRow.lt h g rfl).2
theorem OwnF.other (h : OwnF w B (some ⟨g, 0, none⟩) c ps) {C i : Nat} (hne : C ≠ g) (u : Value) : OwnF (w.setCell ⟨C, i, none⟩ u) B (some ⟨g, 0, none⟩) c ps := by
  refine World.ownsRow.kept (row := some C) h ⟨rfl, rfl, rfl, by simp, fun k _ hk => ?_⟩ (.inr (by simp [Value.ownBlock]; omega))
  exact Below.heap_setCell _ _ _ _ (fun e => hk (by simp [e]))
theorem OwnF.other2 (h : OwnF w B (some ⟨g, 0, none⟩) c ps) {C : Nat} (hne : C ≠ g) (u v : Value) : OwnF ((w.setCell ⟨C, 0, none⟩ u).setCell ⟨C, 1, none⟩ v) B (some ⟨g, 0, none⟩) c ps := (h.other hne u).other hne v
end

theorem OwnF.empty (w : World) : OwnF (w.alloc (.cells #[] 30)) w.heap.size (some ⟨w.heap.size, 0, none⟩) 0 [] :=
  World.ownsRow_lit w #[] 0 (Nat.le_refl _) (Nat.zero_le _) rfl

/-- The slice (A, as long as ps, c) reads as the pairs ps. -/
def RdF (w : World) (A : Option Addr) (c : Nat) (ps : List (Int × Int)) : Prop :=
  (ps = [] ∧ (A = none → c = 0)) ∨ ∃ b, A = some ⟨b, 0, none⟩ ∧ ∀ k x y, ps[k]? = some (x, y) → w.cell? ⟨b, k * 2, none⟩ = some (.int .i64 x) ∧ w.cell? ⟨b, k * 2 + 1, none⟩ = some (.int .i64 y)
theorem RdF.nil (w : World) : RdF w none 0 [] := .inl ⟨rfl, fun _ => rfl⟩
theorem OwnF.rd {w : World} {B : Nat} {A : Option Addr} {c : Nat} {ps : List (Int × Int)} (h : OwnF w B A c ps) : RdF w A c ps := by
  have h' := h
  unfold OwnF at h
  rcases h.2 with ⟨hv, hn⟩ | ⟨g, cap, cur, hv, _⟩
  · injection hv with _ _ hc
    exact .inl ⟨List.eq_nil_of_length_eq_zero hn, fun _ => hc⟩
  · injection hv with hA _ hc
    subst hA
    exact .inr ⟨g, rfl, fun k x y hk => h'.cell hk⟩
theorem RdF.below {w w' : World} {A : Option Addr} {c : Nat} {ps : List (Int × Int)} (h : RdF w A c ps) (hb : Below w.heap.size w w') : RdF w' A c ps := by
  rcases h with h | ⟨b, rfl, hc⟩
  · exact .inl h
  · refine .inr ⟨b, rfl, fun k x y hk => ?_⟩
    obtain ⟨h1, h2⟩ := hc k x y hk
    exact ⟨(hb.cell (p := ⟨b, k * 2, none⟩) (World.block_lt_of_cell? w _ h1)).trans h1, (hb.cell (p := ⟨b, k * 2 + 1, none⟩) (World.block_lt_of_cell? w _ h2)).trans h2⟩
theorem RdF.drewN {w : World} {A : Option Addr} {c : Nat} {ps : List (Int × Int)} (h : RdF w A c ps) (n : Nat) : RdF (w.drewN n) A c ps := h
theorem RdF.at_ {w : World} {A : Option Addr} {c : Nat} {ps : List (Int × Int)} (h : RdF w A c ps) {k : Nat} (hk : k < ps.length) :
    ∃ b x y, A = some ⟨b, 0, none⟩ ∧ b < w.heap.size ∧ Hid (ps[k]? = some (x, y)) ∧ w.cell? ⟨b, k * 2, none⟩ = some (.int .i64 x) ∧ w.cell? ⟨b, k * 2 + 1, none⟩ = some (.int .i64 y) := by
  rcases h with ⟨rfl, _⟩ | ⟨b, rfl, hc⟩
  · simp at hk
  · obtain ⟨h1, h2⟩ := hc k (ps[k]).1 (ps[k]).2 (by simp [hk])
    exact ⟨b, (ps[k]).1, (ps[k]).2, rfl, World.block_lt_of_cell? w _ h1, Lib.hid (by simp [hk]), h1, h2⟩

theorem toList_madeCells_two (n : Nat) : (madeCells #[.int .i64 0, .int .i64 0] (n * 2)).toList = cellsF (List.replicate n (0, 0)) := by
  have e : cellsF (List.replicate n (0, 0)) = List.replicate (n * 2) (.int .i64 0) := by
    induction n with
    | zero => rfl
    | succ n ih => rw [List.replicate_succ, cellsF_cons, ih, show (n + 1) * 2 = n * 2 + 1 + 1 by omega, List.replicate_succ, List.replicate_succ]
  rw [e]
  apply List.ext_getElem?
  intro j
  by_cases hj : j < n * 2
  · have h2 : j % 2 < 2 := Nat.mod_lt _ (by decide)
    rcases Nat.mod_two_eq_zero_or_one j with h | h <;> simp [madeCells, hj, h]
  · simp [madeCells, hj]

/-- 'make([]Frac, n)'. -/
theorem wpList_make_fracs {ops : Array Oper} {rest : List Oper} {o : Oper} {a : Act} {w : World} {Q : Exit → Act → World → Prop} (hg : o.guard = none) (l c : Operand)
    (hop : o.op = Op.makeSlice 27 l c) (base n : Nat) (hl : a.eval l = .int .i64 (n : Int)) (hc : a.eval c = .int .i64 (n : Int)) (hn : n ≤ 1099511627776) (hb : base ≤ w.heap.size)
    (hK : ∀ w', OwnF w' base (some ⟨w.heap.size, 0, none⟩) n (List.replicate n (0, 0)) → Below base w w' → wpList Try.prog ops Q rest (a.put o.dst (.slice (some ⟨w.heap.size, 0, none⟩) n n)) w') :
    wpList Try.prog ops Q (o :: rest) a w := by
  obtain ⟨i0, hi, hz0, hz1, hz2⟩ := info_parts frac_info
  refine wpList_make_full w hg l c 27 hop base 30 i0 (.agg #[.int .i64 0, .int .i64 0]) 2 Try.underlying27 hi hz0 hz1 .i64 .i64 n n n hl hc rfl rfl (by rw [hz2]; omega) (by unfold maxLen; omega) hb ?_
  intro w' h1 h2
  refine hK w' ?_ ((Below.refl base w).grown h2 hb (fun k h => by cases h))
  unfold OwnF
  rw [List.length_replicate, ← toList_madeCells_two]
  exact h1

theorem ownF_shape {w : World} {B n : Nat} {v : Value} {ps : List (Int × Int)} (h : w.ownsRow B 30 2 v n (cellsF ps)) :
    n = ps.length ∧ ((v = .slice none 0 0 ∧ ps = []) ∨ ∃ g c, v = .slice (some ⟨g, 0, none⟩) ps.length c) := by
  have hl := h.1
  rw [cellsF_len] at hl
  rcases h.2 with ⟨hv, hn⟩ | ⟨g, cap, cur, hv, hg, _⟩
  · exact ⟨by omega, .inl ⟨hv, List.eq_nil_of_length_eq_zero (by omega)⟩⟩
  · exact ⟨by omega, .inr ⟨g, cap, by rw [hv]; congr 1; omega⟩⟩

theorem run_append_frac (ty : TypeId) (w : World) (base : Nat) (A0 : Option Addr) (c0 : Nat) (ps : List (Int × Int)) (hown : OwnF w base A0 c0 ps) (b c : Nat) (x y : Int)
    (h0 : w.cell? ⟨b, 0, none⟩ = some (.int .i64 x)) (h1 : w.cell? ⟨b, 1, none⟩ = some (.int .i64 y)) (hn : ps.length + 1 ≤ 1099511627776) (hbase : base ≤ w.heap.size) :
    ∃ g' c' w', (Builtin.append_ #[27, 27] ty #[.slice A0 ps.length c0, .slice (some ⟨b, 0, none⟩) 1 c]).run Try.prog w = .ok (.slice (some ⟨g', 0, none⟩) (ps.length + 1) c') w' ∧
      OwnF w' base (some ⟨g', 0, none⟩) c' (ps ++ [(x, y)]) ∧ w.grownBy w' (ofA A0) := by
  obtain ⟨i0, hi, hz0, hz1, hz2⟩ := info_parts frac_info
  have hblk : (Value.slice A0 ps.length c0).ownBlock = ofA A0 := by cases A0 <;> rfl
  obtain ⟨v', w', hrun, h2, h3, h4, _⟩ := run_append_own_at (P := Try.prog) w base 27 ty 30 i0 (.agg #[.int .i64 0, .int .i64 0]) 2 16 Try.underlying27 hi hz0 hz1 hz2 rfl (by decide) (.slice A0 ps.length c0) ps.length (cellsF ps) hown ⟨b, 0, none⟩ 1 c (cellsF [(x, y)]) rfl
    (fun j u hu => by
      match j, hu with
      | 0, hu => simp [cellsF_cons, cellsF_nil] at hu; subst hu; simpa [Addr.add] using h0
      | 1, hu => simp [cellsF_cons, cellsF_nil] at hu; subst hu; simpa [Addr.add] using h1
      | j + 2, hu => simp [cellsF_cons, cellsF_nil] at hu)
    (cellsF_mem _) (by unfold maxLen; omega) (by omega) hbase
  rw [← cellsF_app] at h2
  obtain ⟨_, ⟨hv, hz⟩ | ⟨g, c', hv⟩⟩ := ownF_shape h2
  · simp at hz
  · subst hv
    rw [List.length_append] at hrun h2
    exact ⟨g, c', w', hrun, by unfold OwnF; rw [List.length_append]; exact h2, hblk ▸ h3⟩

theorem wpList_append_frac {ops : Array Oper} {rest : List Oper} {o : Oper} {a : Act} {w : World} {Q : Exit → Act → World → Prop} (hgd : o.guard = none) (s x : Operand)
    (ho : o.op = .call { callee := .builtin .append, args := #[s, x], argTypes := #[27, 27] })
    (base : Nat) (A0 : Option Addr) (c0 : Nat) (ps : List (Int × Int)) (n : Nat) (hpn : ps.length = n) (hs : a.eval s = .slice A0 n c0) (hown : OwnF w base A0 c0 ps)
    (b c : Nat) (u v : Int) (hx : a.eval x = .slice (some ⟨b, 0, none⟩) 1 c) (h0 : w.cell? ⟨b, 0, none⟩ = some (.int .i64 u)) (h1 : w.cell? ⟨b, 1, none⟩ = some (.int .i64 v))
    (hn : n + 1 ≤ 1099511627776) (hbase : base ≤ w.heap.size)
    (h : ∀ g c' w', OwnF w' base (some ⟨g, 0, none⟩) c' (ps ++ [(u, v)]) → w.grownBy w' (ofA A0) → wpList Try.prog ops Q rest (a.put o.dst (.slice (some ⟨g, 0, none⟩) (n + 1) c')) w') :
    wpList Try.prog ops Q (o :: rest) a w := by
  subst hpn
  refine wpList_plain hgd fun K hK => ?_
  obtain ⟨g, c', w', hrun, h2, h3⟩ := run_append_frac o.type w base A0 c0 ps hown b c u v h0 h1 hn hbase
  unfold Oper.wp execOp
  simp only [ho, resolve, invoke, builtin, Sem.run_bind, Sem.run_pure, Result.andThen_ok, List.map_toArray, List.map_cons, List.map_nil, hs, hx, hrun]
  exact hK _ _ (h g c' w' h2 h3)
end Go.Proofs.Ytoipjhdnmiomeaa

/-
  Chapter 2: the contracts of VirtualOf, of the program and of the model.
-/
namespace Go.Proofs.Ytoipjhdnmiomeaa
open Go.RowKit

/-- Fractions as pairs. -/
def frL (qs : List Rat) : List (Int × Int) := qs.map fun q => (q.num, (q.den : Int))
theorem frL_len (qs : List Rat) : (frL qs).length = qs.length := by simp [frL]
theorem frL_at {qs : List Rat} {k : Nat} {x y : Int} (h : (frL qs)[k]? = some (x, y)) : ∃ q, qs[k]? = some q ∧ FrIs q x y := by
  unfold frL at h
  rw [List.getElem?_map] at h
  cases hq : qs[k]? with
  | none => rw [hq] at h; cases h
  | some q => rw [hq] at h; simp at h; exact ⟨q, rfl, h.1.symm, h.2.symm⟩
theorem frL_get {qs : List Rat} {k : Nat} {q : Rat} {x y : Int} (hq : qs[k]? = some q) (h : FrIs q x y) : (frL qs)[k]? = some (x, y) := by
  unfold frL
  rw [List.getElem?_map, hq, h.1, h.2]; rfl

/-- ps up to k, noughts behind. -/
def fillF (ps : List (Int × Int)) (k : Nat) : List (Int × Int) := ps.take k ++ List.replicate (ps.length - k) (0, 0)
theorem fillF_len (ps : List (Int × Int)) (k : Nat) (hk : k ≤ ps.length) : (fillF ps k).length = ps.length := by simp [fillF]; omega
theorem fillF_zero (ps : List (Int × Int)) : fillF ps 0 = List.replicate ps.length (0, 0) := by simp [fillF]
theorem fillF_all (ps : List (Int × Int)) : fillF ps ps.length = ps := by simp [fillF]
theorem fillF_set (ps : List (Int × Int)) (k : Nat) (x : Int × Int) (hx : ps[k]? = some x) : (fillF ps k).set k x = fillF ps (k + 1) := by
  obtain ⟨hk, rfl⟩ := List.getElem?_eq_some_iff.1 hx
  apply List.ext_getElem?
  intro j
  simp only [fillF, List.getElem?_set, List.getElem?_append, List.length_append, List.length_take, List.length_replicate, List.getElem?_take, List.getElem?_replicate]
  rcases Nat.lt_trichotomy j k with h | h | h
  · simp [show ¬ k = j by omega, show j < min k ps.length by omega, show j < min (k + 1) ps.length by omega, h, show j < k + 1 by omega]
  · subst h
    simp [show j < min (j + 1) ps.length by omega, show j < min j ps.length + (ps.length - j) by omega, hk]
  · simp [show ¬ k = j by omega, show ¬ j < min k ps.length by omega, show ¬ j < min (k + 1) ps.length by omega]
    have e1 : j - min k ps.length < ps.length - k ↔ j - min (k + 1) ps.length < ps.length - (k + 1) := by omega
    by_cases hh : j - min k ps.length < ps.length - k
    · rw [if_pos hh, if_pos (e1.1 hh)]
    · rw [if_neg hh, if_neg (fun x => hh (e1.2 x))]

/-- The virtual values of all values. -/
def virtL (xs : List Int) : List Rat := (List.range xs.length).map (virtQ xs)
theorem virtL_len (xs : List Int) : (virtL xs).length = xs.length := by simp [virtL]
theorem virtL_at {xs : List Int} {k : Nat} (h : k < xs.length) : (virtL xs)[k]? = some (virtQ xs k) := by simp [virtL, h]
theorem virtL_take {xs : List Int} {k : Nat} (h : k < xs.length) : (virtL xs).take (k + 1) = (virtL xs).take k ++ [virtQ xs k] := by rw [List.take_add_one, virtL_at h]; rfl

/-- What a call hands back: nil, or fractions in a block of its own; what was there is as it was. -/
def OutF (w : World) (o : Option (List Rat)) (e : Ending) (w' : World) : Prop :=
  Below w.heap.size w w' ∧ ((o = none ∧ e = .returned (.slice none 0 0)) ∨ ∃ qs g c, o = some qs ∧ e = .returned (.slice (some ⟨g, 0, none⟩) (frL qs).length c) ∧ OwnF w' w.heap.size (some ⟨g, 0, none⟩) c (frL qs))

def virtO (xs : List Int) : Option (List Rat) := if vW xs = true then some (virtL xs) else none

set_option maxHeartbeats 1000000 in
theorem SVirtualOf_any (A : Option Addr) (c : Nat) (xs : List Int) (w : World) (h : Rd w A c xs) (hl : xs.length ≤ 1048576) :
    Calls Try.prog 25 #[.slice A xs.length c] w (OutF w (virtO xs)) := by
  have HV := Lib.hid (validWeights_any A c xs w h (by omega))
  cases hv : vW xs with
  | false =>
    have HE := Lib.hid (show virtO xs = none by unfold virtO; rw [hv]; rfl)
    rw [hv] at HV
    clear hv
    go_enter Try.func25, Try.ntmps25
    go_wp2_with (refine HV.out.mono ?_; rintro e w1 ⟨rfl, rfl⟩)
    go_ret
    exact ⟨Below.refl _ _, .inl ⟨HE.out, rfl⟩⟩
  | true =>
    have HE := Lib.hid (show virtO xs = some (virtL xs) by unfold virtO; rw [hv]; rfl)
    rw [hv] at HV
    have HVV := Lib.hid hv
    obtain ⟨l1, l2⟩ := vW_le hv
    have HS := Lib.hid (fun v (hlt : v < xs.length) w h => Svirtual_any A c xs v _ _ w h hv hlt (FrIs.self _))
    clear hv
    have hempty := OwnF.empty w
    have HEm := Lib.hid hempty
    clear hempty
    go_enter Try.func25, Try.ntmps25
    go_wp2_with fail
    refine HV.out.mono ?_
    rintro e w1 ⟨rfl, rfl⟩
    go_wp2
    go_loopw [3, 4] (fun s i wr => ∃ k g c' : Nat, ∃ ps, k ≤ xs.length ∧ i = .int .i64 k ∧ ps.length = k ∧ s = .slice (some ⟨g, 0, none⟩) k c' ∧ OwnF wr w.heap.size (some ⟨g, 0, none⟩) c' ps ∧ Below w.heap.size w wr ∧ Hid (ps = frL ((virtL xs).take k)))
      (fun _ i _ => xs.length - (intOf i).toNat)
    case atStart => exact ⟨0, w.heap.size, 0, [], Nat.zero_le _, rfl, rfl, rfl, HEm.out, below_al _ _, Lib.hid rfl⟩
    case round =>
      obtain ⟨k, g, c', ps, hk, rfl, hpl, rfl, hown, hb, HP⟩ := hrel
      by_cases hlt : k < xs.length
      · have HF := Lib.hid (HS.out k hlt)
        generalize hx : (virtQ xs k).num = x at HF
        generalize hy : ((virtQ xs k).den : Int) = y at HF
        have HP2 := Lib.hid (show ps ++ [(x, y)] = frL ((virtL xs).take (k + 1)) by
          rw [virtL_take hlt, HP.out]; unfold frL; rw [List.map_append, ← hx, ← hy]; rfl)
        have HPL := Lib.hid hpl
        clear hx hy hpl
        have hr := h.below hb
        go_wp2_with fail
        refine (HF.out _ hr).mono ?_
        rintro e w2 ⟨rfl, hb2⟩
        have HO2 := Lib.hid ((hown.below hb2).below (below_al w2 (.cells #[.int .i64 x, .int .i64 y] 30)))
        have hB2 := below_up (below_up hb hb2) (below_al w2 (.cells #[.int .i64 x, .int .i64 y] 30))
        have hsz := hB2.size
        obtain ⟨c0, c1, _, _⟩ := (PairAt.new (w := w2) (x := x) (y := y)).facts
        have hge := hown.ge
        clear hown
        unfold frV
        go_wp2_with (at_builtin; refine wpList_append_frac rfl _ _ rfl w.heap.size _ c' ps k HPL.out rfl HO2.out w2.heap.size 1 x y rfl c0 c1 (by omega) hsz ?_; intro g3 c3 w3 ho3 hg3)
        have hB3 := hB2.grown hg3 hsz (fun j hj => by simp [ofA] at hj; omega)
        go_roundw
        case rel => exact ⟨k + 1, g3, c3, _, by omega, by go_num, by simp [HPL.out], rfl, ho3, hB3, HP2⟩
        case measure => simp [intOf] <;> omega
      · obtain rfl : k = xs.length := by omega
        have HE2 := Lib.hid (show ps = frL (virtL xs) by rw [HP.out, List.take_of_length_le (by rw [virtL_len]; omega)])
        go_wp2
        go_ret
        have e2 : (frL (virtL xs)).length = xs.length := by rw [frL_len, virtL_len]
        exact ⟨hb, .inr ⟨_, g, c', HE.out, by rw [e2]; rfl, HE2.out ▸ hown⟩⟩

set_option maxHeartbeats 1000000 in
theorem VirtualOf_any (A : Option Addr) (c : Nat) (xs : List Int) (w : World) (h : Rd w A c xs) (hcc : xs.length ≤ c) (hl : xs.length ≤ 1048576) :
    Calls Try.prog 18 #[.slice A xs.length c] w (OutF w (virtO xs)) := by
  have HV := Lib.hid (ValidWeights_any A c xs w h (by omega))
  cases hv : vW xs with
  | false =>
    have HE := Lib.hid (show virtO xs = none by unfold virtO; rw [hv]; rfl)
    rw [hv] at HV
    clear hv
    go_enter Try.func18, Try.ntmps18
    go_wp2_with (refine HV.out.mono ?_; rintro e w1 ⟨rfl, rfl⟩)
    go_ret
    exact ⟨Below.refl _ _, .inl ⟨HE.out, rfl⟩⟩
  | true =>
    have HE := Lib.hid (show virtO xs = some (virtL xs) by unfold virtO; rw [hv]; rfl)
    rw [hv] at HV
    have HVV := Lib.hid hv
    obtain ⟨l1, l2⟩ := vW_le hv
    obtain ⟨b, off, rfl⟩ := h.open1 l1
    have HM := Lib.hid (fun v (hlt : v ≤ 6) w h => manyFrom_any b off c xs v w h hcc (by omega) (by omega) (vW_small hv))
    clear hv
    go_enter Try.func18, Try.ntmps18
    go_wp2_with fail
    refine HV.out.mono ?_
    rintro e w1 ⟨rfl, rfl⟩
    go_wp2_with (at_make; refine wpList_make_fracs rfl _ _ rfl w.heap.size xs.length rfl rfl (by omega) (Nat.le_refl _) ?_; intro w0 ho0 hb0)
    go_loopw [14] (fun i wr => ∃ k : Nat, ∃ ps, k ≤ xs.length ∧ i = .int .i64 k ∧ ps.length = xs.length ∧ OwnF wr w.heap.size (some ⟨w.heap.size, 0, none⟩) xs.length ps ∧ Below w.heap.size w wr ∧ Hid (ps = fillF (frL (virtL xs)) k))
      (fun i _ => xs.length - (intOf i).toNat)
    case atStart => exact ⟨0, _, Nat.zero_le _, rfl, List.length_replicate, ho0, hb0, Lib.hid (by rw [fillF_zero, frL_len, virtL_len])⟩
    case round =>
      obtain ⟨k, ps, hk, rfl, hpl, hown, hb, HP⟩ := hrel
      by_cases hlt : k < xs.length
      · have hr := h.below hb
        obtain ⟨b', off', x, e', _, hx, hc⟩ := hr.at_ hlt
        injection e' with e'
        injection e' with e1 e2
        subst e1 e2
        obtain ⟨n, hn⟩ : ∃ n, n = (virtQ xs k).num := ⟨_, rfl⟩
        obtain ⟨d, hd⟩ : ∃ d, d = ((virtQ xs k).den : Int) := ⟨_, rfl⟩
        obtain ⟨p1, p2, p3, p4, p5⟩ := virt_parts HVV.out hx.out (show FrIs (virtQ xs k) n d from ⟨hn, hd⟩)
        obtain ⟨t1, t2⟩ := rev_b HVV.out (k + 1)
        have HM2 := Lib.hid (HM.out (k + 1) (by omega) _ hr)
        generalize tailW xs (k + 1) = T at p1 HM2 t1 t2
        have HC := Lib.hid (fun w => fracOf_any _ _ _ _ w p1 p2 (by omega) (by omega) (by omega))
        have HG := Lib.hid (show (frL (virtL xs))[k]? = some (n, d) from frL_get (virtL_at hlt) ⟨hn, hd⟩)
        have HP2 := Lib.hid (show ps.set k (n, d) = fillF (frL (virtL xs)) (k + 1) by rw [HP.out, fillF_set _ _ _ HG.out])
        have HPL := Lib.hid hpl
        obtain ⟨⟨u, v⟩, hu⟩ : ∃ q, ps[k]? = some q := ⟨ps[k]'(by omega), List.getElem?_eq_getElem (by omega)⟩
        have HU := Lib.hid hu
        clear p1 hn hd hpl hu
        go_wp2_with fail
        refine HM2.out.mono ?_
        rintro e w2 ⟨rfl, rfl⟩
        go_wp2_with fail
        refine (HC.out _).mono ?_
        rintro e w2 ⟨rfl, hb2⟩
        have hO2 := hown.below hb2
        have hB2 := below_up hb hb2
        obtain ⟨c0, c1⟩ := hO2.cell HU.out
        have f0 := hO2.free (k * 2)
        have f1 := hO2.free (k * 2 + 1)
        have HO3 := Lib.hid (hO2.set_ k n d)
        have hge := hown.ge
        clear hown hO2
        unfold frV
        go_wp2
        go_roundw
        case rel => exact ⟨k + 1, _, by omega, by go_num, by rw [List.length_set, HPL.out], HO3.out, (hB2.setCell hge _).setCell hge _, HP2⟩
        case measure => simp [intOf] <;> omega
      · obtain rfl : k = xs.length := by omega
        have e2 : (frL (virtL xs)).length = xs.length := by rw [frL_len, virtL_len]
        have HE2 := Lib.hid (show ps = frL (virtL xs) by have e3 := fillF_all (frL (virtL xs)); rw [e2] at e3; rw [HP.out, e3])
        have HE3 := Lib.hid e2
        clear e2
        go_wp2
        go_ret
        exact ⟨hb, .inr ⟨_, _, _, HE.out, by rw [HE3.out]; rfl, HE2.out ▸ hown⟩⟩
end Go.Proofs.Ytoipjhdnmiomeaa

/-
  The exact laws' helpers on fractions: that two lists that are the same are found so, that one is marked, and that the marks are held.
-/
namespace Go.Proofs.Ytoipjhdnmiomeaa
open Go.RowKit

/-- k, one more, and so on, two by two. -/
def upP (k : Int) (n : Nat) : List (Int × Int) := (List.range n).map (fun i => (k + 2 * (i : Nat), k + 2 * (i : Nat) + 1))
theorem upP_len (k : Int) (n : Nat) : (upP k n).length = n := by simp [upP]
theorem upP_at (k : Int) (n i : Nat) (h : i < n) : (upP k n)[i]? = some (k + 2 * i, k + 2 * i + 1) := by simp [upP, h]
def markP (k : Int) (ps : List (Int × Int)) (j : Nat) : List (Int × Int) := upP k j ++ ps.drop j
theorem markP_len (k : Int) (ps : List (Int × Int)) (j : Nat) (hj : j ≤ ps.length) : (markP k ps j).length = ps.length := by simp [markP, upP_len]; omega
theorem markP_zero (k : Int) (ps : List (Int × Int)) : markP k ps 0 = ps := by simp [markP, upP]
theorem markP_all (k : Int) (ps : List (Int × Int)) : markP k ps ps.length = upP k ps.length := by simp [markP]
theorem markP_set (k : Int) (ps : List (Int × Int)) (j : Nat) (hj : j < ps.length) : (markP k ps j).set j (k + 2 * j, k + 2 * j + 1) = markP k ps (j + 1) := by
  unfold markP
  rw [List.set_append, if_neg (by rw [upP_len]; omega), upP_len, Nat.sub_self]
  rw [List.drop_eq_getElem_cons hj, List.set_cons_zero]
  simp [upP, List.range_succ]

theorem ownF_addr {w : World} {B : Nat} {A : Option Addr} {c : Nat} {ps : List (Int × Int)} (h : OwnF w B A c ps) (hp : 0 < ps.length) : ∃ g, A = some ⟨g, 0, none⟩ := by
  rcases ownF_shape h with ⟨_, ⟨hv, hz⟩ | ⟨g, c', hv⟩⟩
  · subst hz; simp at hp
  · injection hv with hA; exact ⟨g, hA⟩
theorem OwnF.half {w : World} {B g c : Nat} {ps : List (Int × Int)} (h : OwnF w B (some ⟨g, 0, none⟩) c ps) (i : Nat) (u : Value) {x y : Int} (hx : ps[i]? = some (x, y)) :
    (w.setCell ⟨g, i * 2, none⟩ u).cell? ⟨g, i * 2 + 1, none⟩ = some (.int .i64 y) ∧ (w.setCell ⟨g, i * 2, none⟩ u).frozen? ⟨g, i * 2 + 1, none⟩ = false := by
  have h1 := (World.ownsRow.stored h (i * 2) u).1
  refine ⟨?_, World.ownsRow.frozenAt h1 _⟩
  rw [World.cell?_setCell_other w ⟨g, i * 2, none⟩ ⟨g, i * 2 + 1, none⟩ _ (fun e => by injection e with _ e2; omega)]
  exact (h.cell hx).2

end Go.Proofs.Ytoipjhdnmiomeaa

/-
  Chapter 2: the contracts of IsRegular, of the program and of the model.
-/
namespace Go.Proofs.Ytoipjhdnmiomeaa
open Go.RowKit

/-- Up to k no virtual value is less than the one ahead of it. -/
def regUp (xs : List Int) (k : Nat) : Bool := (List.range k).all fun v => decide (v = 0) || !decide (virtQ xs v < virtQ xs (v - 1))
/-- What IsRegular hands back. -/
def regB (xs : List Int) : Bool := vW xs && regUp xs xs.length
theorem regUp_one (xs : List Int) : regUp xs 1 = true := by simp [regUp]
theorem regUp_yes {xs : List Int} {k : Nat} (h : regUp xs k = true) (h2 : ¬ virtQ xs k < virtQ xs (k - 1)) : regUp xs (k + 1) = true := by
  unfold regUp at *
  rw [List.range_succ, List.all_append, h]
  simp [h2]
theorem regUp_no {xs : List Int} {k : Nat} (hk : 1 ≤ k) (hl : k < xs.length) (h2 : virtQ xs k < virtQ xs (k - 1)) : regB xs = false := by
  have : regUp xs xs.length = false := by
    unfold regUp
    rw [List.all_eq_false]
    exact ⟨k, List.mem_range.2 hl, by simp [h2]; omega⟩
  unfold regB; rw [this]; simp
theorem regB_yes {xs : List Int} (hv : vW xs = true) (h : regUp xs xs.length = true) : regB xs = true := by unfold regB; rw [hv, h]; rfl
theorem regB_bad {xs : List Int} (hv : vW xs = false) : regB xs = false := by unfold regB; rw [hv]; rfl
theorem regB_reg {xs : List Int} (h : regB xs = true) : regW xs := by
  intro v hv
  simp only [regB, regUp, Bool.and_eq_true, List.all_eq_true] at h
  have := h.2 (v + 1) (List.mem_range.2 hv)
  simp at this
  exact Rat.not_lt.1 this

theorem virt_bd {xs : List Int} {v : Nat} {n d : Int} (hv : vW xs = true) (hlt : v < xs.length) (hq : FrIs (virtQ xs v) n d) : -36 ≤ n ∧ n ≤ 36 ∧ 1 ≤ d ∧ d ≤ 6 := by
  obtain ⟨p1, p2, p3, p4, p5⟩ := virt_parts hv (List.getElem?_eq_getElem hlt) hq
  obtain ⟨t1, t2⟩ := rev_b hv (v + 1)
  have := fq_le p2 p1
  omega

set_option maxHeartbeats 1000000 in
theorem IsRegular_any (A : Option Addr) (c : Nat) (xs : List Int) (w : World) (h : Rd w A c xs) (hcc : xs.length ≤ c) (hl : xs.length ≤ 1048576) :
    Calls Try.prog 31 #[.slice A xs.length c] w fun e w' => e = .returned (.bool (regB xs)) ∧ Below w.heap.size w w' := by
  have HV := Lib.hid (VirtualOf_any A c xs w h hcc hl)
  cases hv : vW xs with
  | false =>
    have HE := Lib.hid (regB_bad hv)
    rw [show virtO xs = none by unfold virtO; rw [hv]; rfl] at HV
    clear hv
    go_enter Try.func31, Try.ntmps31
    go_wp2_with fail
    refine HV.out.mono ?_
    rintro e w1 ⟨hb, ⟨_, rfl⟩ | ⟨qs, g, c', he, _⟩⟩
    · go_wp2
      go_loopw [4] (fun i wr => i = .int .i64 1 ∧ Below w.heap.size w wr) (fun _ _ => 0)
      case atStart => exact ⟨rfl, hb⟩
      case round =>
        obtain ⟨rfl, hbr⟩ := hrel
        go_wp2
        go_ret
        exact ⟨by rw [HE.out]; rfl, hbr⟩
    · cases he
  | true =>
    rw [show virtO xs = some (virtL xs) by unfold virtO; rw [hv]; rfl] at HV
    have HVV := Lib.hid hv
    obtain ⟨l1, l2⟩ := vW_le hv
    clear hv
    go_enter Try.func31, Try.ntmps31
    go_wp2_with fail
    refine HV.out.mono ?_
    rintro e w1 ⟨hb, ⟨he, _⟩ | ⟨qs, g, c', he, rfl, ho⟩⟩
    · cases he
    have e2 : (frL qs).length = xs.length := by obtain rfl := Option.some.inj he; rw [frL_len, virtL_len]
    have HQ := Lib.hid (show qs = virtL xs from (Option.some.inj he).symm)
    rw [e2]
    have hR := ho.rd
    clear he e2 ho
    go_wp2
    go_loopw [4] (fun i wr => ∃ k : Nat, 1 ≤ k ∧ k ≤ xs.length ∧ i = .int .i64 k ∧ Below w.heap.size w wr ∧ Below w1.heap.size w1 wr ∧ Hid (regUp xs k = true)) (fun i _ => xs.length - (intOf i).toNat)
    case atStart => exact ⟨1, Nat.le_refl _, l1, rfl, hb, Below.refl _ _, Lib.hid (regUp_one xs)⟩
    case round =>
      obtain ⟨k, hk1, hk, rfl, hbr, hbr1, HP⟩ := hrel
      by_cases hlt : k < xs.length
      · obtain ⟨b1, x, y, e0, hb1, hx, hc1, hc2⟩ := (hR.below hbr1).at_ (k := k) (by rw [HQ.out, frL_len, virtL_len]; exact hlt)
        obtain rfl : g = b1 := by simpa using e0
        clear e0
        obtain ⟨b2, x', y', e3, hb2, hx', hc3, hc4⟩ := (hR.below hbr1).at_ (k := k - 1) (by rw [HQ.out, frL_len, virtL_len]; omega)
        obtain rfl : g = b2 := by simpa using e3
        clear e3
        have HX : Hid (FrIs (virtQ xs k) x y) := Lib.hid (by
          obtain ⟨q, h1, h2⟩ := frL_at hx.out
          rw [HQ.out, virtL_at hlt] at h1
          exact Option.some.inj h1 ▸ h2)
        have HX' : Hid (FrIs (virtQ xs (k - 1)) x' y') := Lib.hid (by
          obtain ⟨q, h1, h2⟩ := frL_at hx'.out
          rw [HQ.out, virtL_at (by omega)] at h1
          exact Option.some.inj h1 ▸ h2)
        obtain ⟨m1, m2, m3, m4⟩ := virt_bd HVV.out hlt HX.out
        obtain ⟨m5, m6, m7, m8⟩ := virt_bd HVV.out (show k - 1 < xs.length by omega) HX'.out
        have HL := Lib.hid (lessF_is HX.out HX'.out)
        obtain ⟨u1, u2⟩ := mul_bd m1 m2 m7 m8 (by omega)
        obtain ⟨u3, u4⟩ := mul_bd m5 m6 m3 m4 (by omega)
        have e1 : ((k : Int) - 1) = ((k - 1 : Nat) : Int) := by omega
        have hk2 : k - 1 < xs.length := by omega
        have hk3 : ((k - 1 : Nat) : Int) < (xs.length : Int) := by omega
        clear hx hx'
        by_cases hq : virtQ xs k < virtQ xs (k - 1)
        · have HE := Lib.hid (regUp_no hk1 hlt hq)
          have HLL := Lib.hid (show lessF x y x' y' = true by rw [HL.out]; simpa using hq)
          clear hq
          go_wp2_with fail
          refine region_tail 9 (by kernel_rfl) (by kernel_rfl) ?_
          simp only [List.take_succ_cons, List.take_zero, List.drop_succ_cons, List.drop_zero]
          iterate 9 (refine wpStill_step (fun K hK => ?_); go_simp; (try go_bits); refine hK _ ?_; clear hK K)
          refine wpStill_nil ?_
          go_wp2_with fail
          refine (less_any x y x' y' _ _ HLL.out (by omega) (by omega) (by omega) (by omega)).mono ?_
          rintro e w4 ⟨rfl, hb4⟩
          go_wp2
          go_ret
          exact ⟨by rw [HE.out]; rfl, below_up hbr.drew hb4⟩
        · have HE := Lib.hid (regUp_yes HP.out hq)
          have HLL := Lib.hid (show lessF x y x' y' = false by rw [HL.out]; simpa using hq)
          clear hq
          go_wp2_with fail
          refine region_tail 9 (by kernel_rfl) (by kernel_rfl) ?_
          simp only [List.take_succ_cons, List.take_zero, List.drop_succ_cons, List.drop_zero]
          iterate 9 (refine wpStill_step (fun K hK => ?_); go_simp; (try go_bits); refine hK _ ?_; clear hK K)
          refine wpStill_nil ?_
          go_wp2_with fail
          refine (less_any x y x' y' _ _ HLL.out (by omega) (by omega) (by omega) (by omega)).mono ?_
          rintro e w4 ⟨rfl, hb4⟩
          go_wp2
          go_roundw
          case rel => exact ⟨k + 1, by omega, by omega, by go_num, below_up hbr.drew hb4, below_up hbr1.drew hb4, HE⟩
          case measure => simp [intOf] <;> omega
      · obtain rfl : k = xs.length := by omega
        have HE := Lib.hid (regB_yes HVV.out HP.out)
        have hp : (0 : Int) < (xs.length : Int) := by omega
        go_wp2
        go_ret
        exact ⟨by rw [HE.out]; simp; omega, hbr⟩

end Go.Proofs.Ytoipjhdnmiomeaa
