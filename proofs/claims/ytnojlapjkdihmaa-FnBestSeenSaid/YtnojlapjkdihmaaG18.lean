/-
  Chapter 2: the contracts of what reckons with fractions, of the program, of the model and of the laws.
-/
import Derived.Test.YtnojlapjkdihmaaG17
import Derived.Deep.RegionWith
import Derived.StillTailTactics
namespace Go.Proofs.Ytnojlapjkdihmaa
open Go.RowKit

theorem pair_in {a w' : World} {B : Nat} {t : Nat} {x y : Value} (hb : Below (a.alloc (.cells #[x, y] t)).heap.size (a.alloc (.cells #[x, y] t)) w') (hB : B = a.heap.size) :
    w'.heap[B]? = some (.cells #[x, y] t (0, 0)) := by
  subst hB
  refine (hb.block _ (by simp)).trans ?_
  unfold World.alloc
  simp
theorem pair_facts {w' : World} {B t : Nat} {x y : Value} (h : w'.heap[B]? = some (.cells #[x, y] t (0, 0))) :
    w'.cell? ⟨B, 0, none⟩ = some x ∧ w'.cell? ⟨B, 1, none⟩ = some y ∧ w'.frozen? ⟨B, 0, none⟩ = false ∧ w'.frozen? ⟨B, 1, none⟩ = false := by
  simp [World.cell?, World.frozen?, h]
theorem pair_set {w' : World} {B t : Nat} {x y : Value} (u v : Value) (h : w'.heap[B]? = some (.cells #[x, y] t (0, 0))) :
    ((w'.setCell ⟨B, 0, none⟩ u).setCell ⟨B, 1, none⟩ v).heap[B]? = some (.cells #[u, v] t (0, 0)) := by
  have h1 := heap_setCell_same w' B 0 _ _ u h
  have h2 := heap_setCell_same _ B 1 _ _ v h1
  exact h2
theorem pair_below {a w' : World} {B : Nat} {o : Obj} (u v : Value) (hb : Below (a.alloc o).heap.size (a.alloc o) w') (hB : B = a.heap.size) :
    Below a.heap.size a ((w'.setCell ⟨B, 0, none⟩ u).setCell ⟨B, 1, none⟩ v) := by
  subst hB
  exact ((((Below.refl _ a).alloc (Nat.le_refl _) o).trans (hb.mono (by simp))).setCell (Nat.le_refl _) u).setCell (Nat.le_refl _) v
theorem pair_new (w : World) (o : Obj) : (w.alloc o).heap[w.heap.size]? = some o := by
  show (w.heap.push o)[w.heap.size]? = some o
  simp
theorem pair_old {X w' : World} {B : Nat} {o : Obj} (hb : Below X.heap.size X w') (hX : X.heap[B]? = some o) : w'.heap[B]? = some o :=
  (hb.block _ (Array.getElem?_eq_some_iff.1 hX).1).trans hX
theorem pair_below2 {a X w' : World} {B : Nat} (u v : Value) (hb : Below X.heap.size X w') (ha : Below a.heap.size a X) (hB : a.heap.size ≤ B) :
    Below a.heap.size a ((w'.setCell ⟨B, 0, none⟩ u).setCell ⟨B, 1, none⟩ v) :=
  ((ha.trans (hb.mono ha.size)).setCell hB u).setCell hB v
theorem below_up {a b c : World} (h : Below a.heap.size a b) (k : Below b.heap.size b c) : Below a.heap.size a c := h.trans (k.mono h.size)
theorem below_al (a : World) (o : Obj) : Below a.heap.size a (a.alloc o) := (Below.refl _ a).alloc (Nat.le_refl _) o

theorem wholeOf_any (k : Int) (w : World) :
    Calls Try.prog 167 #[.int .i64 k] w fun e w' => e = .returned (frV k 1) ∧ Below w.heap.size w w' := by
  go_enter Try.func167, Try.ntmps167
  go_wp2
  refine bodyPost_ret (v := frV k 1) (by simp [results, Try.results167, go_sem, frV]) rfl ⟨rfl, Below.alloc (Below.refl _ _) (Nat.le_refl _) _⟩

theorem commonFactor_is (x y g : Int) (w : World) (hx : 0 ≤ x) (hy : 0 ≤ y) (hx1 : x ≤ 4611686018427387903) (hy1 : y ≤ 4611686018427387903) (hg : g = (Nat.gcd x.natAbs y.natAbs : Nat)) :
    Calls Try.prog 164 #[.int .i64 x, .int .i64 y] w fun e w' => e = .returned (.int .i64 g) ∧ Below w.heap.size w w' := by
  obtain ⟨a, rfl⟩ : ∃ a : Nat, x = a := ⟨x.natAbs, by omega⟩
  obtain ⟨b, rfl⟩ : ∃ b : Nat, y = b := ⟨y.natAbs, by omega⟩
  have := commonFactor_any a b w (by omega) (by omega)
  rw [hg]
  exact this

/-- Of the fraction of up and dn: by which both are divided. -/
theorem frac_parts {up dn n d : Int} (hq : FrIs (fq up dn) n d) (h1 : 1 ≤ dn) : ∃ g : Int, g = ((Nat.gcd up.natAbs dn.natAbs : Nat) : Int) ∧ 1 ≤ g ∧ g ≤ dn ∧ n = up.tdiv g ∧ d = dn / g ∧ (0 ≤ up → n = up / g) := by
  obtain ⟨hn, hd⟩ := hq.same (fq_is h1)
  have hg1 : 1 ≤ Nat.gcd up.natAbs dn.natAbs := Nat.gcd_pos_of_pos_right _ (by omega)
  have hgd : Nat.gcd up.natAbs dn.natAbs ≤ dn.natAbs := Nat.gcd_le_right _ (by omega)
  refine ⟨_, rfl, by omega, by omega, hn, ?_, fun h => ?_⟩
  · rw [hd, Int.tdiv_eq_ediv_of_nonneg (by omega)]
  · rw [hn, Int.tdiv_eq_ediv_of_nonneg h]

set_option maxHeartbeats 600000 in
theorem fracOf_any (up dn n d : Int) (w : World) (hq : FrIs (fq up dn) n d) (h1 : 1 ≤ dn) (hu0 : -4611686018427387903 ≤ up) (hu1 : up ≤ 4611686018427387903) (hd : dn ≤ 4611686018427387903) :
    Calls Try.prog 105 #[.int .i64 up, .int .i64 dn] w fun e w' => e = .returned (frV n d) ∧ Below w.heap.size w w' := by
  obtain ⟨g, hg, g1, g2, hn, hdd, hnn⟩ := frac_parts hq h1
  obtain ⟨m, hm⟩ : ∃ m : Int, m = (up.natAbs : Int) := ⟨_, rfl⟩
  have hmm : max up (-up) = m := by omega
  have HC := Lib.hid (fun w => commonFactor_is (max up (-up)) dn g w (by omega) (by omega) (by omega) hd (by rw [hg, hmm, hm]; rfl))
  clear hmm hm
  have HD := Lib.hid hdd
  have hs : 0 ≤ up ∨ up < 0 := by omega
  rcases hs with h0 | h0
  · rw [show max up (-up) = up by omega] at HC
    have HN := Lib.hid (hnn h0)
    clear hn hnn hdd hg hq
    go_enter Try.func105, Try.ntmps105
    go_wp2_with fail
    refine (HC.out _).mono ?_
    rintro e w' ⟨rfl, hb⟩
    have hk := pair_in hb rfl
    obtain ⟨c0, c1, f0, f1⟩ := pair_facts hk
    go_wp2_with fail
    go_region
    all_goals go_wp2
    obtain ⟨e0, e1, _, _⟩ := pair_facts (pair_set (.int .i64 (up / g)) (.int .i64 (dn / g)) hk)
    have hB := pair_below (.int .i64 (up / g)) (.int .i64 (dn / g)) hb rfl
    refine bodyPost_ret (v := frV n d) (by simp [results, Try.results105, go_sem, frV, e0, e1, HN.out, HD.out]) rfl ⟨rfl, hB.drew⟩
  · rw [show max up (-up) = -up by omega] at HC
    have HN := Lib.hid hn
    clear hn hnn hdd hg hq
    go_enter Try.func105, Try.ntmps105
    go_wp2_with fail
    refine (HC.out _).mono ?_
    rintro e w' ⟨rfl, hb⟩
    have hk := pair_in hb rfl
    obtain ⟨c0, c1, f0, f1⟩ := pair_facts hk
    go_wp2_with fail
    go_region
    all_goals go_wp2
    obtain ⟨e0, e1, _, _⟩ := pair_facts (pair_set (.int .i64 (up.tdiv g)) (.int .i64 (dn / g)) hk)
    have hB := pair_below (.int .i64 (up.tdiv g)) (.int .i64 (dn / g)) hb rfl
    refine bodyPost_ret (v := frV n d) (by simp [results, Try.results105, go_sem, frV, e0, e1, HN.out, HD.out]) rfl ⟨rfl, hB.drew⟩

set_option maxHeartbeats 600000 in
theorem Sfrac_any (up dn n d : Int) (w : World) (hq : FrIs (fq up dn) n d) (h1 : 1 ≤ dn) (hu0 : -4611686018427387903 ≤ up) (hu1 : up ≤ 4611686018427387903) (hd : dn ≤ 4611686018427387903) :
    Calls Try.prog 106 #[.int .i64 up, .int .i64 dn] w fun e w' => e = .returned (frV n d) ∧ Below w.heap.size w w' := by
  obtain ⟨g, hg, g1, g2, hn, hdd, hnn⟩ := frac_parts hq h1
  have HC := Lib.hid (fun w => gcd_any up dn w hu0 hu1 (by omega) hd)
  rw [← hg] at HC
  have HD := Lib.hid hdd
  have hs : 0 ≤ up ∨ up < 0 := by omega
  rcases hs with h0 | h0
  · have HN := Lib.hid (hnn h0)
    clear hn hnn hdd hg hq
    go_enter Try.func106, Try.ntmps106
    go_wp2_with fail
    refine (HC.out _).mono ?_
    rintro e w' ⟨rfl, hb⟩
    have hk := pair_in hb rfl
    obtain ⟨c0, c1, f0, f1⟩ := pair_facts hk
    go_wp2_with fail
    go_region
    all_goals go_wp2
    obtain ⟨e0, e1, _, _⟩ := pair_facts (pair_set (.int .i64 (up / g)) (.int .i64 (dn / g)) hk)
    have hB := pair_below (.int .i64 (up / g)) (.int .i64 (dn / g)) hb rfl
    refine bodyPost_ret (v := frV n d) (by simp [results, Try.results106, go_sem, frV, e0, e1, HN.out, HD.out]) rfl ⟨rfl, hB.drew⟩
  · have HN := Lib.hid hn
    clear hn hnn hdd hg hq
    go_enter Try.func106, Try.ntmps106
    go_wp2_with fail
    refine (HC.out _).mono ?_
    rintro e w' ⟨rfl, hb⟩
    have hk := pair_in hb rfl
    obtain ⟨c0, c1, f0, f1⟩ := pair_facts hk
    go_wp2_with fail
    go_region
    all_goals go_wp2
    obtain ⟨e0, e1, _, _⟩ := pair_facts (pair_set (.int .i64 (up.tdiv g)) (.int .i64 (dn / g)) hk)
    have hB := pair_below (.int .i64 (up.tdiv g)) (.int .i64 (dn / g)) hb rfl
    refine bodyPost_ret (v := frV n d) (by simp [results, Try.results106, go_sem, frV, e0, e1, HN.out, HD.out]) rfl ⟨rfl, hB.drew⟩

set_option maxHeartbeats 600000 in
theorem LfracOf_any (up dn n d : Int) (w : World) (hq : FrIs (fq up dn) n d) (h1 : 1 ≤ dn) (hu0 : -4611686018427387903 ≤ up) (hu1 : up ≤ 4611686018427387903) (hd : dn ≤ 4611686018427387903) :
    Calls Try.prog 34 #[.int .i64 up, .int .i64 dn] w fun e w' => e = .returned (frV n d) ∧ Below w.heap.size w w' := by
  obtain ⟨g, hg, g1, g2, hn, hdd, hnn⟩ := frac_parts hq h1
  have HC := Lib.hid (fun w => divisor_any up dn w hu0 hu1 (by omega) hd)
  rw [← hg] at HC
  have HD := Lib.hid hdd
  have hs : 0 ≤ up ∨ up < 0 := by omega
  rcases hs with h0 | h0
  · have HN := Lib.hid (hnn h0)
    clear hn hnn hdd hg hq
    go_enter Try.func34, Try.ntmps34
    go_wp2_with fail
    refine (HC.out _).mono ?_
    rintro e w' ⟨rfl, hb⟩
    have hk := pair_in hb rfl
    obtain ⟨c0, c1, f0, f1⟩ := pair_facts hk
    go_wp2_with fail
    go_region
    all_goals go_wp2
    obtain ⟨e0, e1, _, _⟩ := pair_facts (pair_set (.int .i64 (up / g)) (.int .i64 (dn / g)) hk)
    have hB := pair_below (.int .i64 (up / g)) (.int .i64 (dn / g)) hb rfl
    refine bodyPost_ret (v := frV n d) (by simp [results, Try.results34, go_sem, frV, e0, e1, HN.out, HD.out]) rfl ⟨rfl, hB.drew⟩
  · have HN := Lib.hid hn
    clear hn hnn hdd hg hq
    go_enter Try.func34, Try.ntmps34
    go_wp2_with fail
    refine (HC.out _).mono ?_
    rintro e w' ⟨rfl, hb⟩
    have hk := pair_in hb rfl
    obtain ⟨c0, c1, f0, f1⟩ := pair_facts hk
    go_wp2_with fail
    go_region
    all_goals go_wp2
    obtain ⟨e0, e1, _, _⟩ := pair_facts (pair_set (.int .i64 (up.tdiv g)) (.int .i64 (dn / g)) hk)
    have hB := pair_below (.int .i64 (up.tdiv g)) (.int .i64 (dn / g)) hb rfl
    refine bodyPost_ret (v := frV n d) (by simp [results, Try.results34, go_sem, frV, e0, e1, HN.out, HD.out]) rfl ⟨rfl, hB.drew⟩
end Go.Proofs.Ytnojlapjkdihmaa

/-
  Chapter 2: the contracts of less, plus and times of fractions.
-/
namespace Go.Proofs.Ytnojlapjkdihmaa
open Go.RowKit

/-- Whether the fraction a/b is less than c/d. -/
def lessF (a b c d : Int) : Bool := decide (a * d < c * b)
theorem lessF_is {p q : Rat} {a b c d : Int} (hp : FrIs p a b) (hq : FrIs q c d) : lessF a b c d = decide (p < q) := by
  unfold lessF
  obtain ⟨rfl, rfl⟩ := hp
  obtain ⟨rfl, rfl⟩ := hq
  rw [Bool.eq_iff_iff, decide_eq_true_iff, decide_eq_true_iff, Rat.lt_iff]

set_option maxHeartbeats 600000 in
theorem less_any (a b c d : Int) (l : Bool) (w : World) (hl : lessF a b c d = l) (h1 : -4611686018427387904 ≤ a * d) (h2 : a * d ≤ 4611686018427387903) (h3 : -4611686018427387904 ≤ c * b) (h4 : c * b ≤ 4611686018427387903) :
    Calls Try.prog 206 #[frV a b, frV c d] w fun e w' => e = .returned (.bool l) ∧ Below w.heap.size w w' := by
  have HL := Lib.hid hl
  clear hl
  unfold frV
  go_enter Try.func206, Try.ntmps206
  go_wp2
  go_ret
  exact ⟨by rw [← HL.out]; rfl, ((below_al _ _).alloc (by simp) _)⟩

set_option maxHeartbeats 600000 in
theorem Sless_any (a b c d : Int) (l : Bool) (w : World) (hl : lessF a b c d = l) (h1 : -4611686018427387904 ≤ a * d) (h2 : a * d ≤ 4611686018427387903) (h3 : -4611686018427387904 ≤ c * b) (h4 : c * b ≤ 4611686018427387903) :
    Calls Try.prog 174 #[frV a b, frV c d] w fun e w' => e = .returned (.bool l) ∧ Below w.heap.size w w' := by
  have HL := Lib.hid hl
  clear hl
  unfold frV
  go_enter Try.func174, Try.ntmps174
  go_wp2
  go_ret
  exact ⟨by rw [← HL.out]; rfl, ((below_al _ _).alloc (by simp) _)⟩

set_option maxHeartbeats 600000 in
theorem lessOf_any (a b c d : Int) (l : Bool) (w : World) (hl : lessF a b c d = l) (h1 : -4611686018427387904 ≤ a * d) (h2 : a * d ≤ 4611686018427387903) (h3 : -4611686018427387904 ≤ c * b) (h4 : c * b ≤ 4611686018427387903) :
    Calls Try.prog 33 #[frV a b, frV c d] w fun e w' => e = .returned (.bool l) ∧ Below w.heap.size w w' := by
  have HL := Lib.hid hl
  clear hl
  unfold frV
  go_enter Try.func33, Try.ntmps33
  go_wp2
  go_ret
  exact ⟨by rw [← HL.out]; rfl, ((below_al _ _).alloc (by simp) _)⟩

set_option maxHeartbeats 600000 in
theorem plus_any (a b c d n m : Int) (w : World) (hq : FrIs (fq (a * d + c * b) (b * d)) n m) (h1 : -2305843009213693951 ≤ a * d) (h2 : a * d ≤ 2305843009213693951) (h3 : -2305843009213693951 ≤ c * b) (h4 : c * b ≤ 2305843009213693951) (h5 : 1 ≤ b * d) (h6 : b * d ≤ 4611686018427387903) :
    Calls Try.prog 196 #[frV a b, frV c d] w fun e w' => e = .returned (frV n m) ∧ Below w.heap.size w w' := by
  have HC := Lib.hid (fun w => fracOf_any _ _ _ _ w hq h5 (by omega) (by omega) h6)
  clear hq
  unfold frV
  go_enter Try.func196, Try.ntmps196
  go_wp2_with fail
  refine (HC.out _).mono ?_
  rintro e w' ⟨rfl, hb⟩
  have hk := pair_in (B := w.heap.size + 1 + 1) hb (by simp)
  obtain ⟨c0, c1, f0, f1⟩ := pair_facts hk
  unfold frV
  go_wp2
  obtain ⟨e0, e1, _, _⟩ := pair_facts (pair_set (.int .i64 n) (.int .i64 m) hk)
  have hB := pair_below (.int .i64 n) (.int .i64 m) (B := w.heap.size + 1 + 1) hb (by simp)
  refine bodyPost_ret (v := frV n m) (by simp [results, Try.results196, go_sem, frV, e0, e1]) rfl ⟨rfl, ?_⟩
  exact below_up (below_al _ _) (below_up (below_al _ _) hB)

set_option maxHeartbeats 600000 in
theorem Splus_any (a b c d n m : Int) (w : World) (hq : FrIs (fq (a * d + c * b) (b * d)) n m) (h1 : -2305843009213693951 ≤ a * d) (h2 : a * d ≤ 2305843009213693951) (h3 : -2305843009213693951 ≤ c * b) (h4 : c * b ≤ 2305843009213693951) (h5 : 1 ≤ b * d) (h6 : b * d ≤ 4611686018427387903) :
    Calls Try.prog 170 #[frV a b, frV c d] w fun e w' => e = .returned (frV n m) ∧ Below w.heap.size w w' := by
  have HC := Lib.hid (fun w => Sfrac_any _ _ _ _ w hq h5 (by omega) (by omega) h6)
  clear hq
  unfold frV
  go_enter Try.func170, Try.ntmps170
  go_wp2_with fail
  refine (HC.out _).mono ?_
  rintro e w' ⟨rfl, hb⟩
  have hk := pair_in (B := w.heap.size + 1 + 1) hb (by simp)
  obtain ⟨c0, c1, f0, f1⟩ := pair_facts hk
  unfold frV
  go_wp2
  obtain ⟨e0, e1, _, _⟩ := pair_facts (pair_set (.int .i64 n) (.int .i64 m) hk)
  have hB := pair_below (.int .i64 n) (.int .i64 m) (B := w.heap.size + 1 + 1) hb (by simp)
  refine bodyPost_ret (v := frV n m) (by simp [results, Try.results170, go_sem, frV, e0, e1]) rfl ⟨rfl, ?_⟩
  exact below_up (below_al _ _) (below_up (below_al _ _) hB)

set_option maxHeartbeats 600000 in
theorem times_any (a b k n m : Int) (w : World) (hq : FrIs (fq (a * k) b) n m) (h1 : -4611686018427387904 < a * k) (h2 : a * k ≤ 4611686018427387903) (h5 : 1 ≤ b) (h6 : b ≤ 4611686018427387903) :
    Calls Try.prog 194 #[frV a b, .int .i64 k] w fun e w' => e = .returned (frV n m) ∧ Below w.heap.size w w' := by
  have HC := Lib.hid (fun w => fracOf_any _ _ _ _ w hq h5 (by omega) (by omega) h6)
  clear hq
  unfold frV
  go_enter Try.func194, Try.ntmps194
  go_wp2_with fail
  refine (HC.out _).mono ?_
  rintro e w' ⟨rfl, hb⟩
  have hk := pair_in (B := w.heap.size + 1) hb (by simp)
  obtain ⟨c0, c1, f0, f1⟩ := pair_facts hk
  unfold frV
  go_wp2
  obtain ⟨e0, e1, _, _⟩ := pair_facts (pair_set (.int .i64 n) (.int .i64 m) hk)
  have hB := pair_below (.int .i64 n) (.int .i64 m) (B := w.heap.size + 1) hb (by simp)
  refine bodyPost_ret (v := frV n m) (by simp [results, Try.results194, go_sem, frV, e0, e1]) rfl ⟨rfl, ?_⟩
  exact below_up (below_al _ _) hB

set_option maxHeartbeats 600000 in
theorem Stimes_any (a b c d n m : Int) (w : World) (hq : FrIs (fq (a * c) (b * d)) n m) (h1 : -2305843009213693951 ≤ a * c) (h2 : a * c ≤ 2305843009213693951) (h5 : 1 ≤ b * d) (h6 : b * d ≤ 4611686018427387903) :
    Calls Try.prog 171 #[frV a b, frV c d] w fun e w' => e = .returned (frV n m) ∧ Below w.heap.size w w' := by
  have HC := Lib.hid (fun w => Sfrac_any _ _ _ _ w hq h5 (by omega) (by omega) h6)
  clear hq
  unfold frV
  go_enter Try.func171, Try.ntmps171
  go_wp2_with fail
  refine (HC.out _).mono ?_
  rintro e w' ⟨rfl, hb⟩
  have hk := pair_in (B := w.heap.size + 1 + 1) hb (by simp)
  obtain ⟨c0, c1, f0, f1⟩ := pair_facts hk
  unfold frV
  go_wp2
  obtain ⟨e0, e1, _, _⟩ := pair_facts (pair_set (.int .i64 n) (.int .i64 m) hk)
  have hB := pair_below (.int .i64 n) (.int .i64 m) (B := w.heap.size + 1 + 1) hb (by simp)
  refine bodyPost_ret (v := frV n m) (by simp [results, Try.results171, go_sem, frV, e0, e1]) rfl ⟨rfl, ?_⟩
  exact below_up (below_al _ _) (below_up (below_al _ _) hB)
end Go.Proofs.Ytnojlapjkdihmaa

/-
  Chapter 2: the contracts of the model's virtual and of the program's slopeOf.
-/
namespace Go.Proofs.Ytnojlapjkdihmaa
open Go.RowKit

/-- A region that draws, all but its last operations quiet. -/
theorem region_tail {P : Program} {id : Nat} {Q : Exit → Act → World → Prop} {a : Act} {w : World} {l : List Oper} (n : Nat) (hm : P.follows .mixedOrders = true) (hB : Region.lexTailB .any l.toArray n = true)
    (h : wpStill P l.toArray w.drew (fun a' => wpList P l.toArray Q (l.drop n) a' w.drew) (l.take n) a) : (Code.region id l.toArray true).wp P Q a w := wp_region_still_tail n hm hB h

theorem virt_parts {xs : List Int} {v : Nat} {x n d : Int} (hv : vW xs = true) (hx : xs[v]? = some x) (hq : FrIs (virtQ xs v) n d) :
    FrIs (fq (v * x - tailW xs (v + 1)) x) n d ∧ 1 ≤ x ∧ x ≤ 6 ∧ 0 ≤ (v : Int) * x ∧ (v : Int) * x ≤ 36 := by
  have hlt := (List.getElem?_eq_some_iff.1 hx).1
  have hx1 := vW_mem hv x (List.mem_of_getElem? hx)
  have hw : wt xs v = x := by unfold wt; rw [List.getD_eq_getElem?_getD, hx]; rfl
  have h6 := (vW_le hv).2
  refine ⟨?_, hx1.1, hx1.2, Int.mul_nonneg (by omega) (by omega), ?_⟩
  · unfold virtQ at hq
    rw [hw] at hq
    exact hq
  · have := Int.mul_le_mul (show (v : Int) ≤ 6 by omega) hx1.2 (by omega) (by omega)
    omega

end Go.Proofs.Ytnojlapjkdihmaa

/-
  Chapter 2, the program: the contracts of slopeOf and steepestFrom.
-/
namespace Go.Proofs.Ytnojlapjkdihmaa
open Go.RowKit

theorem slope_parts {xs : List Int} {u v : Nat} {n d : Int} (hv : vW xs = true) (huv : u < v) (hvl : v ≤ xs.length) (hq : FrIs (slopeQ xs u v) n d) :
    FrIs (fq (u * tailW xs u - v * tailW xs v) (tailW xs u - tailW xs v)) n d ∧ 1 ≤ tailW xs u - tailW xs v ∧ -216 ≤ n ∧ n ≤ 216 ∧ 1 ≤ d ∧ d ≤ 36 := by
  have h1 := tailW_lt (vW_valid hv) huv hvl
  have l6 := (vW_le hv).2
  have r1 := revW_le hv (show u ≤ 6 by omega)
  have r2 := revW_le hv (show v ≤ 6 by omega)
  have r3 := revW_nn hv u
  have r4 := revW_nn hv v
  have t1 := rev_b hv u
  have t2 := rev_b hv v
  have hf := fq_le (up := revW xs u - revW xs v) (dn := tailW xs u - tailW xs v) (by omega) hq
  exact ⟨hq, by omega, by omega, by omega, by omega, by omega⟩

theorem mul_bd {a d A D : Int} (h1 : -A ≤ a) (h2 : a ≤ A) (h3 : 1 ≤ d) (h4 : d ≤ D) (hA : 0 ≤ A) : -(A * D) ≤ a * d ∧ a * d ≤ A * D := by
  have e1 : A * d ≤ A * D := Int.mul_le_mul_of_nonneg_left h4 hA
  have e2 : a * d ≤ A * d := Int.mul_le_mul_of_nonneg_right h2 (by omega)
  have e3 : -A * d ≤ a * d := Int.mul_le_mul_of_nonneg_right h1 (by omega)
  have e4 : -A * d = -(A * d) := Int.neg_mul _ _
  constructor <;> omega

/-- The pair x, y lies in the block B, and nothing else. -/
def PairAt (w : World) (B : Nat) (x y : Int) : Prop := w.heap[B]? = some (.cells #[.int .i64 x, .int .i64 y] 36 (0, 0))
theorem PairAt.lt {w : World} {B : Nat} {x y : Int} (h : PairAt w B x y) : B < w.heap.size := (Array.getElem?_eq_some_iff.1 h).1
theorem PairAt.below {w w' : World} {B : Nat} {x y : Int} (h : PairAt w B x y) (hb : Below w.heap.size w w') : PairAt w' B x y := (hb.block _ h.lt).trans h
theorem PairAt.new {w : World} {x y : Int} : PairAt (w.alloc (.cells #[.int .i64 x, .int .i64 y] 36)) w.heap.size x y := pair_new w _
theorem PairAt.old {w : World} {B : Nat} {x y : Int} (h : PairAt w B x y) (o : Obj) : PairAt (w.alloc o) B x y := h.below (below_al w o)
theorem PairAt.set_ {w : World} {B : Nat} {x y : Int} (h : PairAt w B x y) (u v : Int) : PairAt ((w.setCell ⟨B, 0, none⟩ (.int .i64 u)).setCell ⟨B, 1, none⟩ (.int .i64 v)) B u v := pair_set _ _ h
theorem PairAt.other {w : World} {B C : Nat} {x y : Int} (h : PairAt w B x y) (hne : B ≠ C) (u v : Value) : PairAt ((w.setCell ⟨C, 0, none⟩ u).setCell ⟨C, 1, none⟩ v) B x y := by
  unfold PairAt at *
  rw [Below.heap_setCell _ _ _ _ (by exact hne), Below.heap_setCell _ _ _ _ (by exact hne)]
  exact h
theorem PairAt.facts {w : World} {B : Nat} {x y : Int} (h : PairAt w B x y) : w.cell? ⟨B, 0, none⟩ = some (.int .i64 x) ∧ w.cell? ⟨B, 1, none⟩ = some (.int .i64 y) ∧ w.frozen? ⟨B, 0, none⟩ = false ∧ w.frozen? ⟨B, 1, none⟩ = false := pair_facts h
theorem below_set2 {a w : World} {B : Nat} (h : Below a.heap.size a w) (hB : a.heap.size ≤ B) (u v : Value) : Below a.heap.size a ((w.setCell ⟨B, 0, none⟩ u).setCell ⟨B, 1, none⟩ v) := (h.setCell hB u).setCell hB v

theorem steepTo_less {w : List Int} {h u : Nat} {s : Nat × Rat} (hl : slopeQ w u h < s.2) : steepTo w h (u + 1) s = steepTo w h u s := by rw [steepTo, if_pos hl]
theorem steepTo_more {w : List Int} {h u : Nat} {s : Nat × Rat} (hl : ¬ slopeQ w u h < s.2) : steepTo w h (u + 1) s = steepTo w h u (u, slopeQ w u h) := by rw [steepTo, if_neg hl]

end Go.Proofs.Ytnojlapjkdihmaa
