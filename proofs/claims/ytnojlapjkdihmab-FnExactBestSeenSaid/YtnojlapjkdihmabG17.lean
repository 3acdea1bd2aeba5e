/-
  Chapter 2: the contracts of what reckons with fractions, of the program, of the model and of the laws.
-/
import Derived.Test.YtnojlapjkdihmabG16
namespace Go.Proofs.Ytnojlapjkdihmab
open Go.RowKit

theorem pair_in {a w' : World} {B : Nat} {t : Nat} {x y : Value} (hb : Below (a.alloc (.cells #[x, y] t)).heap.size (a.alloc (.cells #[x, y] t)) w') (hB : B = a.heap.size) :
    w'.heap[B]? = some (.cells #[x, y] t (0, 0)) := by
  subst hB
  refine (hb.block _ (by simp)).trans ?_
  unfold World.alloc
  simp
theorem pair_facts {w' : World} {B t : Nat} {x y : Value} (h : w'.heap[B]? = some (.cells #[x, y] t (0, 0))) :
    w'.cell? ⟨B, 0, none⟩ = some x ∧ w'.cell? ⟨B, 1, none⟩ = some y ∧ w'.frozen? ⟨B, 0, none⟩ = false ∧ w'.frozen? ⟨B, 1, none⟩ = false := by
  simp [World.cell?, World.frozen?, h]
theorem pair_set {w' : World} {B t : Nat} {x y : Value} (u v : Value) (h : w'.heap[B]? = some (.cells #[x, y] t (0, 0))) :
    ((w'.setCell ⟨B, 0, none⟩ u).setCell ⟨B, 1, none⟩ v).heap[B]? = some (.cells #[u, v] t (0, 0)) := by
  have h1 := heap_setCell_same w' B 0 _ _ u h
  have h2 := heap_setCell_same _ B 1 _ _ v h1
  exact h2
theorem pair_below {a w' : World} {B : Nat} {o : Obj} (u v : Value) (hb : Below (a.alloc o).heap.size (a.alloc o) w') (hB : B = a.heap.size) :
    Below a.heap.size a ((w'.setCell ⟨B, 0, none⟩ u).setCell ⟨B, 1, none⟩ v) := by
  subst hB
  exact ((((Below.refl _ a).alloc (Nat.le_refl _) o).trans (hb.mono (by simp))).setCell (Nat.le_refl _) u).setCell (Nat.le_refl _) v
theorem pair_new (w : World) (o : Obj) : (w.alloc o).heap[w.heap.size]? = some o := by
  show (w.heap.push o)[w.heap.size]? = some o
  simp
theorem pair_old {X w' : World} {B : Nat} {o : Obj} (hb : Below X.heap.size X w') (hX : X.heap[B]? = some o) : w'.heap[B]? = some o :=
  (hb.block _ (Array.getElem?_eq_some_iff.1 hX).1).trans hX
theorem pair_below2 {a X w' : World} {B : Nat} (u v : Value) (hb : Below X.heap.size X w') (ha : Below a.heap.size a X) (hB : a.heap.size ≤ B) :
    Below a.heap.size a ((w'.setCell ⟨B, 0, none⟩ u).setCell ⟨B, 1, none⟩ v) :=
  ((ha.trans (hb.mono ha.size)).setCell hB u).setCell hB v
theorem below_up {a b c : World} (h : Below a.heap.size a b) (k : Below b.heap.size b c) : Below a.heap.size a c := h.trans (k.mono h.size)
theorem below_al (a : World) (o : Obj) : Below a.heap.size a (a.alloc o) := (Below.refl _ a).alloc (Nat.le_refl _) o

theorem wholeOf_any (k : Int) (w : World) :
    Calls Try.prog 65 #[.int .i64 k] w fun e w' => e = .returned (frV k 1) ∧ Below w.heap.size w w' := by
  go_enter Try.func65, Try.ntmps65
  go_wp2
  refine bodyPost_ret (v := frV k 1) (by simp [results, Try.results65, go_sem, frV]) rfl ⟨rfl, Below.alloc (Below.refl _ _) (Nat.le_refl _) _⟩

theorem commonFactor_is (x y g : Int) (w : World) (hx : 0 ≤ x) (hy : 0 ≤ y) (hx1 : x ≤ 4611686018427387903) (hy1 : y ≤ 4611686018427387903) (hg : g = (Nat.gcd x.natAbs y.natAbs : Nat)) :
    Calls Try.prog 61 #[.int .i64 x, .int .i64 y] w fun e w' => e = .returned (.int .i64 g) ∧ Below w.heap.size w w' := by
  obtain ⟨a, rfl⟩ : ∃ a : Nat, x = a := ⟨x.natAbs, by omega⟩
  obtain ⟨b, rfl⟩ : ∃ b : Nat, y = b := ⟨y.natAbs, by omega⟩
  have := commonFactor_any a b w (by omega) (by omega)
  rw [hg]
  exact this

/-- Of the fraction of up and dn: by which both are divided. -/
theorem frac_parts {up dn n d : Int} (hq : FrIs (fq up dn) n d) (h1 : 1 ≤ dn) : ∃ g : Int, g = ((Nat.gcd up.natAbs dn.natAbs : Nat) : Int) ∧ 1 ≤ g ∧ g ≤ dn ∧ n = up.tdiv g ∧ d = dn / g ∧ (0 ≤ up → n = up / g) := by
  obtain ⟨hn, hd⟩ := hq.same (fq_is h1)
  have hg1 : 1 ≤ Nat.gcd up.natAbs dn.natAbs := Nat.gcd_pos_of_pos_right _ (by omega)
  have hgd : Nat.gcd up.natAbs dn.natAbs ≤ dn.natAbs := Nat.gcd_le_right _ (by omega)
  refine ⟨_, rfl, by omega, by omega, hn, ?_, fun h => ?_⟩
  · rw [hd, Int.tdiv_eq_ediv_of_nonneg (by omega)]
  · rw [hn, Int.tdiv_eq_ediv_of_nonneg h]

set_option maxHeartbeats 600000 in
theorem fracOf_any (up dn n d : Int) (w : World) (hq : FrIs (fq up dn) n d) (h1 : 1 ≤ dn) (hu0 : -4611686018427387903 ≤ up) (hu1 : up ≤ 4611686018427387903) (hd : dn ≤ 4611686018427387903) :
    Calls Try.prog 41 #[.int .i64 up, .int .i64 dn] w fun e w' => e = .returned (frV n d) ∧ Below w.heap.size w w' := by
  obtain ⟨g, hg, g1, g2, hn, hdd, hnn⟩ := frac_parts hq h1
  obtain ⟨m, hm⟩ : ∃ m : Int, m = (up.natAbs : Int) := ⟨_, rfl⟩
  have hmm : max up (-up) = m := by omega
  have HC := Lib.hid (fun w => commonFactor_is (max up (-up)) dn g w (by omega) (by omega) (by omega) hd (by rw [hg, hmm, hm]; rfl))
  clear hmm hm
  have HD := Lib.hid hdd
  have hs : 0 ≤ up ∨ up < 0 := by omega
  rcases hs with h0 | h0
  · rw [show max up (-up) = up by omega] at HC
    have HN := Lib.hid (hnn h0)
    clear hn hnn hdd hg hq
    go_enter Try.func41, Try.ntmps41
    go_wp2_with fail
    refine (HC.out _).mono ?_
    rintro e w' ⟨rfl, hb⟩
    have hk := pair_in hb rfl
    obtain ⟨c0, c1, f0, f1⟩ := pair_facts hk
    go_wp2_with fail
    go_region
    all_goals go_wp2
    obtain ⟨e0, e1, _, _⟩ := pair_facts (pair_set (.int .i64 (up / g)) (.int .i64 (dn / g)) hk)
    have hB := pair_below (.int .i64 (up / g)) (.int .i64 (dn / g)) hb rfl
    refine bodyPost_ret (v := frV n d) (by simp [results, Try.results41, go_sem, frV, e0, e1, HN.out, HD.out]) rfl ⟨rfl, hB.drew⟩
  · rw [show max up (-up) = -up by omega] at HC
    have HN := Lib.hid hn
    clear hn hnn hdd hg hq
    go_enter Try.func41, Try.ntmps41
    go_wp2_with fail
    refine (HC.out _).mono ?_
    rintro e w' ⟨rfl, hb⟩
    have hk := pair_in hb rfl
    obtain ⟨c0, c1, f0, f1⟩ := pair_facts hk
    go_wp2_with fail
    go_region
    all_goals go_wp2
    obtain ⟨e0, e1, _, _⟩ := pair_facts (pair_set (.int .i64 (up.tdiv g)) (.int .i64 (dn / g)) hk)
    have hB := pair_below (.int .i64 (up.tdiv g)) (.int .i64 (dn / g)) hb rfl
    refine bodyPost_ret (v := frV n d) (by simp [results, Try.results41, go_sem, frV, e0, e1, HN.out, HD.out]) rfl ⟨rfl, hB.drew⟩

set_option maxHeartbeats 600000 in
theorem Sfrac_any (up dn n d : Int) (w : World) (hq : FrIs (fq up dn) n d) (h1 : 1 ≤ dn) (hu0 : -4611686018427387903 ≤ up) (hu1 : up ≤ 4611686018427387903) (hd : dn ≤ 4611686018427387903) :
    Calls Try.prog 37 #[.int .i64 up, .int .i64 dn] w fun e w' => e = .returned (frV n d) ∧ Below w.heap.size w w' := by
  obtain ⟨g, hg, g1, g2, hn, hdd, hnn⟩ := frac_parts hq h1
  have HC := Lib.hid (fun w => gcd_any up dn w hu0 hu1 (by omega) hd)
  rw [← hg] at HC
  have HD := Lib.hid hdd
  have hs : 0 ≤ up ∨ up < 0 := by omega
  rcases hs with h0 | h0
  · have HN := Lib.hid (hnn h0)
    clear hn hnn hdd hg hq
    go_enter Try.func37, Try.ntmps37
    go_wp2_with fail
    refine (HC.out _).mono ?_
    rintro e w' ⟨rfl, hb⟩
    have hk := pair_in hb rfl
    obtain ⟨c0, c1, f0, f1⟩ := pair_facts hk
    go_wp2_with fail
    go_region
    all_goals go_wp2
    obtain ⟨e0, e1, _, _⟩ := pair_facts (pair_set (.int .i64 (up / g)) (.int .i64 (dn / g)) hk)
    have hB := pair_below (.int .i64 (up / g)) (.int .i64 (dn / g)) hb rfl
    refine bodyPost_ret (v := frV n d) (by simp [results, Try.results37, go_sem, frV, e0, e1, HN.out, HD.out]) rfl ⟨rfl, hB.drew⟩
  · have HN := Lib.hid hn
    clear hn hnn hdd hg hq
    go_enter Try.func37, Try.ntmps37
    go_wp2_with fail
    refine (HC.out _).mono ?_
    rintro e w' ⟨rfl, hb⟩
    have hk := pair_in hb rfl
    obtain ⟨c0, c1, f0, f1⟩ := pair_facts hk
    go_wp2_with fail
    go_region
    all_goals go_wp2
    obtain ⟨e0, e1, _, _⟩ := pair_facts (pair_set (.int .i64 (up.tdiv g)) (.int .i64 (dn / g)) hk)
    have hB := pair_below (.int .i64 (up.tdiv g)) (.int .i64 (dn / g)) hb rfl
    refine bodyPost_ret (v := frV n d) (by simp [results, Try.results37, go_sem, frV, e0, e1, HN.out, HD.out]) rfl ⟨rfl, hB.drew⟩

end Go.Proofs.Ytnojlapjkdihmab

/-
  Chapter 2: the contracts of less, plus and times of fractions.
-/
namespace Go.Proofs.Ytnojlapjkdihmab
open Go.RowKit

/-- Whether the fraction a/b is less than c/d. -/
def lessF (a b c d : Int) : Bool := decide (a * d < c * b)
theorem lessF_is {p q : Rat} {a b c d : Int} (hp : FrIs p a b) (hq : FrIs q c d) : lessF a b c d = decide (p < q) := by
  unfold lessF
  obtain ⟨rfl, rfl⟩ := hp
  obtain ⟨rfl, rfl⟩ := hq
  rw [Bool.eq_iff_iff, decide_eq_true_iff, decide_eq_true_iff, Rat.lt_iff]

set_option maxHeartbeats 600000 in
theorem less_any (a b c d : Int) (l : Bool) (w : World) (hl : lessF a b c d = l) (h1 : -4611686018427387904 ≤ a * d) (h2 : a * d ≤ 4611686018427387903) (h3 : -4611686018427387904 ≤ c * b) (h4 : c * b ≤ 4611686018427387903) :
    Calls Try.prog 82 #[frV a b, frV c d] w fun e w' => e = .returned (.bool l) ∧ Below w.heap.size w w' := by
  have HL := Lib.hid hl
  clear hl
  unfold frV
  go_enter Try.func82, Try.ntmps82
  go_wp2
  go_ret
  exact ⟨by rw [← HL.out]; rfl, ((below_al _ _).alloc (by simp) _)⟩

set_option maxHeartbeats 600000 in
theorem Sless_any (a b c d : Int) (l : Bool) (w : World) (hl : lessF a b c d = l) (h1 : -4611686018427387904 ≤ a * d) (h2 : a * d ≤ 4611686018427387903) (h3 : -4611686018427387904 ≤ c * b) (h4 : c * b ≤ 4611686018427387903) :
    Calls Try.prog 68 #[frV a b, frV c d] w fun e w' => e = .returned (.bool l) ∧ Below w.heap.size w w' := by
  have HL := Lib.hid hl
  clear hl
  unfold frV
  go_enter Try.func68, Try.ntmps68
  go_wp2
  go_ret
  exact ⟨by rw [← HL.out]; rfl, ((below_al _ _).alloc (by simp) _)⟩

set_option maxHeartbeats 600000 in
theorem plus_any (a b c d n m : Int) (w : World) (hq : FrIs (fq (a * d + c * b) (b * d)) n m) (h1 : -2305843009213693951 ≤ a * d) (h2 : a * d ≤ 2305843009213693951) (h3 : -2305843009213693951 ≤ c * b) (h4 : c * b ≤ 2305843009213693951) (h5 : 1 ≤ b * d) (h6 : b * d ≤ 4611686018427387903) :
    Calls Try.prog 79 #[frV a b, frV c d] w fun e w' => e = .returned (frV n m) ∧ Below w.heap.size w w' := by
  have HC := Lib.hid (fun w => fracOf_any _ _ _ _ w hq h5 (by omega) (by omega) h6)
  clear hq
  unfold frV
  go_enter Try.func79, Try.ntmps79
  go_wp2_with fail
  refine (HC.out _).mono ?_
  rintro e w' ⟨rfl, hb⟩
  have hk := pair_in (B := w.heap.size + 1 + 1) hb (by simp)
  obtain ⟨c0, c1, f0, f1⟩ := pair_facts hk
  unfold frV
  go_wp2
  obtain ⟨e0, e1, _, _⟩ := pair_facts (pair_set (.int .i64 n) (.int .i64 m) hk)
  have hB := pair_below (.int .i64 n) (.int .i64 m) (B := w.heap.size + 1 + 1) hb (by simp)
  refine bodyPost_ret (v := frV n m) (by simp [results, Try.results79, go_sem, frV, e0, e1]) rfl ⟨rfl, ?_⟩
  exact below_up (below_al _ _) (below_up (below_al _ _) hB)

set_option maxHeartbeats 600000 in
theorem Splus_any (a b c d n m : Int) (w : World) (hq : FrIs (fq (a * d + c * b) (b * d)) n m) (h1 : -2305843009213693951 ≤ a * d) (h2 : a * d ≤ 2305843009213693951) (h3 : -2305843009213693951 ≤ c * b) (h4 : c * b ≤ 2305843009213693951) (h5 : 1 ≤ b * d) (h6 : b * d ≤ 4611686018427387903) :
    Calls Try.prog 62 #[frV a b, frV c d] w fun e w' => e = .returned (frV n m) ∧ Below w.heap.size w w' := by
  have HC := Lib.hid (fun w => Sfrac_any _ _ _ _ w hq h5 (by omega) (by omega) h6)
  clear hq
  unfold frV
  go_enter Try.func62, Try.ntmps62
  go_wp2_with fail
  refine (HC.out _).mono ?_
  rintro e w' ⟨rfl, hb⟩
  have hk := pair_in (B := w.heap.size + 1 + 1) hb (by simp)
  obtain ⟨c0, c1, f0, f1⟩ := pair_facts hk
  unfold frV
  go_wp2
  obtain ⟨e0, e1, _, _⟩ := pair_facts (pair_set (.int .i64 n) (.int .i64 m) hk)
  have hB := pair_below (.int .i64 n) (.int .i64 m) (B := w.heap.size + 1 + 1) hb (by simp)
  refine bodyPost_ret (v := frV n m) (by simp [results, Try.results62, go_sem, frV, e0, e1]) rfl ⟨rfl, ?_⟩
  exact below_up (below_al _ _) (below_up (below_al _ _) hB)

set_option maxHeartbeats 600000 in
theorem times_any (a b k n m : Int) (w : World) (hq : FrIs (fq (a * k) b) n m) (h1 : -4611686018427387904 < a * k) (h2 : a * k ≤ 4611686018427387903) (h5 : 1 ≤ b) (h6 : b ≤ 4611686018427387903) :
    Calls Try.prog 77 #[frV a b, .int .i64 k] w fun e w' => e = .returned (frV n m) ∧ Below w.heap.size w w' := by
  have HC := Lib.hid (fun w => fracOf_any _ _ _ _ w hq h5 (by omega) (by omega) h6)
  clear hq
  unfold frV
  go_enter Try.func77, Try.ntmps77
  go_wp2_with fail
  refine (HC.out _).mono ?_
  rintro e w' ⟨rfl, hb⟩
  have hk := pair_in (B := w.heap.size + 1) hb (by simp)
  obtain ⟨c0, c1, f0, f1⟩ := pair_facts hk
  unfold frV
  go_wp2
  obtain ⟨e0, e1, _, _⟩ := pair_facts (pair_set (.int .i64 n) (.int .i64 m) hk)
  have hB := pair_below (.int .i64 n) (.int .i64 m) (B := w.heap.size + 1) hb (by simp)
  refine bodyPost_ret (v := frV n m) (by simp [results, Try.results77, go_sem, frV, e0, e1]) rfl ⟨rfl, ?_⟩
  exact below_up (below_al _ _) hB

set_option maxHeartbeats 600000 in
theorem Stimes_any (a b c d n m : Int) (w : World) (hq : FrIs (fq (a * c) (b * d)) n m) (h1 : -2305843009213693951 ≤ a * c) (h2 : a * c ≤ 2305843009213693951) (h5 : 1 ≤ b * d) (h6 : b * d ≤ 4611686018427387903) :
    Calls Try.prog 63 #[frV a b, frV c d] w fun e w' => e = .returned (frV n m) ∧ Below w.heap.size w w' := by
  have HC := Lib.hid (fun w => Sfrac_any _ _ _ _ w hq h5 (by omega) (by omega) h6)
  clear hq
  unfold frV
  go_enter Try.func63, Try.ntmps63
  go_wp2_with fail
  refine (HC.out _).mono ?_
  rintro e w' ⟨rfl, hb⟩
  have hk := pair_in (B := w.heap.size + 1 + 1) hb (by simp)
  obtain ⟨c0, c1, f0, f1⟩ := pair_facts hk
  unfold frV
  go_wp2
  obtain ⟨e0, e1, _, _⟩ := pair_facts (pair_set (.int .i64 n) (.int .i64 m) hk)
  have hB := pair_below (.int .i64 n) (.int .i64 m) (B := w.heap.size + 1 + 1) hb (by simp)
  refine bodyPost_ret (v := frV n m) (by simp [results, Try.results63, go_sem, frV, e0, e1]) rfl ⟨rfl, ?_⟩
  exact below_up (below_al _ _) (below_up (below_al _ _) hB)
end Go.Proofs.Ytnojlapjkdihmab
