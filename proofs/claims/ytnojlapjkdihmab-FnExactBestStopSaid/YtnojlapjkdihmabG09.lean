/-
  Chapter 2: at whatever weights the program's ValidWeights, RevenueAt and BestPrice answer as the model's.
-/
import Derived.Test.YtnojlapjkdihmabG08
import Derived.Test.YtnojlapjkdihmabG07
namespace Go.Proofs.Ytnojlapjkdihmab
open Go.RowKit

/-- The answer v, and what was there is as it was. -/
def AnsIs (w : World) (v : Value) (e : Ending) (w' : World) : Prop := e = .returned v ∧ Below w.heap.size w w'
theorem AnsIs.of_same {w : World} {v : Value} {e : Ending} {w' : World} (h : e = .returned v ∧ w = w') : AnsIs w v e w' := ⟨h.1, h.2 ▸ Below.refl _ _⟩

end Go.Proofs.Ytnojlapjkdihmab

/-
  Chapter 2, plain arithmetic: fractions in lowest terms.
-/
namespace Go.Proofs.Ytnojlapjkdihmab

/-- up divided by dn. -/
def fq (up dn : Int) : Rat := (up : Rat) / (dn : Rat)
/-- The numbers n and d are the fraction q in lowest terms. -/
def FrIs (q : Rat) (n d : Int) : Prop := n = q.num ∧ d = q.den
theorem FrIs.self (q : Rat) : FrIs q q.num q.den := ⟨rfl, rfl⟩
theorem FrIs.pos {q : Rat} {n d : Int} (h : FrIs q n d) : 1 ≤ d := by have := q.den_pos; rw [h.2]; omega
theorem FrIs.same {q : Rat} {n d n' d' : Int} (h : FrIs q n d) (h' : FrIs q n' d') : n = n' ∧ d = d' := ⟨h.1.trans h'.1.symm, h.2.trans h'.2.symm⟩
theorem FrIs.eq {p q : Rat} {n d : Int} (h : FrIs p n d) (h' : FrIs q n d) : p = q := by
  refine Rat.ext (h.1.symm.trans h'.1) ?_
  have := h.2.symm.trans h'.2
  omega
theorem FrIs.int (k : Int) : FrIs (k : Rat) k 1 := ⟨rfl, rfl⟩

theorem fq_mk {up dn : Int} (h : 1 ≤ dn) : fq up dn = mkRat up dn.toNat := by
  rw [Rat.mkRat_eq_div]
  unfold fq
  congr 1
  have : ((dn.toNat : Int) : Rat) = (dn : Rat) := by rw [Int.toNat_of_nonneg (by omega)]
  exact this.symm

theorem fq_is {up dn : Int} (h : 1 ≤ dn) : FrIs (fq up dn) (up.tdiv (Nat.gcd up.natAbs dn.natAbs : Nat)) (dn.tdiv (Nat.gcd up.natAbs dn.natAbs : Nat)) := by
  have e : dn.toNat = dn.natAbs := by omega
  have hd : ((Nat.gcd up.natAbs dn.natAbs : Nat) : Int) ∣ dn := Int.ofNat_dvd_left.2 (Nat.gcd_dvd_right _ _)
  have hu : ((Nat.gcd up.natAbs dn.natAbs : Nat) : Int) ∣ up := Int.ofNat_dvd_left.2 (Nat.gcd_dvd_left _ _)
  unfold FrIs
  rw [fq_mk h, Rat.num_mkRat, Rat.den_mkRat, e, if_neg (by omega), if_neg (by omega), Int.tdiv_eq_ediv_of_dvd hu, Int.tdiv_eq_ediv_of_dvd hd, Nat.gcd_comm]
  refine ⟨rfl, ?_⟩
  rw [Int.natCast_ediv]
  congr 1
  omega

theorem rat_den_ne (q : Rat) : (q.den : Rat) ≠ 0 := by
  have : (0 : Rat) < (q.den : Rat) := Rat.natCast_pos.2 q.den_pos
  grind
theorem rat_num (q : Rat) : (q.num : Rat) = q * (q.den : Rat) := by
  have := Rat.mkRat_self q
  rw [Rat.mkRat_eq_div] at this
  have h2 := Rat.div_mul_cancel (a := (q.num : Rat)) (rat_den_ne q)
  rw [this] at h2
  exact h2.symm
theorem div_eq {a b q : Rat} (hb : b ≠ 0) (h : a = q * b) : a / b = q := by
  rw [h, Rat.mul_div_cancel hb]

theorem fq_add (p q : Rat) : fq (p.num * q.den + q.num * p.den) (p.den * q.den) = p + q := by
  unfold fq
  have hb : ((p.den * q.den : Int) : Rat) ≠ 0 := by
    rw [Rat.intCast_mul]
    intro h
    rcases Rat.mul_eq_zero.1 h with h | h
    · exact rat_den_ne p h
    · exact rat_den_ne q h
  refine div_eq hb ?_
  simp only [Rat.intCast_add, Rat.intCast_mul, rat_num p, rat_num q]
  have e1 : ((p.den : Int) : Rat) = (p.den : Rat) := rfl
  have e2 : ((q.den : Int) : Rat) = (q.den : Rat) := rfl
  rw [e1, e2]
  grind
theorem fq_mul (p q : Rat) : fq (p.num * q.num) (p.den * q.den) = p * q := by
  unfold fq
  have hb : ((p.den * q.den : Int) : Rat) ≠ 0 := by
    rw [Rat.intCast_mul]
    intro h
    rcases Rat.mul_eq_zero.1 h with h | h
    · exact rat_den_ne p h
    · exact rat_den_ne q h
  refine div_eq hb ?_
  simp only [Rat.intCast_mul, rat_num p, rat_num q]
  have e1 : ((p.den : Int) : Rat) = (p.den : Rat) := rfl
  have e2 : ((q.den : Int) : Rat) = (q.den : Rat) := rfl
  rw [e1, e2]
  grind
theorem fq_times (p : Rat) (k : Int) : fq (p.num * k) p.den = p * (k : Rat) := by
  have := fq_mul p (k : Rat)
  rw [show ((k : Rat).num) = k from rfl, show ((k : Rat).den) = 1 from rfl] at this
  rw [← this]
  congr 1
  simp
theorem fq_one (k : Int) : fq k 1 = (k : Rat) := by
  unfold fq
  refine div_eq (by decide) ?_
  have : ((1 : Int) : Rat) = 1 := rfl
  rw [this]; grind

/-- The numbers of a fraction are no greater than those that are divided. -/
theorem fq_le {up dn n d : Int} (h : 1 ≤ dn) (hf : FrIs (fq up dn) n d) : n.natAbs ≤ up.natAbs ∧ 1 ≤ d ∧ d ≤ dn := by
  obtain ⟨h1, h2⟩ := hf.same (fq_is h)
  refine ⟨?_, hf.pos, ?_⟩
  · rw [h1, Int.natAbs_tdiv]
    exact Nat.div_le_self _ _
  · rw [h2]
    have : (dn.tdiv (Nat.gcd up.natAbs dn.natAbs : Nat)).natAbs ≤ dn.natAbs := by rw [Int.natAbs_tdiv]; exact Nat.div_le_self _ _
    omega
end Go.Proofs.Ytnojlapjkdihmab

/-
  Chapter 2: the contracts of what reckons with fractions, of the program and of the model.
-/
namespace Go.Proofs.Ytnojlapjkdihmab
open Go.RowKit

/-- The value of a fraction. -/
def frV (n d : Int) : Value := .agg #[.int .i64 n, .int .i64 d]

theorem gcd_step (a b : Nat) : Nat.gcd b (a % b) = Nat.gcd a b := by rw [Nat.gcd_comm a b, Nat.gcd_rec b a, Nat.gcd_comm]

set_option maxHeartbeats 400000 in
theorem commonFactor_any (a b : Nat) (w : World) (ha : a ≤ 4611686018427387903) (hb : b ≤ 4611686018427387903) :
    Calls Try.prog 61 #[.int .i64 a, .int .i64 b] w fun e w' => e = .returned (.int .i64 (Nat.gcd a b : Nat)) ∧ Below w.heap.size w w' := by
  go_enter Try.func61, Try.ntmps61
  go_wp2
  go_loopw [0, 1] (fun s i wr => ∃ x y : Nat, s = .int .i64 x ∧ i = .int .i64 y ∧ x ≤ 4611686018427387903 ∧ y ≤ 4611686018427387903 ∧ Hid (Nat.gcd x y = Nat.gcd a b) ∧ Below w.heap.size w wr) (fun _ i _ => (intOf i).toNat)
  case atStart => exact ⟨a, b, rfl, rfl, ha, hb, Lib.hid rfl, Below.refl _ _⟩
  case round =>
    obtain ⟨x, y, rfl, rfl, hx, hy, HG, hbel⟩ := hrel
    by_cases h0 : y = 0
    · subst h0
      have HE := Lib.hid (show x = Nat.gcd a b by rw [← HG.out]; simp)
      go_wp2
      go_ret
      exact ⟨by rw [HE.out]; rfl, hbel⟩
    · have h1 : (1 : Int) ≤ y := by omega
      have h2 : ((y : Int) != 0) = true := by simp; omega
      have hm : (x : Int) % (y : Int) = ((x % y : Nat) : Int) := by omega
      have hm2 : x % y < y := Nat.mod_lt _ (by omega)
      have HG2 := Lib.hid (show Nat.gcd y (x % y) = Nat.gcd a b by rw [gcd_step, HG.out])
      go_wp2
      go_quiet (fail)
      go_wp2
      go_roundw
      case rel => exact ⟨y, x % y, rfl, by go_num, by omega, by omega, HG2, below_drewN' hbel _⟩
      case measure => simp [intOf]; omega

set_option maxHeartbeats 400000 in
theorem gcd_any (a b : Int) (w : World) (ha0 : -4611686018427387903 ≤ a) (ha : a ≤ 4611686018427387903) (hb0 : -4611686018427387903 ≤ b) (hb : b ≤ 4611686018427387903) :
    Calls Try.prog 58 #[.int .i64 a, .int .i64 b] w fun e w' => e = .returned (.int .i64 (Nat.gcd a.natAbs b.natAbs : Nat)) ∧ Below w.heap.size w w' := by
  go_enter Try.func58, Try.ntmps58
  go_wp2
  go_loopw [0, 1] (fun s i wr => ∃ x y : Int, s = .int .i64 x ∧ i = .int .i64 y ∧ -4611686018427387903 ≤ x ∧ x ≤ 4611686018427387903 ∧ -4611686018427387903 ≤ y ∧ y ≤ 4611686018427387903 ∧ Hid (Nat.gcd x.natAbs y.natAbs = Nat.gcd a.natAbs b.natAbs) ∧ Below w.heap.size w wr) (fun _ i _ => (intOf i).natAbs)
  case atStart => exact ⟨a, b, rfl, rfl, ha0, ha, hb0, hb, Lib.hid rfl, Below.refl _ _⟩
  case round =>
    obtain ⟨x, y, rfl, rfl, hx0, hx, hy0, hy, HG, hbel⟩ := hrel
    by_cases h0 : y = 0
    · subst h0
      by_cases hs : 0 ≤ x
      · have HE := Lib.hid (show x = ((Nat.gcd a.natAbs b.natAbs : Nat) : Int) by rw [← HG.out]; simp; omega)
        have hm : max x (-x) = x := by omega
        go_wp2
        go_ret
        exact ⟨by rw [← HE.out]; simp; try omega, hbel⟩
      · have HE := Lib.hid (show -x = ((Nat.gcd a.natAbs b.natAbs : Nat) : Int) by rw [← HG.out]; simp; omega)
        have hm : max x (-x) = -x := by omega
        go_wp2
        go_ret
        exact ⟨by rw [← HE.out]; simp; try omega, hbel⟩
    · have h2 : (y != 0) = true := by simpa using h0
      have hm2 : (x.tmod y).natAbs < y.natAbs := by rw [Int.natAbs_tmod]; exact Nat.mod_lt _ (by omega)
      have HG2 := Lib.hid (show Nat.gcd y.natAbs (x.tmod y).natAbs = Nat.gcd a.natAbs b.natAbs by rw [Int.natAbs_tmod, gcd_step, HG.out])
      go_wp2
      go_roundw
      case rel => exact ⟨y, x.tmod y, rfl, by go_num, by omega, by omega, by omega, by omega, HG2, hbel⟩
      case measure => simp only [intOf]; first | exact hm2 | (simp; exact hm2)

end Go.Proofs.Ytnojlapjkdihmab

/-
  Chapter 2: the contracts of what reckons with fractions, of the program, of the model and of the laws.
-/
namespace Go.Proofs.Ytnojlapjkdihmab
open Go.RowKit

theorem pair_in {a w' : World} {B : Nat} {t : Nat} {x y : Value} (hb : Below (a.alloc (.cells #[x, y] t)).heap.size (a.alloc (.cells #[x, y] t)) w') (hB : B = a.heap.size) :
    w'.heap[B]? = some (.cells #[x, y] t (0, 0)) := by
  subst hB
  refine (hb.block _ (by simp)).trans ?_
  unfold World.alloc
  simp
theorem pair_facts {w' : World} {B t : Nat} {x y : Value} (h : w'.heap[B]? = some (.cells #[x, y] t (0, 0))) :
    w'.cell? ⟨B, 0, none⟩ = some x ∧ w'.cell? ⟨B, 1, none⟩ = some y ∧ w'.frozen? ⟨B, 0, none⟩ = false ∧ w'.frozen? ⟨B, 1, none⟩ = false := by
  simp [World.cell?, World.frozen?, h]
theorem pair_set {w' : World} {B t : Nat} {x y : Value} (u v : Value) (h : w'.heap[B]? = some (.cells #[x, y] t (0, 0))) :
    ((w'.setCell ⟨B, 0, none⟩ u).setCell ⟨B, 1, none⟩ v).heap[B]? = some (.cells #[u, v] t (0, 0)) := by
  have h1 := heap_setCell_same w' B 0 _ _ u h
  have h2 := heap_setCell_same _ B 1 _ _ v h1
  exact h2
theorem pair_below {a w' : World} {B : Nat} {o : Obj} (u v : Value) (hb : Below (a.alloc o).heap.size (a.alloc o) w') (hB : B = a.heap.size) :
    Below a.heap.size a ((w'.setCell ⟨B, 0, none⟩ u).setCell ⟨B, 1, none⟩ v) := by
  subst hB
  exact ((((Below.refl _ a).alloc (Nat.le_refl _) o).trans (hb.mono (by simp))).setCell (Nat.le_refl _) u).setCell (Nat.le_refl _) v
theorem pair_new (w : World) (o : Obj) : (w.alloc o).heap[w.heap.size]? = some o := by
  show (w.heap.push o)[w.heap.size]? = some o
  simp
theorem pair_old {X w' : World} {B : Nat} {o : Obj} (hb : Below X.heap.size X w') (hX : X.heap[B]? = some o) : w'.heap[B]? = some o :=
  (hb.block _ (Array.getElem?_eq_some_iff.1 hX).1).trans hX
theorem pair_below2 {a X w' : World} {B : Nat} (u v : Value) (hb : Below X.heap.size X w') (ha : Below a.heap.size a X) (hB : a.heap.size ≤ B) :
    Below a.heap.size a ((w'.setCell ⟨B, 0, none⟩ u).setCell ⟨B, 1, none⟩ v) :=
  ((ha.trans (hb.mono ha.size)).setCell hB u).setCell hB v
theorem below_up {a b c : World} (h : Below a.heap.size a b) (k : Below b.heap.size b c) : Below a.heap.size a c := h.trans (k.mono h.size)
theorem below_al (a : World) (o : Obj) : Below a.heap.size a (a.alloc o) := (Below.refl _ a).alloc (Nat.le_refl _) o

theorem wholeOf_any (k : Int) (w : World) :
    Calls Try.prog 65 #[.int .i64 k] w fun e w' => e = .returned (frV k 1) ∧ Below w.heap.size w w' := by
  go_enter Try.func65, Try.ntmps65
  go_wp2
  refine bodyPost_ret (v := frV k 1) (by simp [results, Try.results65, go_sem, frV]) rfl ⟨rfl, Below.alloc (Below.refl _ _) (Nat.le_refl _) _⟩

theorem commonFactor_is (x y g : Int) (w : World) (hx : 0 ≤ x) (hy : 0 ≤ y) (hx1 : x ≤ 4611686018427387903) (hy1 : y ≤ 4611686018427387903) (hg : g = (Nat.gcd x.natAbs y.natAbs : Nat)) :
    Calls Try.prog 61 #[.int .i64 x, .int .i64 y] w fun e w' => e = .returned (.int .i64 g) ∧ Below w.heap.size w w' := by
  obtain ⟨a, rfl⟩ : ∃ a : Nat, x = a := ⟨x.natAbs, by omega⟩
  obtain ⟨b, rfl⟩ : ∃ b : Nat, y = b := ⟨y.natAbs, by omega⟩
  have := commonFactor_any a b w (by omega) (by omega)
  rw [hg]
  exact this

/-- Of the fraction of up and dn: by which both are divided. -/
theorem frac_parts {up dn n d : Int} (hq : FrIs (fq up dn) n d) (h1 : 1 ≤ dn) : ∃ g : Int, g = ((Nat.gcd up.natAbs dn.natAbs : Nat) : Int) ∧ 1 ≤ g ∧ g ≤ dn ∧ n = up.tdiv g ∧ d = dn / g ∧ (0 ≤ up → n = up / g) := by
  obtain ⟨hn, hd⟩ := hq.same (fq_is h1)
  have hg1 : 1 ≤ Nat.gcd up.natAbs dn.natAbs := Nat.gcd_pos_of_pos_right _ (by omega)
  have hgd : Nat.gcd up.natAbs dn.natAbs ≤ dn.natAbs := Nat.gcd_le_right _ (by omega)
  refine ⟨_, rfl, by omega, by omega, hn, ?_, fun h => ?_⟩
  · rw [hd, Int.tdiv_eq_ediv_of_nonneg (by omega)]
  · rw [hn, Int.tdiv_eq_ediv_of_nonneg h]

set_option maxHeartbeats 600000 in
theorem fracOf_any (up dn n d : Int) (w : World) (hq : FrIs (fq up dn) n d) (h1 : 1 ≤ dn) (hu0 : -4611686018427387903 ≤ up) (hu1 : up ≤ 4611686018427387903) (hd : dn ≤ 4611686018427387903) :
    Calls Try.prog 41 #[.int .i64 up, .int .i64 dn] w fun e w' => e = .returned (frV n d) ∧ Below w.heap.size w w' := by
  obtain ⟨g, hg, g1, g2, hn, hdd, hnn⟩ := frac_parts hq h1
  obtain ⟨m, hm⟩ : ∃ m : Int, m = (up.natAbs : Int) := ⟨_, rfl⟩
  have hmm : max up (-up) = m := by omega
  have HC := Lib.hid (fun w => commonFactor_is (max up (-up)) dn g w (by omega) (by omega) (by omega) hd (by rw [hg, hmm, hm]; rfl))
  clear hmm hm
  have HD := Lib.hid hdd
  have hs : 0 ≤ up ∨ up < 0 := by omega
  rcases hs with h0 | h0
  · rw [show max up (-up) = up by omega] at HC
    have HN := Lib.hid (hnn h0)
    clear hn hnn hdd hg hq
    go_enter Try.func41, Try.ntmps41
    go_wp2_with fail
    refine (HC.out _).mono ?_
    rintro e w' ⟨rfl, hb⟩
    have hk := pair_in hb rfl
    obtain ⟨c0, c1, f0, f1⟩ := pair_facts hk
    go_wp2_with fail
    go_region
    all_goals go_wp2
    obtain ⟨e0, e1, _, _⟩ := pair_facts (pair_set (.int .i64 (up / g)) (.int .i64 (dn / g)) hk)
    have hB := pair_below (.int .i64 (up / g)) (.int .i64 (dn / g)) hb rfl
    refine bodyPost_ret (v := frV n d) (by simp [results, Try.results41, go_sem, frV, e0, e1, HN.out, HD.out]) rfl ⟨rfl, hB.drew⟩
  · rw [show max up (-up) = -up by omega] at HC
    have HN := Lib.hid hn
    clear hn hnn hdd hg hq
    go_enter Try.func41, Try.ntmps41
    go_wp2_with fail
    refine (HC.out _).mono ?_
    rintro e w' ⟨rfl, hb⟩
    have hk := pair_in hb rfl
    obtain ⟨c0, c1, f0, f1⟩ := pair_facts hk
    go_wp2_with fail
    go_region
    all_goals go_wp2
    obtain ⟨e0, e1, _, _⟩ := pair_facts (pair_set (.int .i64 (up.tdiv g)) (.int .i64 (dn / g)) hk)
    have hB := pair_below (.int .i64 (up.tdiv g)) (.int .i64 (dn / g)) hb rfl
    refine bodyPost_ret (v := frV n d) (by simp [results, Try.results41, go_sem, frV, e0, e1, HN.out, HD.out]) rfl ⟨rfl, hB.drew⟩

set_option maxHeartbeats 600000 in
theorem Sfrac_any (up dn n d : Int) (w : World) (hq : FrIs (fq up dn) n d) (h1 : 1 ≤ dn) (hu0 : -4611686018427387903 ≤ up) (hu1 : up ≤ 4611686018427387903) (hd : dn ≤ 4611686018427387903) :
    Calls Try.prog 37 #[.int .i64 up, .int .i64 dn] w fun e w' => e = .returned (frV n d) ∧ Below w.heap.size w w' := by
  obtain ⟨g, hg, g1, g2, hn, hdd, hnn⟩ := frac_parts hq h1
  have HC := Lib.hid (fun w => gcd_any up dn w hu0 hu1 (by omega) hd)
  rw [← hg] at HC
  have HD := Lib.hid hdd
  have hs : 0 ≤ up ∨ up < 0 := by omega
  rcases hs with h0 | h0
  · have HN := Lib.hid (hnn h0)
    clear hn hnn hdd hg hq
    go_enter Try.func37, Try.ntmps37
    go_wp2_with fail
    refine (HC.out _).mono ?_
    rintro e w' ⟨rfl, hb⟩
    have hk := pair_in hb rfl
    obtain ⟨c0, c1, f0, f1⟩ := pair_facts hk
    go_wp2_with fail
    go_region
    all_goals go_wp2
    obtain ⟨e0, e1, _, _⟩ := pair_facts (pair_set (.int .i64 (up / g)) (.int .i64 (dn / g)) hk)
    have hB := pair_below (.int .i64 (up / g)) (.int .i64 (dn / g)) hb rfl
    refine bodyPost_ret (v := frV n d) (by simp [results, Try.results37, go_sem, frV, e0, e1, HN.out, HD.out]) rfl ⟨rfl, hB.drew⟩
  · have HN := Lib.hid hn
    clear hn hnn hdd hg hq
    go_enter Try.func37, Try.ntmps37
    go_wp2_with fail
    refine (HC.out _).mono ?_
    rintro e w' ⟨rfl, hb⟩
    have hk := pair_in hb rfl
    obtain ⟨c0, c1, f0, f1⟩ := pair_facts hk
    go_wp2_with fail
    go_region
    all_goals go_wp2
    obtain ⟨e0, e1, _, _⟩ := pair_facts (pair_set (.int .i64 (up.tdiv g)) (.int .i64 (dn / g)) hk)
    have hB := pair_below (.int .i64 (up.tdiv g)) (.int .i64 (dn / g)) hb rfl
    refine bodyPost_ret (v := frV n d) (by simp [results, Try.results37, go_sem, frV, e0, e1, HN.out, HD.out]) rfl ⟨rfl, hB.drew⟩

end Go.Proofs.Ytnojlapjkdihmab
