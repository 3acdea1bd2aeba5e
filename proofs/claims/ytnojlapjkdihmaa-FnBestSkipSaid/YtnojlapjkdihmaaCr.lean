/-
  Chapter 2, plain arithmetic: fractions in lowest terms.
-/
import Derived.Test.YtnojlapjkdihmaaCq
namespace Go.Proofs.Ytnojlapjkdihmaa

/-- up divided by dn. -/
def fq (up dn : Int) : Rat := (up : Rat) / (dn : Rat)
/-- The numbers n and d are the fraction q in lowest terms. -/
def FrIs (q : Rat) (n d : Int) : Prop := n = q.num ∧ d = q.den
theorem FrIs.self (q : Rat) : FrIs q q.num q.den := ⟨rfl, rfl⟩
theorem FrIs.pos {q : Rat} {n d : Int} (h : FrIs q n d) : 1 ≤ d := by have := q.den_pos; rw [h.2]; omega
theorem FrIs.same {q : Rat} {n d n' d' : Int} (h : FrIs q n d) (h' : FrIs q n' d') : n = n' ∧ d = d' := ⟨h.1.trans h'.1.symm, h.2.trans h'.2.symm⟩
theorem FrIs.eq {p q : Rat} {n d : Int} (h : FrIs p n d) (h' : FrIs q n d) : p = q := by
  refine Rat.ext (h.1.symm.trans h'.1) ?_
  have := h.2.symm.trans h'.2
  omega
theorem FrIs.int (k : Int) : FrIs (k : Rat) k 1 := ⟨rfl, rfl⟩

theorem fq_mk {up dn : Int} (h : 1 ≤ dn) : fq up dn = mkRat up dn.toNat := by
  rw [Rat.mkRat_eq_div]
  unfold fq
  congr 1
  have : ((dn.toNat : Int) : Rat) = (dn : Rat) := by rw [Int.toNat_of_nonneg (by omega)]
  exact this.symm

theorem fq_is {up dn : Int} (h : 1 ≤ dn) : FrIs (fq up dn) (up.tdiv (Nat.gcd up.natAbs dn.natAbs : Nat)) (dn.tdiv (Nat.gcd up.natAbs dn.natAbs : Nat)) := by
  have e : dn.toNat = dn.natAbs := by omega
  have hd : ((Nat.gcd up.natAbs dn.natAbs : Nat) : Int) ∣ dn := Int.ofNat_dvd_left.2 (Nat.gcd_dvd_right _ _)
  have hu : ((Nat.gcd up.natAbs dn.natAbs : Nat) : Int) ∣ up := Int.ofNat_dvd_left.2 (Nat.gcd_dvd_left _ _)
  unfold FrIs
  rw [fq_mk h, Rat.num_mkRat, Rat.den_mkRat, e, if_neg (by omega), if_neg (by omega), Int.tdiv_eq_ediv_of_dvd hu, Int.tdiv_eq_ediv_of_dvd hd, Nat.gcd_comm]
  refine ⟨rfl, ?_⟩
  rw [Int.natCast_ediv]
  congr 1
  omega

theorem rat_den_ne (q : Rat) : (q.den : Rat) ≠ 0 := by
  have : (0 : Rat) < (q.den : Rat) := Rat.natCast_pos.2 q.den_pos
  grind
theorem rat_num (q : Rat) : (q.num : Rat) = q * (q.den : Rat) := by
  have := Rat.mkRat_self q
  rw [Rat.mkRat_eq_div] at this
  have h2 := Rat.div_mul_cancel (a := (q.num : Rat)) (rat_den_ne q)
  rw [this] at h2
  exact h2.symm
theorem div_eq {a b q : Rat} (hb : b ≠ 0) (h : a = q * b) : a / b = q := by
  rw [h, Rat.mul_div_cancel hb]

theorem fq_add (p q : Rat) : fq (p.num * q.den + q.num * p.den) (p.den * q.den) = p + q := by
  unfold fq
  have hb : ((p.den * q.den : Int) : Rat) ≠ 0 := by
    rw [Rat.intCast_mul]
    intro h
    rcases Rat.mul_eq_zero.1 h with h | h
    · exact rat_den_ne p h
    · exact rat_den_ne q h
  refine div_eq hb ?_
  simp only [Rat.intCast_add, Rat.intCast_mul, rat_num p, rat_num q]
  have e1 : ((p.den : Int) : Rat) = (p.den : Rat) := rfl
  have e2 : ((q.den : Int) : Rat) = (q.den : Rat) := rfl
  rw [e1, e2]
  grind
theorem fq_mul (p q : Rat) : fq (p.num * q.num) (p.den * q.den) = p * q := by
  unfold fq
  have hb : ((p.den * q.den : Int) : Rat) ≠ 0 := by
    rw [Rat.intCast_mul]
    intro h
    rcases Rat.mul_eq_zero.1 h with h | h
    · exact rat_den_ne p h
    · exact rat_den_ne q h
  refine div_eq hb ?_
  simp only [Rat.intCast_mul, rat_num p, rat_num q]
  have e1 : ((p.den : Int) : Rat) = (p.den : Rat) := rfl
  have e2 : ((q.den : Int) : Rat) = (q.den : Rat) := rfl
  rw [e1, e2]
  grind
theorem fq_times (p : Rat) (k : Int) : fq (p.num * k) p.den = p * (k : Rat) := by
  have := fq_mul p (k : Rat)
  rw [show ((k : Rat).num) = k from rfl, show ((k : Rat).den) = 1 from rfl] at this
  rw [← this]
  congr 1
  simp
theorem fq_one (k : Int) : fq k 1 = (k : Rat) := by
  unfold fq
  refine div_eq (by decide) ?_
  have : ((1 : Int) : Rat) = 1 := rfl
  rw [this]; grind

/-- The numbers of a fraction are no greater than those that are divided. -/
theorem fq_le {up dn n d : Int} (h : 1 ≤ dn) (hf : FrIs (fq up dn) n d) : n.natAbs ≤ up.natAbs ∧ 1 ≤ d ∧ d ≤ dn := by
  obtain ⟨h1, h2⟩ := hf.same (fq_is h)
  refine ⟨?_, hf.pos, ?_⟩
  · rw [h1, Int.natAbs_tdiv]
    exact Nat.div_le_self _ _
  · rw [h2]
    have : (dn.tdiv (Nat.gcd up.natAbs dn.natAbs : Nat)).natAbs ≤ dn.natAbs := by rw [Int.natAbs_tdiv]; exact Nat.div_le_self _ _
    omega
end Go.Proofs.Ytnojlapjkdihmaa
