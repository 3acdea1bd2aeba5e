/-
  Chapter 2, the program: the contract of sumOf at fractions.
-/
import Derived.Test.YtnojlapjkdihmaaDd
import Derived.Test.YtnojlapjkdihmaaG19
import Derived.Deep.RegionHeld3
namespace Go.Proofs.Ytnojlapjkdihmaa
open Go.RowKit

theorem sumQ_snoc (qs : List Rat) (q : Rat) : sumQ (qs ++ [q]) = sumQ qs + q := by rw [sumQ_app]; simp only [sumQ]; grind
theorem sumQ_step {qs : List Rat} {k : Nat} {q : Rat} (h : qs[k]? = some q) : sumQ (qs.take (k + 1)) = sumQ (qs.take k) + q := by
  rw [List.take_add_one, h]
  exact sumQ_snoc _ _
theorem sumQ_sc {D B : Int} (hB : 0 ≤ B) : ∀ (qs : List Rat), (∀ q ∈ qs, Sc D B q) → Sc D (B * (qs.length : Int)) (sumQ qs)
  | [], _ => by simpa [sumQ] using Sc.zero
  | q :: qs, h => by
    have h1 := sumQ_sc hB qs fun q hq => h q (List.mem_cons_of_mem _ hq)
    have h2 := h q (List.mem_cons_self ..)
    rw [sumQ]
    refine (h2.add h1).mono ?_
    rw [List.length_cons, Int.natCast_add, Int.natCast_one, Int.mul_add, Int.mul_one]
    omega

set_option maxHeartbeats 4000000 in
theorem sumFracs_any (A : Option Addr) (c : Nat) (qs : List Rat) (D N M : Int) (w : World) (h : RdF w A c (frL qs)) (hl : qs.length ≤ 216) (hD1 : 1 ≤ D) (hD : D ≤ 46656) (hs : ∀ q ∈ qs, Sc D 2176782336 q) (hq : FrIs (sumQ qs) N M) :
    Calls Try.prog 195 #[.func (.func 196) #[] #[], frV 0 1, .slice A qs.length c] w fun e w' => e = .returned (frV N M) ∧ Below w.heap.size w w' := by
  have HQ := Lib.hid hq
  have HS := Lib.hid hs
  clear hq hs
  unfold frV
  go_enter Try.func195, Try.ntmps195
  go_wp2_with fail
  have hB0 : Below w.heap.size w (((w.alloc (.cells #[.int .i64 0, .int .i64 1] 36)).alloc (.cells #[.int .i64 0, .int .i64 0] 36)).alloc (.cells #[.int .i64 0, .int .i64 1] 36)) :=
    (((Below.refl _ w).alloc (Nat.le_refl _) _).alloc (by simp) _).alloc (by simp; omega) _
  have hR0 : PairAt (((w.alloc (.cells #[.int .i64 0, .int .i64 1] 36)).alloc (.cells #[.int .i64 0, .int .i64 0] 36)).alloc (.cells #[.int .i64 0, .int .i64 1] 36)) (w.heap.size + 1) 0 0 := by
    have := (PairAt.new (w := w.alloc (.cells #[.int .i64 0, .int .i64 1] 36)) (x := 0) (y := 0)).old (.cells #[.int .i64 0, .int .i64 1] 36)
    rw [World.size_alloc] at this
    exact this
  have hS0 : PairAt (((w.alloc (.cells #[.int .i64 0, .int .i64 1] 36)).alloc (.cells #[.int .i64 0, .int .i64 0] 36)).alloc (.cells #[.int .i64 0, .int .i64 1] 36)) (w.heap.size + 1 + 1) 0 1 := by
    have := PairAt.new (w := (w.alloc (.cells #[.int .i64 0, .int .i64 1] 36)).alloc (.cells #[.int .i64 0, .int .i64 0] 36)) (x := 0) (y := 1)
    rw [World.size_alloc, World.size_alloc] at this
    exact this
  go_loopw [13] (fun i wr => ∃ (j : Nat) (x y : Int), j ≤ qs.length ∧ i = .int .i64 j ∧ Below w.heap.size w wr ∧ PairAt wr (w.heap.size + 1) 0 0 ∧ PairAt wr (w.heap.size + 1 + 1) x y ∧ Hid (FrIs (sumQ (qs.take j)) x y)) (fun i _ => qs.length - (intOf i).toNat)
  case atStart => exact ⟨0, 0, 1, Nat.zero_le _, rfl, hB0, hR0, hS0, Lib.hid (FrIs.int 0)⟩
  case round =>
    obtain ⟨j, x, y, hj, rfl, hb, hPR, hPS, HX⟩ := hrel
    by_cases hjn : j < qs.length
    · obtain ⟨q, hqj⟩ : ∃ q, qs[j]? = some q := ⟨_, List.getElem?_eq_getElem hjn⟩
      obtain ⟨bq, qn, qd, rfl, hbq, hxy, k1, k2⟩ := (h.below hb).at_ (k := j) (by rw [frL_len]; exact hjn)
      obtain ⟨q2, hq2, hqq⟩ := frL_at hxy.out
      obtain rfl : q = q2 := by rw [hqj] at hq2; injection hq2
      have hstep := sumQ_step hqj
      obtain ⟨n', hn'⟩ : ∃ n, n = (sumQ (qs.take (j + 1))).num := ⟨_, rfl⟩
      obtain ⟨d', hd'⟩ : ∃ d, d = ((sumQ (qs.take (j + 1))).den : Int) := ⟨_, rfl⟩
      have hss : FrIs (sumQ (qs.take (j + 1))) n' d' := ⟨hn', hd'⟩
      have HSS := Lib.hid hss
      have HPL := Lib.hid (fr_add HX.out hqq (by rw [← hstep]; exact hss))
      have hsc := sumQ_sc (D := D) (B := 2176782336) (by decide) (qs.take j) (fun q hq => HS.out q (List.mem_of_mem_take hq))
      obtain ⟨s0, s1, s2, s3⟩ := hsc.bd hD1 HX.out
      have hlt : ((qs.take j).length : Int) ≤ 216 := by rw [List.length_take]; omega
      have s4 : -470184984576 ≤ x ∧ x ≤ 470184984576 ∧ y ≤ 46656 := by omega
      obtain ⟨r1, r2, r3, r4⟩ := (HS.out q (List.mem_of_getElem? hqj)).bd hD1 hqq
      obtain ⟨p1, p2⟩ := mul_bd s4.1 s4.2.1 r3 (show qd ≤ 46656 by omega) (by omega)
      obtain ⟨p3, p4⟩ := mul_bd r1 r2 s2 s4.2.2 (by omega)
      obtain ⟨p5, p6⟩ := mul_bd (show -46656 ≤ y by omega) s4.2.2 r3 (show qd ≤ 46656 by omega) (by omega)
      have p7 := Int.mul_le_mul s2 r3 (by omega) (by omega)
      obtain ⟨c0, c1, f0, f1⟩ := hPS.facts
      have hPS' := hPS.old (.cells #[.int .i64 qn, .int .i64 qd] 36)
      have hPR' := hPR.old (.cells #[.int .i64 qn, .int .i64 qd] 36)
      have hB' := below_up hb (below_al wr (.cells #[.int .i64 qn, .int .i64 qd] 36))
      have hsl := hPS.lt
      clear hqj hxy hq2 hqq hstep hn' hd' hss hsc hlt s0 s1 s4
      go_wp2_with fail
      refine (plus_any x y qn qd n' d' _ HPL.out (by omega) (by omega) (by omega) (by omega) (by omega) (by omega)).mono ?_
      rintro e w6 ⟨rfl, hb6⟩
      have hPS6 := hPS'.below hb6
      have hPR6 := (hPR'.below hb6).other (show w.heap.size + 1 ≠ w.heap.size + 1 + 1 by omega) (.int .i64 n') (.int .i64 d')
      have hPS7 := hPS6.set_ n' d'
      have hB7 := below_set2 (B := w.heap.size + 1 + 1) (below_up hB' hb6) (by omega) (.int .i64 n') (.int .i64 d')
      obtain ⟨d0, d1, g0, g1⟩ := hPS6.facts
      unfold frV
      go_wp2
      go_roundw
      case rel => exact ⟨j + 1, n', d', by omega, by go_num, hB7, hPR6, hPS7, HSS⟩
      case measure => simp [intOf] <;> omega
    · obtain rfl : j = qs.length := by omega
      have HE := Lib.hid (show x = N ∧ y = M by have := HX.out; rw [List.take_length] at this; exact this.same HQ.out)
      obtain ⟨c0, c1, f0, f1⟩ := hPS.facts
      obtain ⟨c2, c3, f2, f3⟩ := hPR.facts
      go_wp2
      obtain ⟨e0, e1, _, _⟩ := (hPR.set_ x y).facts
      have hB2 := below_set2 (B := w.heap.size + 1) hb (by omega) (.int .i64 x) (.int .i64 y)
      obtain ⟨rfl, rfl⟩ := HE.out
      refine bodyPost_ret (v := frV x y) (by simp [results, Try.results195, go_sem, frV, e0, e1]) rfl ⟨rfl, hB2⟩
end Go.Proofs.Ytnojlapjkdihmaa

/-
  Chapter 11, the program: what is had at a stage.
-/
namespace Go.Proofs.Ytnojlapjkdihmaa
open Go.RowKit

/-- The terms of the mean at a stage. -/
def termL (xs : List Int) (e r : Rat) : List Rat := (List.range xs.length).map (fun v => ((wt xs v : Int) : Rat) * takeQ e r v)
theorem termL_len (xs : List Int) (e r : Rat) : (termL xs e r).length = xs.length := by simp [termL]
theorem termL_at {xs : List Int} {e r : Rat} {k : Nat} (h : k < xs.length) : (termL xs e r)[k]? = some (((wt xs k : Int) : Rat) * takeQ e r k) := by simp [termL, h]
theorem sumQ_map (n : Nat) (f : Nat → Rat) : sumQ ((List.range n).map f) = sumR n f := by
  induction n with
  | zero => rfl
  | succ n ih => rw [List.range_succ, List.map_append, List.map_cons, List.map_nil, sumQ_snoc, ih, sumR]
theorem termL_sum (xs : List Int) (e r : Rat) : sumQ (termL xs e r) / ((tailW xs 0 : Int) : Rat) = meanQ xs e r := by
  unfold termL
  rw [sumQ_map]; rfl
theorem fr_over {p : Rat} {k a b n m : Int} (hk : 1 ≤ k) (hp : FrIs p a b) (h : FrIs (p / (k : Rat)) n m) : FrIs (fq a (b * k)) n m := by
  have hb := hp.pos
  have h1 : (b : Rat) ≠ 0 := by have : (0 : Rat) < (b : Rat) := Rat.intCast_pos.2 (by omega); grind
  have h2 : (k : Rat) ≠ 0 := by have : (0 : Rat) < (k : Rat) := Rat.intCast_pos.2 (by omega); grind
  have h3 : ((b : Rat) * (k : Rat)) ≠ 0 := fun h => (Rat.mul_eq_zero.1 h).elim h1 h2
  have e : fq a (b * k) = p / (k : Rat) := by
    unfold fq
    rw [Rat.intCast_mul]
    refine div_eq h3 ?_
    have e1 : (a : Rat) = p * (b : Rat) := by rw [hp.1, hp.2]; exact rat_num p
    have e2 := Rat.div_mul_cancel (a := p) h2
    rw [e1]
    grind
  rw [e]; exact h
theorem mul_six {a k B : Int} (h1 : -B ≤ a) (h2 : a ≤ B) (k1 : 0 ≤ k) (k6 : k ≤ 6) : -(6 * B) ≤ a * k ∧ a * k ≤ 6 * B := by
  have : k = 0 ∨ k = 1 ∨ k = 2 ∨ k = 3 ∨ k = 4 ∨ k = 5 ∨ k = 6 := by omega
  rcases this with rfl | rfl | rfl | rfl | rfl | rfl | rfl <;> omega
theorem term_sc {D : Int} {r e : Rat} (h : Had D r) (hD1 : 1 ≤ D) (hD : D ≤ 46656) {v : Nat} (hv : v ≤ 5) {k : Int} (k1 : 0 ≤ k) (k6 : k ≤ 6) : Sc D 2176782336 ((k : Rat) * takeQ e r v) := by
  have h1 := (h.take (e := e) hD1 hv).sc
  exact (h1.mul k1 k6 (by omega)).mono (by omega)

set_option maxHeartbeats 600000 in
theorem actAt_any (v : Nat) (e : Rat) (n d : Int) (t : Int) (w : World) (he : FrIs e n d) (hv : v ≤ 5) (h1 : -4611686018427387 ≤ n) (h2 : n ≤ 4611686018427387) (h3 : d ≤ 4611686018427387) (ht : t = if (v : Rat) < e then 0 else 1) :
    Calls Try.prog 193 #[.int .i64 v, frV n d] w fun e w' => e = .returned (.int .i64 t) ∧ Below w.heap.size w w' := by
  have hd := he.pos
  have m1 := mul_six (a := d) (k := (v : Int)) (B := 4611686018427387) (by omega) h3 (by omega) (by omega)
  have HW := Lib.hid (fun w => wholeOf_any (v : Int) w)
  have hl := lessF_is (FrIs.int (v : Int)) he
  have HL := Lib.hid (fun l w hl => less_any (v : Int) 1 n d l w hl (by rw [Int.mul_comm]; omega) (by rw [Int.mul_comm]; omega) (by omega) (by omega))
  have hq : (((v : Nat) : Int) : Rat) = (v : Rat) := rfl
  rw [hq] at hl
  have hB : Below w.heap.size w (w.alloc (.cells #[.int .i64 n, .int .i64 d] 36)) := below_al w _
  have hk := PairAt.new (w := w) (x := n) (y := d)
  obtain ⟨c0, c1, f0, f1⟩ := hk.facts
  by_cases c : (v : Rat) < e
  · rw [if_pos c] at ht
    subst ht
    have HLL := Lib.hid (fun w => HL.out true w (by rw [hl]; exact decide_eq_true c))
    clear hl he c hq HL m1
    unfold frV
    go_enter Try.func193, Try.ntmps193
    go_wp2_with fail
    go_region_held3 (fun w' => w'.cell? ⟨w.heap.size, 0, none⟩ = some (.int .i64 n) ∧ w'.cell? ⟨w.heap.size, 1, none⟩ = some (.int .i64 d) ∧ Below w.heap.size w w')
      (first | exact ⟨c0, c1, hB.drew⟩ | exact ⟨c2, c3, B2⟩ | exact ⟨c4, c5, B3⟩)
      (first
      | (go_at_call 167; refine (HW.out _).mono ?_; rintro e w2 ⟨rfl, b2⟩; have B2 := hB.drew.trans (b2.mono hB.size); obtain ⟨c2, c3, _, _⟩ := (hk.drew.below b2).facts)
      | (go_at_call 206; refine (HLL.out _).mono ?_; rintro e w3 ⟨rfl, b3⟩; have B3 := B2.trans (b3.mono B2.size); obtain ⟨c4, c5, _, _⟩ := (PairAt.below (hk.drew.below b2) b3).facts)
      | fail)
    all_goals
      go_wp2
      go_ret
      exact ⟨rfl, B3⟩
  · rw [if_neg c] at ht
    subst ht
    have HLL := Lib.hid (fun w => HL.out false w (by rw [hl]; exact decide_eq_false c))
    clear hl he c hq HL m1
    unfold frV
    go_enter Try.func193, Try.ntmps193
    go_wp2_with fail
    go_region_held3 (fun w' => w'.cell? ⟨w.heap.size, 0, none⟩ = some (.int .i64 n) ∧ w'.cell? ⟨w.heap.size, 1, none⟩ = some (.int .i64 d) ∧ Below w.heap.size w w')
      (first | exact ⟨c0, c1, hB.drew⟩ | exact ⟨c2, c3, B2⟩ | exact ⟨c4, c5, B3⟩)
      (first
      | (go_at_call 167; refine (HW.out _).mono ?_; rintro e w2 ⟨rfl, b2⟩; have B2 := hB.drew.trans (b2.mono hB.size); obtain ⟨c2, c3, _, _⟩ := (hk.drew.below b2).facts)
      | (go_at_call 206; refine (HLL.out _).mono ?_; rintro e w3 ⟨rfl, b3⟩; have B3 := B2.trans (b3.mono B2.size); obtain ⟨c4, c5, _, _⟩ := (PairAt.below (hk.drew.below b2) b3).facts)
      | fail)
    all_goals
      go_wp2
      go_ret
      exact ⟨rfl, B3⟩

set_option maxHeartbeats 1000000 in
theorem meanAt_any (b off c : Nat) (xs : List Int) (e r : Rat) (en ed rn rd N M D : Int) (w : World) (h : Rd w (some ⟨b, off, none⟩) c xs) (hcc : xs.length ≤ c) (hv : vW xs = true) (hD1 : 1 ≤ D) (hD : D ≤ 46656) (hr : Had D r)
    (he : FrIs e en ed) (e1 : -4611686018427387 ≤ en) (e2 : en ≤ 4611686018427387) (e3 : ed ≤ 4611686018427387) (hrr : FrIs r rn rd) (hq : FrIs (meanQ xs e r) N M) :
    Calls Try.prog 169 #[.slice (some ⟨b, off, none⟩) xs.length c, frV en ed, frV rn rd] w fun e w' => e = .returned (frV N M) ∧ Below w.heap.size w w' := by
  have h36 := rev_b hv 0
  have hl6 := vW_le hv
  have hvw := vW_valid hv
  have HWB : Hid (∀ v, v < xs.length → 1 ≤ wt xs v ∧ wt xs v ≤ 6) := Lib.hid (fun v hv => ⟨validW_lo hvw hv, validW_hi hvw v⟩)
  have HTK : Hid (∀ v, v < xs.length → Had D (takeQ e r v)) := Lib.hid (fun v hlt => hr.take hD1 (by omega))
  have HTS : Hid (∀ q ∈ termL xs e r, Sc D 2176782336 q) := Lib.hid (fun q hq => by
    obtain ⟨v, hv1, rfl⟩ := List.mem_map.1 hq
    have hlt := List.mem_range.1 hv1
    exact term_sc hr hD1 hD (by omega) (by have := HWB.out v hlt; omega) (HWB.out v hlt).2)
  have HSM := Lib.hid (vW_small hv)
  have HTP := Lib.hid (tot_pos hvw)
  have HE := Lib.hid he
  have HRR := Lib.hid hrr
  have HSUM : Hid (FrIs (sumQ (termL xs e r)) (sumQ (termL xs e r)).num (sumQ (termL xs e r)).den) := Lib.hid (FrIs.self _)
  generalize hsn : (sumQ (termL xs e r)).num = sn at HSUM
  generalize hsd : ((sumQ (termL xs e r)).den : Int) = sd at HSUM
  have hsb := (sumQ_sc (D := D) (B := 2176782336) (by decide) (termL xs e r) HTS.out).bd hD1 HSUM.out
  rw [termL_len] at hsb
  have HQ := Lib.hid (fr_over (by have := tot_pos hvw; omega) HSUM.out (by rw [termL_sum]; exact hq))
  have hB : Below w.heap.size w (((w.alloc (.cells #[.int .i64 en, .int .i64 ed] 36)).alloc (.cells #[.int .i64 rn, .int .i64 rd] 36)).alloc (.cells #[.int .i64 0, .int .i64 0] 36)) :=
    (((Below.refl _ w).alloc (Nat.le_refl _) _).alloc (by simp) _).alloc (by simp; omega) _
  have kE : PairAt (((w.alloc (.cells #[.int .i64 en, .int .i64 ed] 36)).alloc (.cells #[.int .i64 rn, .int .i64 rd] 36)).alloc (.cells #[.int .i64 0, .int .i64 0] 36)) w.heap.size en ed := (PairAt.new.old _).old _
  have kR : PairAt (((w.alloc (.cells #[.int .i64 en, .int .i64 ed] 36)).alloc (.cells #[.int .i64 rn, .int .i64 rd] 36)).alloc (.cells #[.int .i64 0, .int .i64 0] 36)) (w.heap.size + 1) rn rd := by
    have := (PairAt.new (w := w.alloc (.cells #[.int .i64 en, .int .i64 ed] 36)) (x := rn) (y := rd)).old (.cells #[.int .i64 0, .int .i64 0] 36)
    rw [World.size_alloc] at this
    exact this
  have kO : PairAt (((w.alloc (.cells #[.int .i64 en, .int .i64 ed] 36)).alloc (.cells #[.int .i64 rn, .int .i64 rd] 36)).alloc (.cells #[.int .i64 0, .int .i64 0] 36)) (w.heap.size + 1 + 1) 0 0 := by
    have := PairAt.new (w := (w.alloc (.cells #[.int .i64 en, .int .i64 ed] 36)).alloc (.cells #[.int .i64 rn, .int .i64 rd] 36)) (x := 0) (y := 0)
    rw [World.size_alloc, World.size_alloc] at this
    exact this
  have hs3 : (((w.alloc (.cells #[.int .i64 en, .int .i64 ed] 36)).alloc (.cells #[.int .i64 rn, .int .i64 rd] 36)).alloc (.cells #[.int .i64 0, .int .i64 0] 36)).heap.size = w.heap.size + 3 := by simp
  obtain ⟨W, hW⟩ : ∃ W, W = ((w.alloc (.cells #[.int .i64 en, .int .i64 ed] 36)).alloc (.cells #[.int .i64 rn, .int .i64 rd] 36)).alloc (.cells #[.int .i64 0, .int .i64 0] 36) := ⟨_, rfl⟩
  rw [← hW] at hB kE kR kO hs3
  have HW := Lib.hid hW
  have HS3 := Lib.hid hs3
  clear hs3 hv hvw hr he hrr hq hsn hsd hW
  unfold frV
  go_enter Try.func169, Try.ntmps169
  go_wp2_with (at_make; rw [← HW.out]; refine wpList_make_fracs rfl _ _ rfl W.heap.size xs.length rfl rfl (by omega) (Nat.le_refl _) ?_; intro w0 ho0 hb0)
  have s0 := hb0.size
  go_loopw [16] (fun i wr => ∃ k : Nat, ∃ ps, k ≤ xs.length ∧ i = .int .i64 k ∧ ps.length = xs.length ∧ OwnF wr W.heap.size (some ⟨W.heap.size, 0, none⟩) xs.length ps ∧ Below W.heap.size W wr ∧ Hid (ps = fillF (frL (termL xs e r)) k))
    (fun i _ => xs.length - (intOf i).toNat)
  case atStart => exact ⟨0, _, Nat.zero_le _, rfl, List.length_replicate, ho0, hb0, Lib.hid (by rw [fillF_zero, frL_len, termL_len])⟩
  case round =>
    obtain ⟨k, ps, hk, rfl, hpl, hown, hb, HP⟩ := hrel
    by_cases hlt : k < xs.length
    · have hr := (h.below hB).below hb
      obtain ⟨b', off', x, e', _, hx, hc⟩ := hr.at_ hlt
      injection e' with e'
      injection e' with e1' e2'
      subst e1' e2'
      obtain ⟨ce0, ce1, _, _⟩ := ((kE.below hb).old (.cells #[.int .i64 rn, .int .i64 rd] 36)).facts
      have kH := PairAt.new (w := wr) (x := rn) (y := rd)
      have hB1 : Below wr.heap.size wr (wr.alloc (.cells #[.int .i64 rn, .int .i64 rd] 36)) := below_al wr _
      have HKH := Lib.hid kH
      have HB1 := Lib.hid (hb.trans (hB1.mono hb.size))
      obtain ⟨cr0, cr1, _, _⟩ := (kR.below hb).facts
      have HX : Hid (x = wt xs k) := Lib.hid (by have := some_getD hlt; rw [hx.out] at this; exact Option.some.inj this)
      have hxb := HWB.out k hlt
      rw [← HX.out] at hxb
      have hx1 := hxb.1
      have hx6 := hxb.2
      have HPL := Lib.hid hpl
      obtain ⟨n, hn⟩ : ∃ n, n = (takeQ e r k).num := ⟨_, rfl⟩
      obtain ⟨d, hd⟩ : ∃ d, d = ((takeQ e r k).den : Int) := ⟨_, rfl⟩
      have HND : Hid (FrIs (takeQ e r k) n d) := Lib.hid ⟨hn, hd⟩
      obtain ⟨n2, hn2⟩ : ∃ n2, n2 = (((wt xs k : Int) : Rat) * takeQ e r k).num := ⟨_, rfl⟩
      obtain ⟨d2, hd2⟩ : ∃ d2, d2 = ((((wt xs k : Int) : Rat) * takeQ e r k).den : Int) := ⟨_, rfl⟩
      have hfr2 : FrIs (((wt xs k : Int) : Rat) * takeQ e r k) n2 d2 := ⟨hn2, hd2⟩
      obtain ⟨y1, y2, y3, y4⟩ := (HTK.out k hlt).sc.bd hD1 HND.out
      have ym := mul_six (a := n) (k := x) (B := 5 * D) y1 y2 (by omega) hx6
      have HT := Lib.hid (fun w => times_any n d x n2 d2 w (by rw [HX.out]; exact fr_times HND.out hfr2) (by omega) (by omega) y3 (by omega))
      have HG := Lib.hid (show (frL (termL xs e r))[k]? = some (n2, d2) from frL_get (termL_at hlt) hfr2)
      have HP2 := Lib.hid (show ps.set k (n2, d2) = fillF (frL (termL xs e r)) (k + 1) by rw [HP.out, fillF_set _ _ _ HG.out])
      obtain ⟨t, ht⟩ : ∃ t : Int, t = if (k : Rat) < e then 0 else 1 := ⟨_, rfl⟩
      have HA := Lib.hid (fun w => actAt_any k e en ed t w HE.out (by omega) e1 e2 e3 ht)
      have HTT := Lib.hid ht
      have hown' := Lib.hid hown
      have hO1 := Lib.hid (hown.below hB1)
      have hsz := hb.size
      clear hxb hn hd hn2 hd2 hfr2 ht hx hpl hown kH hB1
      go_wp2_with fail
      refine (HA.out _).mono ?_
      rintro e w1 ⟨rfl, b1⟩
      have hO2 := hO1.out.below b1
      have kH2 := HKH.out.below b1
      have B2 := HB1.out.trans (b1.mono HB1.out.size)
      obtain ⟨ch0, ch1, fh0, fh1⟩ := kH2.facts
      by_cases c : (k : Rat) < e
      · have ht0 : t = 0 := by rw [HTT.out, if_pos c]
        subst ht0
        have hq : takeQ e r k = r := by unfold takeQ; rw [if_pos c]
        obtain ⟨rfl, rfl⟩ := (hq ▸ HND.out : FrIs r n d).same HRR.out
        clear c hq
        go_wp2_with fail
        refine (HT.out _).mono ?_
        rintro e w9 ⟨rfl, b9⟩
        have hO9 := hO2.below b9
        have B9 := B2.trans (b9.mono B2.size)
        obtain ⟨⟨u, v⟩, hu⟩ : ∃ q, ps[k]? = some q := ⟨ps[k]'(by rw [HPL.out]; exact hlt), List.getElem?_eq_getElem (by rw [HPL.out]; exact hlt)⟩
        obtain ⟨c0, c1⟩ := hO9.cell hu
        have f0 := hO9.free (k * 2)
        have f1 := hO9.free (k * 2 + 1)
        have HO3 := Lib.hid (hO9.set_ k n2 d2)
        clear hu hO9 hO2 kH2
        unfold frV
        go_wp2
        go_roundw
        case rel => exact ⟨k + 1, _, by omega, by go_num, by rw [List.length_set, HPL.out], HO3.out, (B9.setCell (Nat.le_refl _) _).setCell (Nat.le_refl _) _, HP2⟩
        case measure => simp [intOf] <;> omega
      · have ht0 : t = 1 := by rw [HTT.out, if_neg c]
        subst ht0
        have hq : takeQ e r k = ((k : Int) : Rat) := by unfold takeQ; rw [if_neg c]; rfl
        obtain ⟨rfl, rfl⟩ := (hq ▸ HND.out : FrIs ((k : Int) : Rat) n d).same (FrIs.int (k : Int))
        clear c hq
        go_wp2_with fail
        refine (wholeOf_any (k : Int) _).mono ?_
        rintro e w2 ⟨rfl, b2⟩
        have kH3 := kH2.below b2
        have B3 := B2.trans (b2.mono B2.size)
        have hO3 := hO2.below b2
        obtain ⟨d0, d1, g0, g1⟩ := kH3.facts
        have kH4 := kH3.set_ (k : Int) 1
        obtain ⟨d2', d3', _, _⟩ := kH4.facts
        have B4 := below_set2 (B := wr.heap.size) B3 hsz (.int .i64 (k : Int)) (.int .i64 1)
        have hge := hO3.lt
        have hne : wr.heap.size ≠ W.heap.size := by have := hown'.out.lt; omega
        have hO4 := hO3.other2 hne (.int .i64 (k : Int)) (.int .i64 1)
        clear ch0 ch1 fh0 fh1
        unfold frV
        go_wp2_with fail
        refine (HT.out _).mono ?_
        rintro e w9 ⟨rfl, b9⟩
        have hO9 := hO4.below b9
        have B9 := B4.trans (b9.mono B4.size)
        obtain ⟨⟨u, v⟩, hu⟩ : ∃ q, ps[k]? = some q := ⟨ps[k]'(by rw [HPL.out]; exact hlt), List.getElem?_eq_getElem (by rw [HPL.out]; exact hlt)⟩
        obtain ⟨c0, c1⟩ := hO9.cell hu
        have f0 := hO9.free (k * 2)
        have f1 := hO9.free (k * 2 + 1)
        have HO3 := Lib.hid (hO9.set_ k n2 d2)
        clear hu hO9 hO2 hO3 hO4 kH2 kH3 kH4 d0 d1 g0 g1 d2' d3' B3 B4
        unfold frV
        go_wp2
        go_roundw
        case rel => exact ⟨k + 1, _, by omega, by go_num, by rw [List.length_set, HPL.out], HO3.out, (B9.setCell (Nat.le_refl _) _).setCell (Nat.le_refl _) _, HP2⟩
        case measure => simp [intOf] <;> omega
    · obtain rfl : k = xs.length := by omega
      have e2 : (frL (termL xs e r)).length = xs.length := by rw [frL_len, termL_len]
      have HE2 := Lib.hid (show ps = frL (termL xs e r) by have e3 := fillF_all (frL (termL xs e r)); rw [e2] at e3; rw [HP.out, e3])
      have hrf : RdF wr (some ⟨W.heap.size, 0, none⟩) xs.length (frL (termL xs e r)) := HE2.out ▸ hown.rd
      have HRF := Lib.hid hrf
      have kO2 := kO.below hb
      have HKO := Lib.hid kO2
      have hr := (h.below hB).below hb
      have HLT := Lib.hid (termL_len xs e r)
      have HM := Lib.hid (fun w1 (h1 : Rd w1 (some ⟨b, off, none⟩) c xs) => manyFrom_any b off c xs 0 w1 h1 hcc (by omega) (by omega) HSM.out)
      have HS := Lib.hid (fun w1 (h1 : RdF w1 (some ⟨W.heap.size, 0, none⟩) xs.length (frL (termL xs e r))) => by
        have := sumFracs_any (some ⟨W.heap.size, 0, none⟩) xs.length (termL xs e r) D sn sd w1 h1 (by rw [termL_len]; omega) hD1 hD HTS.out HSUM.out
        rwa [termL_len] at this)
      obtain ⟨T, hT⟩ : ∃ T, T = tailW xs 0 := ⟨_, rfl⟩
      rw [← hT] at HM HQ h36
      have hTp : 1 ≤ T := by rw [hT]; exact HTP.out
      clear hT
      have o1 := Int.mul_le_mul hsb.2.2.1 hTp (by omega) (by omega)
      have o2 := Int.mul_le_mul (Int.le_trans hsb.2.2.2 hD) h36.2 (by omega) (by omega)
      have HO := Lib.hid (fun w1 => over_any sn sd T N M w1 HQ.out (by omega) (by omega) (by omega) (by omega))
      clear e2 hown hrf kO2 kE kR kO o1 o2
      go_wp2_with fail
      refine (wholeOf_any 0 _).mono ?_
      rintro e w1 ⟨rfl, b1⟩
      have B1 := hb.trans (b1.mono hb.size)
      have R1 := HRF.out.below b1
      have hr1 := hr.below b1
      have k1 := HKO.out.below b1
      clear hr hb
      go_wp2_with fail
      refine (HS.out _ R1).mono ?_
      rintro e w2 ⟨rfl, b2⟩
      have B2 := B1.trans (b2.mono B1.size)
      have hr2 := hr1.below b2
      have k2 := k1.below b2
      clear hr1 B1 R1 k1
      go_wp2_with fail
      refine (HM.out _ hr2).mono ?_
      rintro e w3 ⟨rfl, rfl⟩
      go_wp2_with fail
      refine (HO.out _).mono ?_
      rintro e w4 ⟨rfl, b4⟩
      have B4 := B2.trans (b4.mono B2.size)
      have k4 := k2.below b4
      obtain ⟨c0, c1, f0, f1⟩ := k4.facts
      have k5 := k4.set_ N M
      obtain ⟨e0, e1, _, _⟩ := k5.facts
      have hBW := hB.trans (B4.mono hB.size)
      have hB7 := below_set2 (B := w.heap.size + 1 + 1) hBW (by omega) (.int .i64 N) (.int .i64 M)
      clear k2 k4 k5 hr2 B2 b1 b2 b4
      unfold frV
      go_wp2
      refine bodyPost_ret (v := frV N M) (by simp [results, Try.results169, go_sem, frV, e0, e1]) rfl ⟨rfl, hB7⟩
end Go.Proofs.Ytnojlapjkdihmaa
