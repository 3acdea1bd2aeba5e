/-
  Chapter 8: whether prices go with pairs, of the model and of the program.
-/
import Derived.Test.YtpildecpabeanaaG27
import Derived.Test.YtpildecpabeanaaG26
namespace Go.Proofs.Ytpildecpabeanaa
open Go.RowKit

/-- Whether prices go with the best pairs. -/
noncomputable def gwB (rows : List (List Int)) (p : List Int) : Bool := vgB rows p && @decide (goW (RW rows 0).length rows (P1 p) (pb rows 0).2) (Classical.propDecidable _)
theorem vg_parts {rows : List (List Int)} {p : List Int} : vgB rows p = true ↔ (VR rows ∧ p.length = (RW rows 0).length ∧ ∀ x ∈ p, 0 ≤ x ∧ x ≤ 40) := by
  unfold vgB
  rw [Bool.and_eq_true, Bool.and_eq_true, vr_iff, List.all_eq_true, decide_eq_true_eq]
  exact ⟨fun h => ⟨h.2.1, h.2.2, fun x hx => inR_true.1 (h.1 x hx)⟩, fun h => ⟨fun x hx => inR_true.2 (h.2.2 x hx), h.1, h.2.1⟩⟩
theorem gw_no {rows : List (List Int)} {p : List Int} (h : vgB rows p = false) : gwB rows p = false := by unfold gwB; rw [h, Bool.false_and]
theorem gw_yes {rows : List (List Int)} {p : List Int} (h : vgB rows p = true) : gwB rows p = true ↔ goW (RW rows 0).length rows (P1 p) (pb rows 0).2 := by
  unfold gwB; simp [h]
theorem getD_bd {p : List Int} (hpb : ∀ x ∈ p, 0 ≤ x ∧ x ≤ 40) (j : Nat) : 0 ≤ p.getD j 0 ∧ p.getD j 0 ≤ 40 := by
  rw [List.getD_eq_getElem?_getD]
  rcases Nat.lt_or_ge j p.length with h1 | h1
  · rw [List.getElem?_eq_getElem h1]; exact hpb _ (List.getElem_mem h1)
  · rw [List.getElem?_eq_none h1]; simp

set_option maxRecDepth 100000 in
set_option maxHeartbeats 1000000 in
theorem SGoWithPairs_any (A B : Option Addr) (c d : Nat) (rows : List (List Int)) (p : List Int) (w : World) (h : RdR w A c rows) (hP : Rd w B d p) (hl : rows.length ≤ 1099511627776) (hl2 : ∀ r ∈ rows, r.length ≤ 1099511627776) (hpl : p.length ≤ 1099511627776) :
    Calls Try.prog 51 #[.slice A rows.length c, .slice B p.length d] w fun e w' => e = .returned (.bool (gwB rows p)) ∧ Below w.heap.size w w' := by
  have HVG := Lib.hid (validGoods_any A B c d rows p w h hP hl hl2 hpl)
  by_cases hv : vgB rows p = true
  · rw [hv] at HVG
    obtain ⟨hr, hpm, hpb⟩ := vg_parts.1 hv
    obtain ⟨hk, h12, hm1, hm4⟩ := hr.rk
    obtain ⟨v, hvv⟩ : ∃ v, v = gwB rows p := ⟨_, rfl⟩
    have hgo := gw_yes hv
    rw [← hvv] at hgo ⊢
    have HPW : Hid (∀ n, Calls Try.prog 111 #[.slice A rows.length c, .int .i64 0, .int .i64 0] (w.drewN n) (PwIs (w.drewN n) (pb rows 0))) := Lib.hid (fun n =>
      pairWorth_any A c _ rows hm4 hk h12 hr.1.2 rows.length 0 0 (w.drewN n) (by omega) (by omega) (h.drewN n))
    have hpl' := pb_len hk 0
    have HSU := Lib.hid (fun C e w' (hb : Below w.heap.size w w') (hL : Rd w' C e (nl (pb rows 0).2)) => supports_any A B C c d e _ rows p _ w' v (h.below hb) (hP.below hb) hL hk h12 hm4 hr.1.2 hpm (getD_bd hpb) (pb_mt hk 0).1 hgo)
    rw [← hpm] at HSU
    have HPL := Lib.hid hpl'
    clear hv hr hk h12 hm1 hm4 hpb hpl' hgo hvv h hP hpm
    generalize pb rows 0 = bb at *
    obtain ⟨s0, l0⟩ := bb
    go_enter Try.func51, Try.ntmps51
    go_wp2_with fail
    refine HVG.out.mono ?_
    rintro e w1 ⟨rfl, n, rfl⟩
    go_wp2_with fail
    refine (HPW.out n).mono ?_
    rintro e w2 ⟨A2, c2, rfl, o2, b2⟩
    have B2 := (below_drewN' (Below.refl w.heap.size w) n).trans b2
    have e2 : (s0, l0).2.length = rows.length := HPL.out
    simp only at e2
    go_wp2_with fail
    refine (HSU.out A2 c2 w2 B2 o2.rd).mono ?_
    rintro e w3 ⟨rfl, n3, rfl⟩
    go_wp2
    go_ret
    exact ⟨rfl, below_drewN' B2 n3⟩
  · rw [Bool.not_eq_true] at hv
    rw [hv] at HVG
    rw [gw_no hv]
    clear hv
    go_enter Try.func51, Try.ntmps51
    go_wp2_with fail
    refine HVG.out.mono ?_
    rintro e w1 ⟨rfl, n, rfl⟩
    go_wp2
    go_ret
    exact ⟨rfl, below_drewN' (Below.refl _ _) n⟩

set_option maxRecDepth 100000 in
set_option maxHeartbeats 1000000 in
theorem GoWithPairs_any (A B : Option Addr) (c d : Nat) (rows : List (List Int)) (p : List Int) (w : World) (h : RdR w A c rows) (hP : Rd w B d p) (hpd : p.length ≤ d) (hl : rows.length ≤ 1099511627776) (hl2 : ∀ r ∈ rows, r.length ≤ 1099511627776) (hpl : p.length ≤ 1099511627776) :
    Calls Try.prog 48 #[.slice A rows.length c, .slice B p.length d] w fun e w' => e = .returned (.bool (gwB rows p)) ∧ Below w.heap.size w w' := by
  have HV := Lib.hid (ValidRows_any A c rows w h hl hl2)
  by_cases hr : VR rows
  · by_cases hpm : p.length = (RW rows 0).length
    · by_cases hpb : ∀ x ∈ p, 0 ≤ x ∧ x ≤ 40
      · have hv := vg_parts.2 ⟨hr, hpm, hpb⟩
        have := GoWithPairs_yes A B c d p.length rows p w (gwB rows p) h hP hr hpm rfl hpd hpb hl2 (by have := gw_yes hv; rwa [← hpm] at this)
        exact this
      · have hv : vgB rows p = false := by rw [← Bool.not_eq_true, vg_parts]; exact fun h => hpb h.2.2
        rw [gw_no hv]
        have hgb : gB p = false := gB_bad (by rw [← Bool.not_eq_true, List.all_eq_true]; exact fun h => hpb (fun x hx => inR_true.1 (h x hx)))
        have HGO : Hid (∀ w1, Below w.heap.size w w1 → Calls Try.prog 78 #[.slice B p.length d, .int .i64 4, .func (.func 107) #[] #[]] w1 fun e w' => e = .returned (.bool false) ∧ w1 = w') := Lib.hid (fun w1 hb => by
          have := areGoods_any B d p w1 (hP.below hb) hpl
          rwa [hgb] at this)
        rw [vr_true hr] at HV
        obtain ⟨b0, off0, A0, c0, rfl, hc0⟩ := row_head h hr
        rw [← hpm] at hc0
        have hn1 := hr.1.1
        clear hpb hv hgb hr hpm
        go_enter Try.func48, Try.ntmps48
        go_wp2_with fail
        refine HV.out.mono ?_
        rintro e w1 ⟨rfl, b1⟩
        have hc01 := (b1.cell (p := ⟨b0, off0, none⟩) (World.block_lt_of_cell? w _ hc0)).trans hc0
        go_wp2_with fail
        refine (HGO.out w1 b1).mono ?_
        rintro e w2 ⟨rfl, rfl⟩
        go_wp2
        go_ret
        exact ⟨rfl, b1⟩
    · have hv : vgB rows p = false := by rw [← Bool.not_eq_true, vg_parts]; exact fun h => hpm h.2.1
      rw [gw_no hv]
      rw [vr_true hr] at HV
      obtain ⟨b0, off0, A0, c0, rfl, hc0⟩ := row_head h hr
      have hn1 := hr.1.1
      generalize (RW rows 0).length = m at *
      have hpm' : ¬ (p.length : Int) = (m : Int) := by omega
      have hbe : ((p.length : Int) != (m : Int)) = true := by simpa using hpm'
      clear hv hr hpm
      go_enter Try.func48, Try.ntmps48
      go_wp2_with fail
      refine HV.out.mono ?_
      rintro e w1 ⟨rfl, b1⟩
      have hc01 := (b1.cell (p := ⟨b0, off0, none⟩) (World.block_lt_of_cell? w _ hc0)).trans hc0
      go_wp2
      go_ret
      exact ⟨rfl, b1⟩
  · have hv : vgB rows p = false := by rw [← Bool.not_eq_true, vg_parts]; exact fun h => hr h.1
    rw [gw_no hv]
    rw [vr_false hr] at HV
    clear hv hr
    go_enter Try.func48, Try.ntmps48
    go_wp2_with fail
    refine HV.out.mono ?_
    rintro e w1 ⟨rfl, b1⟩
    go_wp2
    go_ret
    exact ⟨rfl, b1⟩

theorem GoWithPairs_both (rows : List (List Int)) (told : List Int) : ∃ (v : Bool), (rows.length ≤ 1099511627776 → (∀ r ∈ rows, r.length ≤ 1099511627776) → told.length ≤ 1099511627776 →
    (∀ A T c d w, RdR w A c rows → Rd w T d told → told.length ≤ d → Calls Try.prog 51 #[.slice A rows.length c, .slice T told.length d] w fun e w' => e = .returned (.bool v) ∧ Below w.heap.size w w') ∧
    (∀ A T c d w, RdR w A c rows → Rd w T d told → told.length ≤ d → Calls Try.prog 48 #[.slice A rows.length c, .slice T told.length d] w fun e w' => e = .returned (.bool v) ∧ Below w.heap.size w w')) :=
  ⟨gwB rows told, fun hl hl2 hl3 => ⟨fun A T c d w h1 h2 _ => SGoWithPairs_any A T c d rows told w h1 h2 hl hl2 hl3,
    fun A T c d w h1 h2 h3 => GoWithPairs_any A T c d rows told w h1 h2 h3 hl hl2 hl3⟩⟩
end Go.Proofs.Ytpildecpabeanaa

/-
  Chapter 8, the model: the set that too many want, and prices that climb.
-/
namespace Go.Proofs.Ytpildecpabeanaa
open Go.RowKit

theorem bts_four {m s : Nat} (hm : m ≤ 4) (hs : s < 2 ^ m) : bts m s = bts 4 s := by
  have key : ∀ (m : Fin 5) (s : Fin 16), s.1 < 2 ^ m.1 → bts m.1 s.1 = bts 4 s.1 := by decide
  have h := Nat.pow_le_pow_right (n := 2) (by omega) hm
  exact key ⟨m, by omega⟩ ⟨s, by omega⟩ hs
theorem bts_half {y : Nat} (hy : y < 16) : bts 4 y = y % 2 + bts 4 (y / 2) := by
  have key : ∀ y : Fin 16, bts 4 y.1 = y.1 % 2 + bts 4 (y.1 / 2) := by decide
  exact key ⟨y, hy⟩
theorem bts_le4 {y : Nat} (hy : y < 16) : bts 4 y ≤ 4 := by
  have key : ∀ y : Fin 16, bts 4 y.1 ≤ 4 := by decide
  exact key ⟨y, hy⟩

set_option maxHeartbeats 400000 in
theorem countBits_any (s : Nat) (hs : s < 16) (w : World) :
    Calls Try.prog 166 #[.int .i64 (s : Int)] w fun e w' => e = .returned (.int .i64 ((bts 4 s : Nat) : Int)) ∧ w = w' := by
  go_enter Try.func166, Try.ntmps166
  go_wp2
  go_loop [0, 3] (fun x n => ∃ y z : Nat, y < 16 ∧ x = .int .i64 (y : Int) ∧ n = .int .i64 (z : Int) ∧ Hid (z + bts 4 y = bts 4 s)) (fun x _ => (intOf x).toNat)
  case atStart => exact ⟨s, 0, hs, rfl, rfl, Lib.hid (by omega)⟩
  case round =>
    obtain ⟨y, z, hy, rfl, rfl, HZ⟩ := hrel
    by_cases hy0 : y = 0
    · subst hy0
      have HE : Hid (z = bts 4 s) := Lib.hid (by have := HZ.out; simpa [bts] using this)
      go_wp2
      go_ret
      exact ⟨by rw [← HE.out]; rfl, rfl⟩
    · have hyp : (0 : Int) < (y : Int) := by omega
      have hz4 : z ≤ 4 := by have := HZ.out; have := bts_le4 hs; omega
      have HZ' : Hid (z + y % 2 + bts 4 (y / 2) = bts 4 s) := Lib.hid (by have := HZ.out; rw [bts_half hy] at this; omega)
      have hm2 : (y : Int).tmod 2 = ((y % 2 : Nat) : Int) := by rw [Int.tmod_eq_emod_of_nonneg (by omega)]; omega
      have hd2 : (y : Int).tdiv 2 = ((y / 2 : Nat) : Int) := by rw [Int.tdiv_eq_ediv_of_nonneg (by omega)]; omega
      have hy2 : y / 2 < y := by omega
      clear hy0
      go_wp2
      go_round
      case rel => exact ⟨y / 2, z + y % 2, by omega, by first | (go_num; done) | (simp [hd2]) | rfl, by go_num, HZ'⟩
      case measure => simp [intOf]; omega

theorem andNot16 {a s : Nat} (ha : a < 16) (hs : s < 16) : (bits .andNot .i64 (a : Int) (s : Int) == 0) = decide (∀ j : Fin 4, a / 2 ^ j.1 % 2 = 1 → s / 2 ^ j.1 % 2 = 1) := by
  have key : ∀ (a s : Fin 16), (bits .andNot .i64 ((a.1 : Nat) : Int) ((s.1 : Nat) : Int) == 0) = decide (∀ j : Fin 4, a.1 / 2 ^ j.1 % 2 = 1 → s.1 / 2 ^ j.1 % 2 = 1) := by decide +kernel
  exact key ⟨a, ha⟩ ⟨s, hs⟩
/-- Who wants none but of a set, as the model asks it. -/
theorem inS_ask {m : Nat} (hm : m ≤ 4) {r : List Int} {p : Nat → Int} {S : Nat} (hS : S < 16) : inS m r p S = (!(bo m r 0 p == 0) && (bits .andNot .i64 ((wnTo r p (bo m r 0 p) m : Nat) : Int) (S : Int) == 0)) := by
  have h16 := Nat.pow_le_pow_right (n := 2) (by omega) hm
  have hw := wnTo_lt r p (bo m r 0 p) m
  rw [andNot16 (by omega) hS]
  have hn := bo_nonneg m r 0 p
  rw [Bool.eq_iff_iff]
  simp only [inS, Bool.and_eq_true, decide_eq_true_eq, Bool.not_eq_true', beq_eq_false_iff_ne]
  constructor
  · rintro ⟨h0, h1⟩
    refine ⟨by omega, fun j hj => ?_⟩
    obtain ⟨a, b⟩ := (wnTo_bit (by have := j.2; omega) m (by omega)).1 hj
    exact h1 j.1 a b
  · rintro ⟨h0, h1⟩
    refine ⟨by omega, fun j hj he => h1 ⟨j, by omega⟩ ((wnTo_bit (by omega) m (by omega)).2 ⟨hj, he⟩)⟩
theorem cntS_take {m : Nat} {rows : List (List Int)} {p : Nat → Int} {S k : Nat} {r : List Int} (h : rows[k]? = some r) : cntS m (rows.take (k + 1)) p S = cntS m (rows.take k) p S + (if inS m r p S = true then 1 else 0) := by
  have key : ∀ (a : List (List Int)), cntS m (a ++ [r]) p S = cntS m a p S + (if inS m r p S = true then 1 else 0) := by
    intro a
    induction a with
    | nil => simp [cntS]
    | cons x xs ih => simp only [List.cons_append, cntS, ih]; omega
  rw [List.take_add_one, h, ← key]; rfl
theorem cntS_le {m : Nat} {p : Nat → Int} {S : Nat} : ∀ rows : List (List Int), cntS m rows p S ≤ rows.length := by
  intro rows
  induction rows with
  | nil => simp [cntS]
  | cons r rs ih => simp only [cntS, List.length_cons]; split <;> omega

set_option maxRecDepth 100000 in
set_option maxHeartbeats 2000000 in
theorem tooMany_any (A B : Option Addr) (c d m : Nat) (rows : List (List Int)) (p : List Int) (w : World) (hR : RdR w A c rows) (hP : Rd w B d p) (hk : Rk m rows) (h12 : R12 rows) (hp : p.length = m) (h4 : m ≤ 4) (hn4 : rows.length ≤ 4) (hpb : ∀ j, 0 ≤ p.getD j 0 ∧ p.getD j 0 ≤ 100) :
    Calls Try.prog 153 #[.slice A rows.length c, .slice B m d] w fun e w' => e = .returned (.int .i64 ((tm m rows (P1 p) : Nat) : Int)) ∧ ∃ n, w' = w.drewN n := by
  have h16 := Nat.pow_le_pow_right (n := 2) (by omega) h4
  have HPW := Lib.hid (fun w1 => Spow4_any m h4 w1)
  have HWT := Lib.hid (fun (A1 : Option Addr) (c1 : Nat) (r : List Int) (q : Nat) (hr : r ∈ rows) (h1 : Rd w A1 c1 r) => wants_any A1 B c1 d m r p (w.drewN q) (h1.drewN q) (hP.drewN q) (hk r hr).1 hp h4 (fun j => ⟨(hk r hr).2 j, h12 r hr j⟩) hpb)
  have HRR := Lib.hid hR
  have HCB := Lib.hid (fun s (hs : s < 16) w1 => countBits_any s hs w1)
  have HIA := Lib.hid (fun (r : List Int) (S : Nat) (hS : S < 16) => inS_ask (r := r) (p := P1 p) h4 hS)
  have HRL := Lib.hid (fun (r : List Int) (hr : r ∈ rows) => (hk r hr).1)
  obtain ⟨Q, hQ⟩ : ∃ Q, Q = 2 ^ m := ⟨_, rfl⟩
  have HTM : Hid (tm m rows (P1 p) = tmTo m rows (P1 p) Q) := Lib.hid (by rw [hQ]; rfl)
  have HBT := Lib.hid (fun s (hs : s < Q) => bts_four (m := m) h4 (s := s) (by rw [← hQ]; exact hs))
  have HTL : Hid (∀ k, k ≤ Q → tmTo m rows (P1 p) k < Q) := Lib.hid (fun k hk' => by
    rcases tmTo_is m rows (P1 p) k with ⟨e, _⟩ | ⟨h, _⟩
    · rw [e, hQ]; exact Nat.two_pow_pos m
    · omega)
  rw [← hQ] at HPW h16
  have hQ1 : 1 ≤ Q := by rw [hQ]; exact Nat.two_pow_pos m
  have hT1 : tmTo m rows (P1 p) 1 = 0 := by
    unfold tmTo
    rw [if_neg (by rw [cnt_zero]; omega)]; rfl
  have HT1 := Lib.hid hT1
  clear hR hP hk h12 hQ hT1
  go_enter Try.func153, Try.ntmps153
  go_wp2_with fail
  go_loopw [5, 6] (fun o s wr => ∃ (k q t : Nat), 1 ≤ k ∧ k ≤ Q ∧ s = .int .i64 k ∧ wr = w.drewN q ∧ o = .int .i64 (t : Int) ∧ Hid (t = tmTo m rows (P1 p) k)) (fun _ s _ => Q - (intOf s).toNat)
  case atStart => exact ⟨1, 0, 0, Nat.le_refl _, hQ1, rfl, rfl, rfl, Lib.hid HT1.out.symm⟩
  case round =>
    obtain ⟨k, q, t, hk1, hkQ, rfl, rfl, rfl, HT⟩ := hrel
    by_cases hlt : k < Q
    · have hltI : (k : Int) < (Q : Int) := by omega
      go_wp2_with fail
      refine (HPW.out _).mono ?_
      rintro e w2 ⟨rfl, rfl⟩
      go_wp2_with fail
      go_loopw [7, 8] (fun n i wr => ∃ (l q z : Nat), l ≤ rows.length ∧ i = .int .i64 l ∧ wr = w.drewN q ∧ n = .int .i64 (z : Int) ∧ Hid (z = cntS m (rows.take l) (P1 p) k)) (fun _ i _ => rows.length - (intOf i).toNat)
      case atStart => exact ⟨0, q, 0, Nat.zero_le _, rfl, rfl, rfl, Lib.hid (by simp [cntS])⟩
      case round =>
        obtain ⟨l, q2, z, hl, rfl, rfl, rfl, HZ⟩ := hrel
        by_cases hll : l < rows.length
        · obtain ⟨b4, o4, r, A4, c4, rfl, hr4, hc4, hcap4, hrd4⟩ := HRR.out.at_ hll
          have hrm := List.mem_of_getElem? hr4.out
          have hrl := HRL.out r hrm
          have HW := Lib.hid (HWT.out A4 c4 r q2 hrm hrd4.out)
          have hst := cntS_take (m := m) (p := P1 p) (S := k) hr4.out
          rw [← HZ.out, HIA.out r k (by omega)] at hst
          have hz4 : z ≤ 4 := by have := cntS_le (m := m) (p := P1 p) (S := k) (rows.take l); rw [← HZ.out] at this; have h2 : (rows.take l).length ≤ rows.length := by rw [List.length_take]; omega
                                 omega
          obtain ⟨W, hW⟩ : ∃ W, W = wnTo r (P1 p) (bo m r 0 (P1 p)) m := ⟨_, rfl⟩
          obtain ⟨f, hf⟩ : ∃ f, f = (bo m r 0 (P1 p) == 0) := ⟨_, rfl⟩
          rw [← hW, ← hf] at HW hst
          obtain ⟨g, hg⟩ : ∃ g, g = (bits .andNot .i64 (W : Int) (k : Int) == 0) := ⟨_, rfl⟩
          rw [← hg] at hst
          have HST := Lib.hid hst
          have hg' := hg.symm
          clear hst hr4 hrd4 hW hf hg hrm
          go_wp2_with fail
          refine HW.out.mono ?_
          rintro e w3 ⟨rfl, n3, rfl⟩
          cases f with
          | true =>
            have HS2 : Hid (cntS m (rows.take (l + 1)) (P1 p) k = z) := Lib.hid (by rw [HST.out]; simp)
            go_wp2
            go_roundw
            case rel => exact ⟨l + 1, _, z, hll, by go_num, rfl, rfl, Lib.hid HS2.out.symm⟩
            case measure => simp [intOf]; omega
          | false =>
            cases g with
            | true =>
              have HS2 : Hid (cntS m (rows.take (l + 1)) (P1 p) k = z + 1) := Lib.hid (by rw [HST.out]; simp)
              go_wp2
              go_roundw
              case rel => exact ⟨l + 1, _, z + 1, hll, by go_num, rfl, by go_num, Lib.hid HS2.out.symm⟩
              case measure => simp [intOf]; omega
            | false =>
              have HS2 : Hid (cntS m (rows.take (l + 1)) (P1 p) k = z) := Lib.hid (by rw [HST.out]; simp)
              go_wp2
              go_roundw
              case rel => exact ⟨l + 1, _, z, hll, by go_num, rfl, rfl, Lib.hid HS2.out.symm⟩
              case measure => simp [intOf]; omega
        · obtain rfl : l = rows.length := by omega
          have HZE : Hid (z = cntS m rows (P1 p) k) := Lib.hid (by have := HZ.out; rwa [List.take_of_length_le (Nat.le_refl _)] at this)
          have htQ : t < Q := by rw [HT.out]; exact HTL.out k (by omega)
          have HCK := Lib.hid (HCB.out k (by omega))
          have HCT := Lib.hid (HCB.out t (by omega))
          have hst : tmTo m rows (P1 p) (k + 1) = if bts 4 k < z ∧ (t = 0 ∨ bts 4 k < bts 4 t) then k else t := by
            rw [tmTo, ← HT.out, ← HZE.out, HBT.out k hlt, HBT.out t htQ]
          obtain ⟨a, ha⟩ : ∃ a, a = bts 4 k := ⟨_, rfl⟩
          obtain ⟨bt', hbt'⟩ : ∃ bt', bt' = bts 4 t := ⟨_, rfl⟩
          rw [← ha] at HCK hst
          rw [← hbt'] at HCT hst
          clear ha hbt' htQ
          by_cases h1 : a < z
          · have h1I : (a : Int) < (z : Int) := by omega
            by_cases h2 : t = 0
            · have HST : Hid (tmTo m rows (P1 p) (k + 1) = k) := Lib.hid (by rw [hst, if_pos ⟨h1, .inl h2⟩])
              have htb : ((t : Int) == 0) = true := by simpa using h2
              clear hst h1 h2
              go_wp2_with fail
              refine (HCK.out _).mono ?_
              rintro e w3 ⟨rfl, rfl⟩
              go_wp2
              go_roundw
              case rel => exact ⟨k + 1, _, k, by omega, hlt, by go_num, rfl, rfl, Lib.hid HST.out.symm⟩
              case measure => simp [intOf]; omega
            · have htb : ((t : Int) == 0) = false := by simpa using h2
              by_cases h3 : a < bt'
              · have HST : Hid (tmTo m rows (P1 p) (k + 1) = k) := Lib.hid (by rw [hst, if_pos ⟨h1, .inr h3⟩])
                have h3I : (a : Int) < (bt' : Int) := by omega
                clear hst h1 h2 h3
                go_wp2_with fail
                refine (HCK.out _).mono ?_
                rintro e w3 ⟨rfl, rfl⟩
                go_wp2_with fail
                refine (HCK.out _).mono ?_
                rintro e w3 ⟨rfl, rfl⟩
                go_wp2_with fail
                refine (HCT.out _).mono ?_
                rintro e w3 ⟨rfl, rfl⟩
                go_wp2
                go_roundw
                case rel => exact ⟨k + 1, _, k, by omega, hlt, by go_num, rfl, rfl, Lib.hid HST.out.symm⟩
                case measure => simp [intOf]; omega
              · have HST : Hid (tmTo m rows (P1 p) (k + 1) = t) := Lib.hid (by rw [hst, if_neg (fun hx => by rcases hx.2 with h | h; exact h2 h; exact h3 h)])
                have h3I : ¬ (a : Int) < (bt' : Int) := by omega
                clear hst h1 h2 h3
                go_wp2_with fail
                refine (HCK.out _).mono ?_
                rintro e w3 ⟨rfl, rfl⟩
                go_wp2_with fail
                refine (HCK.out _).mono ?_
                rintro e w3 ⟨rfl, rfl⟩
                go_wp2_with fail
                refine (HCT.out _).mono ?_
                rintro e w3 ⟨rfl, rfl⟩
                go_wp2
                go_roundw
                case rel => exact ⟨k + 1, _, t, by omega, hlt, by go_num, rfl, rfl, Lib.hid HST.out.symm⟩
                case measure => simp [intOf]; omega
          · have HST : Hid (tmTo m rows (P1 p) (k + 1) = t) := Lib.hid (by rw [hst, if_neg (fun hx => h1 hx.1)])
            have h1I : ¬ (a : Int) < (z : Int) := by omega
            clear hst h1
            go_wp2_with fail
            refine (HCK.out _).mono ?_
            rintro e w3 ⟨rfl, rfl⟩
            go_wp2
            go_roundw
            case rel => exact ⟨k + 1, _, t, by omega, hlt, by go_num, rfl, rfl, Lib.hid HST.out.symm⟩
            case measure => simp [intOf]; omega
    · obtain rfl : k = Q := by omega
      go_wp2_with fail
      refine (HPW.out _).mono ?_
      rintro e w2 ⟨rfl, rfl⟩
      go_wp2
      go_ret
      exact ⟨by rw [HTM.out, ← HT.out]; rfl, _, rfl⟩
end Go.Proofs.Ytpildecpabeanaa
