/-
  Chapter 6: the program's SurplusAt and DemandAt.
-/
import Derived.Test.YtfjncipekjnbjaaJk
import Derived.Test.YtfjncipekjnbjaaWk
import Derived.Deep.RegionLaw
namespace Go.Proofs.Ytfjncipekjnbjaa
open Go.RowKit

/-- What is left of each set. -/
def lfL (t p : List Int) : List Int := lit8 (lf t p)
theorem lfL_max {t p : List Int} (h : T t 0 = 0) : (lfL t p).foldl max 0 = su t p := by
  have h0 := lf_zero (p := p) h
  simp [lfL, lit8, su, suTo]
theorem arr3_ptr (b off c : Nat) (w : World) : (Instr.arrayAt 68 (.slice (some ⟨b, off, none⟩) 3 c)).run Try.prog w = .ok (.pointer (some ⟨b, off, none⟩)) w := by kernel_rfl
theorem Rd.three {w : World} {b off c : Nat} {p : List Int} (h : Rd w (some ⟨b, off, none⟩) c p) (hl : p.length = 3) : w.cell? ⟨b, off, none⟩ = some (.int .i64 (T p 0)) ∧ w.cell? ⟨b, off + 1, none⟩ = some (.int .i64 (T p 1)) ∧ w.cell? ⟨b, off + 2, none⟩ = some (.int .i64 (T p 2)) := by
  have : ∀ k, k < 3 → w.cell? ⟨b, off + k, none⟩ = some (.int .i64 (T p k)) := fun k hk => by
    obtain ⟨b', off', x, hA, _, hx, hc⟩ := h.at_ (k := k) (by omega)
    cases hA
    rw [hc, T_of hx.out]
  exact ⟨this 0 (by omega), this 1 (by omega), this 2 (by omega)⟩
theorem Rd.some3 {w : World} {A : Option Addr} {c : Nat} {t : List Int} (h : Rd w A c t) (hl : t.length = 3) : ∃ b off, A = some ⟨b, off, none⟩ := by
  obtain ⟨b, off, _, hA, _⟩ := h.at_ (k := 0) (by omega)
  exact ⟨b, off, hA⟩

/-- A region that draws its order, all ways of which end alike, but for a block and what lies in it. -/
theorem wp_alike {P : Program} {c : Code} {K : Act → World → Prop} {Q : Exit → Act → World → Prop} {a : Act} {w : World} (a0 : Nat → Act) (R : Nat → World → Prop) (h : ∀ K1 : Act → World → Prop, (∀ M w', R M w' → K1 (a0 M) w') → c.wp P (Exit.then K1 Q) a w) (hk : ∀ M w', R M w' → K (a0 M) w') : c.wp P (Exit.then K Q) a w := h K hk
theorem exit_normal {K : Act → World → Prop} {Q : Exit → Act → World → Prop} {a : Act} {w : World} (h : K a w) : Exit.then K Q Exit.normal a w := h
/-- A block of the call's own holds the table l. -/
def PutAt (w0 : World) (l : List Int) (M : Nat) (w' : World) : Prop := w0.heap.size ≤ M ∧ Below w0.heap.size w0 w' ∧ Arr w' M l
theorem put8 {w0 w : World} {M : Nat} {L : List Int} (hb : Below w0.heap.size w0 w) (hA : Arr w M L) (hM : w0.heap.size ≤ M) (f : Nat → Int) :
    PutAt w0 (lit8 f) M ((((((((w.setCell ⟨M, 0, none⟩ (.int .i64 (f 0))).setCell ⟨M, 1, none⟩ (.int .i64 (f 1))).setCell ⟨M, 2, none⟩ (.int .i64 (f 2))).setCell ⟨M, 3, none⟩ (.int .i64 (f 3))).setCell ⟨M, 4, none⟩ (.int .i64 (f 4))).setCell ⟨M, 5, none⟩ (.int .i64 (f 5))).setCell ⟨M, 6, none⟩ (.int .i64 (f 6))).setCell ⟨M, 7, none⟩ (.int .i64 (f 7))) := by
  refine ⟨hM, ?_, ?_⟩
  · exact (((((((hb.setCell hM _).setCell hM _).setCell hM _).setCell hM _).setCell hM _).setCell hM _).setCell hM _).setCell hM _
  · have h9 := (((((((hA.set_ (k := 0) (f 0)).set_ (k := 1) (f 1)).set_ (k := 2) (f 2)).set_ (k := 3) (f 3)).set_ (k := 4) (f 4)).set_ (k := 5) (f 5)).set_ (k := 6) (f 6)).set_ (k := 7) (f 7)
    rw [set8 hA.1] at h9
    exact h9
theorem put_new {w0 w : World} (hb : Below w0.heap.size w0 w) (f : Nat → Int) :
    PutAt w0 (lit8 f) w.heap.size (w.alloc (.cells #[.int .i64 (f 0), .int .i64 (f 1), .int .i64 (f 2), .int .i64 (f 3), .int .i64 (f 4), .int .i64 (f 5), .int .i64 (f 6), .int .i64 (f 7)] 65)) :=
  ⟨hb.size, hb.alloc hb.size _, Arr.new w (lit8 f) rfl⟩
theorem Arr.rd {w : World} {M : Nat} {l : List Int} (h : Arr w M l) (c : Nat) : Rd w (some ⟨M, 0, none⟩) c l := .inr ⟨M, 0, rfl, fun k hk => by
  have := h.cell (k := k) (by rw [h.1] at hk; exact hk)
  rw [Nat.zero_add, this]
  congr 1⟩

set_option maxHeartbeats 400000 in
theorem MaxFrom_any (A : Option Addr) (c n : Nat) (xs : List Int) (w : World) (hn : xs.length = n) (h : Rd w A c xs) (h1 : 1 ≤ n) (hl : n ≤ 1048576) (h0 : 0 ≤ T xs 0) :
    Calls Try.prog 82 #[.slice A n c] w fun e w' => e = .returned (.int .i64 (xs.foldl max 0)) ∧ w = w' := by
  subst hn
  obtain ⟨b, off, x0, rfl, _, hx0, hc0⟩ := h.at_ (k := 0) (by omega)
  rw [Nat.add_zero] at hc0
  have hx00 : 0 ≤ x0 := by rw [← T_of hx0.out]; exact h0
  have HX0 : Hid ((xs.take 1).foldl max 0 = x0) := Lib.hid (by rw [show (1 : Nat) = 0 + 1 from rfl, mxl_step hx0.out]; simp; omega)
  have hl1 : decide ((xs.length : Int) < 1) = false := by simp; omega
  clear hx0 hx00 h0
  go_enter Try.func82, Try.ntmps82
  go_wp2
  go_loop [3, 4] (fun m i => ∃ k : Nat, 1 ≤ k ∧ k ≤ xs.length ∧ i = .int .i64 k ∧ ∃ v, m = .int .i64 v ∧ Hid (v = (xs.take k).foldl max 0)) (fun _ i => xs.length - (intOf i).toNat)
  case atStart => exact ⟨1, Nat.le_refl _, h1, rfl, x0, rfl, Lib.hid HX0.out.symm⟩
  case round =>
    obtain ⟨k, hk1, hk, rfl, v, rfl, HV⟩ := hrel
    by_cases hlt : k < xs.length
    · obtain ⟨b2, off2, x, hA, _, hx, hc⟩ := h.at_ hlt
      cases hA
      have HV' : Hid ((if v < x then x else v) = (xs.take (k + 1)).foldl max 0) := Lib.hid (by rw [mxl_step hx.out, ← HV.out]; split <;> omega)
      clear hx
      go_wp2
      go_round
      case rel => exact ⟨k + 1, by omega, by omega, by go_num, _, rfl, HV'⟩
      case measure => simp [intOf]; omega
    · obtain rfl : k = xs.length := by omega
      have HE : Hid (v = xs.foldl max 0) := Lib.hid (by rw [HV.out, List.take_length])
      go_wp2
      go_ret
      exact ⟨by rw [HE.out]; rfl, rfl⟩

set_option maxRecDepth 100000 in
set_option maxHeartbeats 800000 in
theorem surplusOf_any (t p : List Int) (w : World) (hvt : VT t) (hvp : VP p) :
    Calls Try.prog 78 #[ag8 (T t), ag3 p] w fun e w' => e = .returned (.int .i64 (su t p)) ∧ Below w.heap.size w w' := by
  have HL0 := fun w1 => leftAt_any t p w1 hvt hvp
  unfold ag8 ag3 at HL0
  unfold ag8 ag3
  have HL := Lib.hid HL0
  clear HL0
  have HM := Lib.hid (lfL_max (p := p) hvt.2.1)
  have HZ : Hid (0 ≤ T (lfL t p) 0) := Lib.hid (by show 0 ≤ lf t p 0; rw [lf_zero hvt.2.1]; omega)
  clear hvt hvp
  go_enter Try.func78, Try.ntmps78
  go_wp2_with fail
  have hb1 : Below w.heap.size w ((w.alloc (.cells #[.int .i64 (T t 0), .int .i64 (T t 1), .int .i64 (T t 2), .int .i64 (T t 3), .int .i64 (T t 4), .int .i64 (T t 5), .int .i64 (T t 6), .int .i64 (T t 7)] 65)).alloc (.cells #[.int .i64 (T p 0), .int .i64 (T p 1), .int .i64 (T p 2)] 68)) := ((Below.refl _ w).alloc (Nat.le_refl _) _).alloc (by simp) _
  refine (HL.out _).mono ?_
  rintro e w2 ⟨rfl, hb2⟩
  have hB2 := below_then hb1 hb2
  obtain ⟨_, hB3, hA3⟩ := put_new hB2 (lf t p)
  have HX := Lib.hid (MaxFrom_any (some ⟨w2.heap.size, 0, none⟩) 8 8 (lfL t p) _ rfl (hA3.rd 8) (by omega) (by omega) HZ.out)
  rw [HM.out] at HX
  go_wp2_with fail
  refine HX.out.mono ?_
  rintro e w3 ⟨rfl, rfl⟩
  go_wp2
  go_ret
  exact ⟨rfl, hB3⟩

set_option maxRecDepth 100000 in
set_option maxHeartbeats 400000 in
theorem SurplusAt_any (A B : Option Addr) (c d : Nat) (t p : List Int) (w : World) (h : Rd w A c t) (g : Rd w B d p) (hl : t.length ≤ 1099511627776) :
    Calls Try.prog 21 #[.slice A t.length c, .slice B p.length d] w fun e w' => e = .returned (.int .i64 (suB t p)) ∧ Below w.heap.size w w' := by
  have HI := Lib.hid (isPriced_any A B c d t p w h g hl)
  rcases hv : vt t && vp p with _ | _
  · have HE : Hid (suB t p = -1) := Lib.hid (by unfold suB; rw [hv]; rfl)
    rw [hv] at HI
    clear hv
    go_enter Try.func21, Try.ntmps21
    go_wp2_with (go_at_call 77; refine HI.out.mono ?_; rintro e w1 ⟨rfl, hb⟩)
    go_ret
    exact ⟨by rw [HE.out]; rfl, hb⟩
  · rw [hv] at HI
    have HE : Hid (suB t p = su t p) := Lib.hid (by unfold suB; rw [hv]; rfl)
    obtain ⟨h1, h2⟩ := Bool.and_eq_true_iff.1 hv
    have hvt := vt_iff.1 h1
    have hvp := vp_iff.1 h2
    have h8 := hvt.1
    have h3 := hvp.1
    have HS0 := fun w1 => surplusOf_any t p w1 hvt hvp
    unfold ag8 ag3 at HS0
    have HS := Lib.hid HS0
    clear HS0
    obtain ⟨b, off, rfl⟩ := h.some_ h8
    obtain ⟨b2, off2, rfl⟩ := g.some3 h3
    have hap := arr_ptr b off c
    have hap3 := arr3_ptr b2 off2 d
    rw [HE.out]
    rw [h8, h3] at HI ⊢
    clear hv h1 h2 hvt hvp HE
    go_enter Try.func21, Try.ntmps21
    go_wp2_with fail
    refine HI.out.mono ?_
    rintro e w1 ⟨rfl, hb⟩
    obtain ⟨c0, c1, c2, c3, c4, c5, c6, c7⟩ := (h.below hb).eight h8
    obtain ⟨g0, g1, g2⟩ := (g.below hb).three h3
    go_wp2_with fail
    go_region_law (first
      | (go_simp; go_at_call 78; (with_reducible refine (HS.out w1.drew).mono ?_); rintro e w2 ⟨rfl, hb2⟩)
      | fail)
    all_goals go_wp2
    all_goals go_ret
    all_goals exact ⟨rfl, below_then hb (below_then (Below.refl _ w1).drew hb2)⟩

theorem SurplusAt_both (t p : List Int) (hl : t.length ≤ 1048576) (gl : p.length ≤ 1048576) : ∃ v,
    (∀ A c B d w, Rd w A c t → Rd w B d p → Calls Try.prog 22 #[.slice A t.length c, .slice B p.length d] w fun e w' => e = .returned (.int .i64 v) ∧ Below w.heap.size w w') ∧
    (∀ A c B d w, Rd w A c t → Rd w B d p → Calls Try.prog 21 #[.slice A t.length c, .slice B p.length d] w fun e w' => e = .returned (.int .i64 v) ∧ Below w.heap.size w w') :=
  ⟨suB t p, fun A c B d w h g => (SSurplusAt_any A B c d t p w h g (by omega) (by omega)).mono fun e w' ⟨he, n, hn⟩ => ⟨he, by rw [hn]; exact below_drewN' (Below.refl _ _) n⟩,
    fun A c B d w h g => SurplusAt_any A B c d t p w h g (by omega)⟩

end Go.Proofs.Ytfjncipekjnbjaa
