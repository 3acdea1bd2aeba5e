/-
  The laws of chapter 6: lists in which a number is, lists that rise, and the walk of FnDemandAt.
-/
import Derived.Test.YtfjncipekjnbjaaGK
import Derived.Test.YtfjncipekjnbjaaJm
namespace Go.Proofs.Ytfjncipekjnbjaa
open Go.RowKit Go.Lib

/-- Whether a number is in a list. -/
def inB (xs : List Int) (x : Int) : Bool := decide (x ∈ xs)
theorem inB_true {xs : List Int} {k : Nat} {x : Int} (h : xs[k]? = some x) : inB xs x = true := by unfold inB; simpa using List.mem_of_getElem? h
def NotTo (xs : List Int) (x : Int) (k : Nat) : Prop := ∀ j, j < k → xs[j]? ≠ some x
theorem NotTo.step {xs : List Int} {x y : Int} {k : Nat} (h : NotTo xs x k) (hy : xs[k]? = some y) (hne : ¬ y = x) : NotTo xs x (k + 1) := fun j hj => by
  rcases Nat.lt_or_ge j k with h1 | h1
  · exact h j h1
  · obtain rfl : j = k := by omega
    rw [hy]
    intro e
    injection e with e
    exact hne e
theorem NotTo.all {xs : List Int} {x : Int} (h : NotTo xs x xs.length) : inB xs x = false := by
  unfold inB
  simp only [decide_eq_false_iff_not]
  intro hm
  obtain ⟨k, hk, he⟩ := List.mem_iff_getElem.1 hm
  exact h k hk (by rw [List.getElem?_eq_getElem hk, he])

set_option maxHeartbeats 400000 in
theorem isIn_any (A : Option Addr) (c : Nat) (xs : List Int) (x : Int) (w : World) (h1 : Rd w A c xs) (hl : xs.length ≤ 1099511627776) :
    Calls Try.prog 28 #[.slice A xs.length c, .int .i64 x] w fun e w' => e = .returned (.bool (inB xs x)) ∧ w = w' := by
  go_enter Try.func28, Try.ntmps28
  go_wp2
  go_loop [5] (fun i => ∃ k : Nat, k ≤ xs.length ∧ i = .int .i64 k ∧ Hid (NotTo xs x k)) (fun i => xs.length - (intOf i).toNat)
  case atStart => exact ⟨0, Nat.zero_le _, rfl, Lib.hid (fun j hj => absurd hj (by omega))⟩
  case round =>
    obtain ⟨k, hk, rfl, HT⟩ := hrel
    by_cases hlt : k < xs.length
    · obtain ⟨b1, o1, y, rfl, _, hy, hc1⟩ := h1.at_ hlt
      by_cases hxy : y = x
      · have hne : (y == x) = true := by simpa using hxy
        have HE : Hid (inB xs x = true) := Lib.hid (by rw [← hxy]; exact inB_true hy.out)
        clear hxy hy
        go_wp2
        go_ret
        exact ⟨by rw [HE.out]; rfl, rfl⟩
      · have hne : (y == x) = false := by simpa using hxy
        have HT' := Lib.hid (HT.out.step hy.out hxy)
        clear hxy hy
        go_wp2
        go_round
        case rel => exact ⟨k + 1, by omega, by go_num, HT'⟩
        case measure => simp [intOf]; omega
    · obtain rfl : k = xs.length := by omega
      have HE := Lib.hid HT.out.all
      go_wp2
      go_ret
      exact ⟨by rw [HE.out]; rfl, rfl⟩

/-- Each number is more than the one ahead. -/
def Rise (xs : List Int) : Prop := ∀ k, k + 1 < xs.length → T xs k < T xs (k + 1)
set_option maxHeartbeats 400000 in
theorem ascends_any (A : Option Addr) (c n : Nat) (xs : List Int) (w : World) (hn : xs.length = n) (h1 : Rd w A c xs) (hl : n ≤ 1099511627776) (ha : Rise xs) :
    Calls Try.prog 29 #[.slice A n c] w fun e w' => e = .returned (.bool true) ∧ ∃ n, w' = w.drewN n := by
  subst hn
  have HA := Lib.hid ha
  clear ha
  go_enter Try.func29, Try.ntmps29
  go_wp2
  go_loopw [3] (fun i wr => ∃ k n : Nat, 1 ≤ k ∧ i = .int .i64 k ∧ wr = w.drewN n) (fun i _ => xs.length - (intOf i).toNat)
  case atStart => exact ⟨1, 0, by omega, rfl, rfl⟩
  case round =>
    obtain ⟨k, n, hk, rfl, rfl⟩ := hrel
    by_cases hlt : k < xs.length
    · obtain ⟨b1, o1, y, rfl, _, hy, hc1⟩ := h1.at_ hlt
      obtain ⟨b2, o2, x, hA2, _, hx, hc2⟩ := h1.at_ (k := k - 1) (by omega)
      injection hA2 with hA2
      injection hA2 with hg2 ho2
      subst hg2 ho2
      have h3 := HA.out (k - 1) (by omega)
      rw [show k - 1 + 1 = k by omega, T_of hx.out, T_of hy.out] at h3
      have hne : decide (y ≤ x) = false := by simp; omega
      have e1 : IntKind.i64.wrap ((k : Int) - 1) = ((k - 1 : Nat) : Int) := by rw [IntWalk.i64_in _ (by omega)]; omega
      have hk0 : (0 : Int) ≤ ((k - 1 : Nat) : Int) := by omega
      have hk1 : ((k - 1 : Nat) : Int) < (xs.length : Int) := by omega
      obtain ⟨k1, hk1'⟩ : ∃ k1, k1 = k - 1 := ⟨_, rfl⟩
      rw [← hk1'] at hc2 e1 hk0 hk1
      clear hx hy h3 hk1'
      go_wp2
      go_quiet (fail)
      go_wp2
      go_roundw
      case rel => exact ⟨k + 1, _, by omega, by go_num, rfl⟩
      case measure => simp [intOf]; omega
    · go_wp2
      go_ret
      exact ⟨rfl, _, rfl⟩

/-- What is in demand rises. -/
theorem dmTo_asc (t p : List Int) : ∀ k, Rise (dmTo t p k)
  | 0 => fun j hj => by simp [dmTo] at hj
  | k + 1 => by
    have ih := dmTo_asc t p k
    simp only [dmTo]
    split
    · intro j hj
      simp only [List.length_append, List.length_singleton] at hj
      rcases Nat.lt_or_ge (j + 1) (dmTo t p k).length with h1 | h1
      · have := ih j h1
        unfold T at this ⊢
        rw [List.getD_eq_getElem?_getD, List.getD_eq_getElem?_getD, List.getElem?_append_left (by omega), List.getElem?_append_left h1, ← List.getD_eq_getElem?_getD, ← List.getD_eq_getElem?_getD]
        exact this
      · have hj1 : j + 1 = (dmTo t p k).length := by omega
        have hm : T (dmTo t p k) j ∈ dmTo t p k := List.mem_of_getElem? (T_at (show j < (dmTo t p k).length by omega))
        obtain ⟨s, hs, hlt, _⟩ := dmTo_mem.1 hm
        have e1 : T (dmTo t p k ++ [(k : Int)]) (j + 1) = (k : Int) := T_of (by rw [hj1]; simp)
        have e2 : T (dmTo t p k ++ [(k : Int)]) j = T (dmTo t p k) j := by unfold T; rw [List.getD_eq_getElem?_getD, List.getD_eq_getElem?_getD, List.getElem?_append_left (by omega)]
        rw [e1, e2, hs]
        omega
    · exact ih
theorem dmB_yes {t p : List Int} (h : (dmB t p).length ≠ 0) : VT t ∧ VP p ∧ dmB t p = dm t p := by
  unfold dmB at h ⊢
  rcases hv : vt t && vp p with _ | _
  · rw [hv] at h; simp at h
  · obtain ⟨h1, h2⟩ := Bool.and_eq_true_iff.1 hv
    exact ⟨vt_iff.1 h1, vp_iff.1 h2, rfl⟩
/-- What the law says of what is in demand. -/
theorem dm_says {t p : List Int} (h : (dmB t p).length ≠ 0) : VT t ∧ VP p ∧ suB t p = su t p ∧ Rise (dmB t p) ∧ ∀ s : Nat, s < 8 → lf t p s ≤ su t p ∧ inB (dmB t p) (s : Int) = (lf t p s == su t p) := by
  obtain ⟨hv, hp, e⟩ := dmB_yes h
  refine ⟨hv, hp, ?_, by rw [e]; exact dmTo_asc t p 8, fun s hs => ⟨su_le hs, ?_⟩⟩
  · unfold suB; rw [vt_true hv, vp_true hp]; rfl
  · rw [e]
    unfold inB
    by_cases hx : lf t p s = su t p
    · rw [decide_eq_true (dm_mem.2 ⟨s, rfl, hs, hx⟩)]; simp [hx]
    · rw [decide_eq_false (fun hm => by
        obtain ⟨r, hr, _, h2⟩ := dm_mem.1 hm
        have : r = s := by omega
        subst this
        exact hx h2)]
      simp [hx]

set_option maxHeartbeats 4000000 in
set_option maxRecDepth 100000 in
theorem fnDemandAt_walk {A : Option Addr} {c : Nat} {xs : List Int} {w : World} (h : Came .u8 w A c xs) :
    Calls Try.prog 5 #[.slice A xs.length c] w fun e w' => e = .returned (.bool true) ∧ Below w.heap.size w w' := by
  by_cases hlen : 1048576 < xs.length
  · go_enter Try.func5, Try.ntmps5
    go_wp2
    go_ret
    exact ⟨rfl, Below.refl _ _⟩
  have hl1 : xs.length ≤ 1048576 := by omega
  have HD := Lib.hid (DrawDemandAt_any A c xs w h)
  clear hlen h
  go_enter Try.func5, Try.ntmps5
  go_wp2_with fail
  refine HD.out.mono ?_
  rintro e w1 ⟨g, c1, t, g2, off, c2, p, rfl, hA, hB, ht8, htc, hp3, hpb, hpc, b1⟩
  have hpl : p.length ≤ 1099511627776 := by omega
  have hI := fun w' (h : Rd w' (some ⟨g, 0, none⟩) c1 t) (h2 : Rd w' (some ⟨g2, off, none⟩) c2 p) => DemandAt_any (some ⟨g, 0, none⟩) (some ⟨g2, off, none⟩) c1 c2 t p w' h h2 (by omega)
  have hS := fun w' (h : Rd w' (some ⟨g, 0, none⟩) c1 t) (h2 : Rd w' (some ⟨g2, off, none⟩) c2 p) => SDemandAt_any (some ⟨g, 0, none⟩) (some ⟨g2, off, none⟩) c1 c2 t p w' h h2 (by omega) hpl
  have HM := Lib.hid (fun w' (h : Rd w' (some ⟨g, 0, none⟩) c1 t) (h2 : Rd w' (some ⟨g2, off, none⟩) c2 p) => SurplusAt_any (some ⟨g, 0, none⟩) (some ⟨g2, off, none⟩) c1 c2 t p w' h h2 (by omega))
  have hsay := dm_says (t := t) (p := p)
  have hzl := dmB_len t p
  obtain ⟨zs, hzs⟩ : ∃ zs, zs = dmB t p := ⟨_, rfl⟩
  rw [← hzs] at hI hS hsay hzl
  have HI := Lib.hid hI
  have HS := Lib.hid hS
  have HSAY := Lib.hid hsay
  have hzl2 : zs.length ≤ 1099511627776 := by omega
  clear hI hS hsay hzs hpb HD hl1
  go_wp2_with fail
  refine (HI.out w1 hA hB).mono ?_
  rintro e w2 ⟨A2, c3, rfl, o2, b2⟩
  have B2 := below_then b1 b2
  have hA2 := hA.below b2
  have hB2 := hB.below b2
  go_wp2_with fail
  refine (HS.out w2 hA2 hB2).mono ?_
  rintro e w3 ⟨A3, c4, rfl, o3, b3⟩
  have B3 := below_then B2 b3
  have hA3 := hA2.below b3
  have hB3 := hB2.below b3
  have r23 := (o2.below b3).rd
  clear o2 hA hB hA2 hB2 b1 b2 b3
  go_wp2_with fail
  refine (equalU_any A2 A3 c3 c4 zs zs w3 r23 o3.rd hzl2).mono ?_
  rw [eqB_self]
  rintro e w4 ⟨rfl, n4, rfl⟩
  by_cases hz : zs.length = 0
  · have hz0 : ((zs.length : Int) == 0) = true := by simp [hz]
    clear hz
    go_wp2_with fail
    refine (HS.out (w3.drewN n4) (hA3.drewN n4) (hB3.drewN n4)).mono ?_
    rintro e w5 ⟨A5, c5, rfl, o5, b5⟩
    have B5 := below_then (below_drewN' B3 n4) b5
    have r25 := (r23.drewN n4).below b5
    clear o3 r23
    go_wp2_with fail
    refine (equalU_any A2 A5 c3 c5 zs zs w5 r25 o5.rd hzl2).mono ?_
    rw [eqB_self]
    rintro e w6 ⟨rfl, n6, rfl⟩
    go_wp2
    go_ret
    exact ⟨rfl, below_drewN' B5 n6⟩
  · have hz0 : ((zs.length : Int) == 0) = false := beq_eq_false_iff_ne.2 (by omega)
    obtain ⟨hv, hp, hsu, hasc, hin⟩ := HSAY.out hz
    rw [hsu] at HM
    have h8 := hv.1
    have h3 := hp.1
    have HIN := Lib.hid (fun w' (x : Int) (h : Rd w' A2 c3 zs) => isIn_any A2 c3 zs x w' h hzl2)
    have HAS := Lib.hid (fun w' (h : Rd w' A2 c3 zs) => ascends_any A2 c3 zs.length zs w' rfl h hzl2 hasc)
    have HSB := Lib.hid hin
    have HTB := Lib.hid (fun s (hs : s < 8) => hv.bd hs)
    have HPB := Lib.hid (fun s (hs : s < 8) => hp.bd hs)
    have HPT := Lib.hid (fun s j (hj : j ≤ 3) => prTo_bd hp (s := s) j hj)
    have HV3 := Lib.hid hp.2
    have H8 := Lib.hid h8
    have H3 := Lib.hid h3
    have HSU := Lib.hid (suTo_bd hv hp (k := 8) (Nat.le_refl _))
    have hsu8 : suTo t p 8 = su t p := rfl
    rw [hsu8] at HSU
    obtain ⟨M, hM⟩ : ∃ M, M = su t p := ⟨_, rfl⟩
    rw [← hM] at HM HSB HSU
    rw [h8, h3] at HM ⊢
    have B4 := below_drewN' B3 n4
    have r24 := r23.drewN n4
    have hA4 := hA3.drewN n4
    have hB4 := hB3.drewN n4
    clear hz hsu hasc hin hsu8 hM HI HS HSAY o3 r23 hA3 hB3 hv hp h8 h3
    go_wp2_with fail
    refine (HM.out _ hA4 hB4).mono ?_
    rintro e w5 ⟨rfl, b5⟩
    have B5 := below_then B4 b5
    have r25 := r24.below b5
    have hA5 := hA4.below b5
    have hB5 := hB4.below b5
    clear b5 r24 hA4 hB4 B4
    go_wp2_with fail
    go_loopw [7] (fun sv wr => ∃ s n, sv = .int .i64 (s : Nat) ∧ s ≤ 8 ∧ wr = w5.drewN n) (fun i _ => 8 - (intOf i).toNat)
    case atStart => exact ⟨0, 0, rfl, by omega, rfl⟩
    case round =>
      obtain ⟨s, n, rfl, hs, rfl⟩ := hrel
      by_cases hlt : s < 8
      · have hs8 : (s : Int) < 8 := by omega
        have hs0 : (0 : Int) ≤ (s : Int) := by omega
        have hss : s < 8 := hlt
        clear hlt
        go_wp2_with fail
        go_loopw [8, 9] (fun mv jv wr => ∃ j n, mv = .int .i64 (prTo p s j) ∧ jv = .int .i64 (j : Nat) ∧ j ≤ 3 ∧ wr = w5.drewN n) (fun _ i _ => 3 - (intOf i).toNat)
        case atStart => exact ⟨0, n, rfl, rfl, by omega, rfl⟩
        case round =>
          obtain ⟨j, n, rfl, rfl, hj, rfl⟩ := hrel
          by_cases hlt : j < 3
          · have HB := Lib.hid (fun (m : Nat) => calls_q (w := w5) (m := n) (Lbit_any s j hss hlt (w5.drewN (n + m))))
            obtain ⟨b, of2, y, hA6, _, hy, hcy⟩ := hB5.at_ (k := j) (by rw [H3.out]; exact hlt)
            injection hA6 with hA6
            injection hA6 with hg6 ho6
            subst hg6 ho6
            have hTy := T_of hy.out
            have HPS : Hid (prTo p s (j + 1) = prTo p s j + ((s / 2 ^ j % 2 : Nat) : Int) * y) := Lib.hid (by simp only [prTo]; rw [hTy])
            have hyb := HV3.out j hlt
            rw [hTy] at hyb
            have hpb := HPT.out s j (by omega)
            have hj3 : (j : Int) < 3 := by omega
            have hj0 : (0 : Int) ≤ (j : Int) := by omega
            obtain ⟨u, hu⟩ : ∃ u, u = s / 2 ^ j % 2 := ⟨_, rfl⟩
            obtain ⟨V, hV⟩ : ∃ V, V = prTo p s j := ⟨_, rfl⟩
            rw [← hu] at HB HPS
            rw [← hV] at hpb HPS ⊢
            have hu1 : u ≤ 1 := by omega
            have hmul : 0 ≤ (u : Int) * y ∧ (u : Int) * y ≤ 40 := by
              rcases (show u = 0 ∨ u = 1 by omega) with rfl | rfl <;> simp <;> omega
            have e1 : IntKind.i64.wrap ((u : Int) * y) = (u : Int) * y := IntWalk.i64_in _ (by omega)
            have e2 : IntKind.i64.wrap (V + (u : Int) * y) = V + (u : Int) * y := IntWalk.i64_in _ (by omega)
            have hj1 : j + 1 ≤ 3 := hlt
            clear hu hV hy hTy hyb hpb hmul hlt
            go_wp2_with fail
            go_quiet ((go_at_call 27; exact HB.out _))
            go_wp2
            go_roundw
            case rel => exact ⟨j + 1, _, by rw [HPS.out], by go_num, hj1, rfl⟩
            case measure => simp only [intOf]; omega
          · obtain rfl : j = 3 := by omega
            obtain ⟨b, of2, y, hA6, _, hy, hcy⟩ := hA5.at_ (k := s) (by rw [H8.out]; exact hss)
            injection hA6 with hA6
            injection hA6 with hg6 ho6
            subst hg6 ho6
            rw [Nat.zero_add] at hcy
            have hTy := T_of hy.out
            obtain ⟨q1, q2⟩ := HSB.out s hss
            have hlf : lf t p s = y - prTo p s 3 := by unfold lf pr; rw [hTy]
            rw [hlf] at q1 q2
            have tb := HTB.out s hss
            rw [hTy] at tb
            have pb := HPT.out s 3 (by omega)
            obtain ⟨V, hV⟩ : ∃ V, V = prTo p s 3 := ⟨_, rfl⟩
            rw [← hV] at q1 q2 pb ⊢
            have HI2 := Lib.hid (fun (m : Nat) => calls_q (w := w5) (m := n) (HIN.out (w5.drewN (n + m)) (s : Int) r25))
            rw [q2] at HI2
            have e1 : IntKind.i64.wrap (y - V) = y - V := IntWalk.i64_in _ (by omega)
            have hne : decide (M < y - V) = false := by simp; omega
            have hbb : ((y - V == M) != (y - V == M)) = false := by simp
            clear hy hTy hlf q1 q2 tb pb hV hlt
            go_wp2_with fail
            go_quiet ((go_at_call 28; exact HI2.out _))
            go_wp2
            go_roundw
            case rel => exact ⟨s + 1, _, by go_num, by omega, rfl⟩
            case measure => simp only [intOf]; omega
      · obtain rfl : s = 8 := by omega
        have HB5 := Lib.hid B5
        go_wp2_with fail
        refine (HAS.out _ ?_).mono ?_
        · exact r25
        rintro e w6 ⟨rfl, n6, rfl⟩
        go_wp2
        go_ret
        exact ⟨rfl, below_drewN' B5 (n + n6)⟩

end Go.Proofs.Ytfjncipekjnbjaa
