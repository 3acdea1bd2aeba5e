/-
  The walk of the law of VirtualOf.
-/
import Derived.Test.YtoipjhdnmiomeaaFnPrice
import Derived.Test.YtoipjhdnmiomeaaGF
import Derived.Deep.RegionHeld3
namespace Go.Proofs.Ytoipjhdnmiomeaa
open Go.RowKit

theorem below_dN {a w : World} {B n : Nat} (h : Below B a w) : Below B a (w.drewN n) := ⟨h.os, h.tape, h.output, h.size, h.block⟩

set_option maxHeartbeats 1000000 in
theorem equalFracs_same (A B : Option Addr) (c d : Nat) (ps : List (Int × Int)) (w : World) (h1 : RdF w A c ps) (h2 : RdF w B d ps) (hl : ps.length ≤ 1099511627776) :
    Calls Try.prog 24 #[.slice A ps.length c, .slice B ps.length d] w fun e w' => e = .returned (.bool true) ∧ Below w.heap.size w w' := by
  have hne : ((ps.length : Int) != (ps.length : Int)) = false := by simp
  go_enter Try.func24, Try.ntmps24
  go_wp2
  go_loopw [5] (fun i wr => ∃ k : Nat, k ≤ ps.length ∧ i = .int .i64 k ∧ Below w.heap.size w wr) (fun i _ => ps.length - (intOf i).toNat)
  case atStart => exact ⟨0, Nat.zero_le _, rfl, Below.refl _ _⟩
  case round =>
    obtain ⟨k, hk, rfl, hb⟩ := hrel
    by_cases hlt : k < ps.length
    · obtain ⟨b1, x, y, rfl, hb1, hx, hc1, hc2⟩ := (h1.below hb).at_ hlt
      obtain ⟨b2, x', y', rfl, hb2, hx', hc3, hc4⟩ := (h2.below hb).at_ hlt
      obtain ⟨rfl, rfl⟩ : x' = x ∧ y' = y := by have := hx.out.symm.trans hx'.out; simp at this; exact ⟨this.1.symm, this.2.symm⟩
      clear hx hx'
      go_wp2
      go_quiet (fail)
      go_wp2
      go_roundw
      case rel => exact ⟨k + 1, by omega, by go_num, below_dN hb⟩
      case measure => simp [intOf] <;> omega
    · obtain rfl : k = ps.length := by omega
      go_wp2
      go_ret
      exact ⟨rfl, hb⟩

/-- The virtual value is no more than the value, for the greatest one the value itself. -/
theorem virt_le {xs : List Int} (hv : vW xs = true) {v : Nat} (hlt : v < xs.length) : virtQ xs v ≤ ((v : Int) : Rat) := by
  have hw := vW_valid hv
  have h1 := virtQ_mul hw hlt
  have h2 : (0 : Rat) < (wt xs v : Rat) := Rat.intCast_pos.2 (by have := validW_lo hw hlt; omega)
  refine Rat.le_of_mul_le_mul_left ?_ h2
  rw [h1, ← Rat.intCast_mul, Rat.intCast_le_intCast, revW_step, Int.mul_comm]
  have := tailW_nn hw (v + 1)
  omega
theorem virt_top {xs : List Int} (hv : vW xs = true) : virtQ xs (xs.length - 1) = ((((xs.length : Int) - 1) : Int) : Rat) := by
  have hw := vW_valid hv
  obtain ⟨l1, l2⟩ := vW_le hv
  have hlt : xs.length - 1 < xs.length := by omega
  have h1 := virtQ_mul hw hlt
  have h2 : (wt xs (xs.length - 1) : Rat) ≠ 0 := by
    have : (0 : Rat) < (wt xs (xs.length - 1) : Rat) := Rat.intCast_pos.2 (by have := validW_lo hw hlt; omega)
    grind
  rw [revW_step, tailW_end xs (xs.length - 1 + 1) (by omega), show ((xs.length - 1 : Nat) : Int) = (xs.length : Int) - 1 by omega, Int.sub_zero, Rat.intCast_mul, Rat.mul_comm] at h1
  have h3 := congrArg (· / (wt xs (xs.length - 1) : Rat)) h1
  simp only [Rat.mul_div_cancel h2] at h3
  exact h3

theorem VirtualOf_p (A : Option Addr) (c : Nat) (xs : List Int) (w : World) (h : Rd w A c xs) (hcc : xs.length ≤ c) (hl : xs.length ≤ 1048576) :
    Calls Try.prog 18 #[.slice A xs.length c] w (OutP w (psOf (virtO xs))) := (VirtualOf_any A c xs w h hcc hl).mono fun _ _ h => h.own
theorem SVirtualOf_p (A : Option Addr) (c : Nat) (xs : List Int) (w : World) (h : Rd w A c xs) (hl : xs.length ≤ 1048576) :
    Calls Try.prog 25 #[.slice A xs.length c] w (OutP w (psOf (virtO xs))) := (SVirtualOf_any A c xs w h hl).mono fun _ _ h => h.own
theorem psOf_no : (psOf none).length = 0 := rfl

set_option maxRecDepth 100000 in
set_option maxHeartbeats 4000000 in
theorem fnVirtualOf_walk {A : Option Addr} {c : Nat} {xs : List Int} {w : World} (h : Came .u8 w A c xs) :
    Calls Try.prog 5 #[.slice A xs.length c] w fun e w' => e = .returned (.bool true) ∧ Below w.heap.size w w' := by
  by_cases hlen : 1048576 < xs.length
  · go_enter Try.func5, Try.ntmps5
    go_wp2
    go_ret
    exact ⟨rfl, Below.refl _ _⟩
  have hl0 : xs.length ≤ 1048576 := by omega
  clear hlen
  go_enter Try.func5, Try.ntmps5
  go_wp2_with fail
  refine (DrawVirtualOf_any A c xs w h).mono ?_
  rintro e w1 ⟨A1, c1, ys, rfl, hrd, hcc, hy, B1⟩
  have hy1 : ys.length ≤ 1048576 := by omega
  clear h hl0
  have HI := Lib.hid (fun w h => VirtualOf_p A1 c1 ys w h hcc hy1)
  have HS := Lib.hid (fun w h => SVirtualOf_p A1 c1 ys w h hy1)
  cases hv : vW ys with
  | false =>
    have e1 : virtO ys = none := by unfold virtO; rw [hv]; rfl
    rw [e1] at HI HS
    obtain ⟨ps, hps⟩ : ∃ ps, ps = psOf none := ⟨_, rfl⟩
    rw [← hps] at HI HS
    have hp0 : ps.length = 0 := by rw [hps]; rfl
    have hpl : ps.length ≤ 1099511627776 := by omega
    have hpe : ((ps.length : Int) == 0) = true := by rw [hp0]; rfl
    clear hv e1 hps hp0
    go_wp2_with fail
    refine (HI.out _ hrd).mono ?_
    rintro e w2 ⟨A2, c2, rfl, o2, b2⟩
    go_wp2_with fail
    refine (HS.out _ (hrd.below b2)).mono ?_
    rintro e w3 ⟨A3, c3, rfl, o3, b3⟩
    have o23 := o2.below b3
    go_wp2_with fail
    refine (equalFracs_same _ _ _ _ ps _ o23.rd o3.rd hpl).mono ?_
    rintro e w4 ⟨rfl, b4⟩
    go_wp2_with fail
    refine (HS.out _ (((hrd.below b2).below b3).below b4)).mono ?_
    rintro e w5 ⟨A5, c5, rfl, o5, b5⟩
    go_wp2_with fail
    refine (equalFracs_same _ _ _ _ ps _ ((o23.below b4).below b5).rd o5.rd hpl).mono ?_
    rintro e w6 ⟨rfl, b6⟩
    go_wp2
    go_ret
    exact ⟨rfl, B1.trans ((below_up (below_up (below_up (below_up b2 b3) b4) b5) b6).mono B1.size)⟩
  | true =>
    have HV := Lib.hid hv
    obtain ⟨l1, l2⟩ := vW_le hv
    have e1 : psOf (virtO ys) = frL (virtL ys) := virtO_yes hv
    rw [e1] at HI HS
    have hlp : (frL (virtL ys)).length = ys.length := virtO_len
    obtain ⟨ps, hps⟩ : ∃ ps, ps = frL (virtL ys) := ⟨_, rfl⟩
    rw [← hps] at HI HS hlp
    have hpl : ps.length ≤ 1099511627776 := by omega
    have hpe : ((ps.length : Int) == 0) = false := beq_eq_false_iff_ne.2 (by omega)
    have hpp : 0 < ps.length := by omega
    have HP := Lib.hid hps
    have HLP := Lib.hid hlp
    clear hv e1 hps hlp
    go_wp2_with fail
    refine (HI.out _ hrd).mono ?_
    rintro e w2 ⟨A2, c2, rfl, o2, b2⟩
    go_wp2_with fail
    refine (HS.out _ (hrd.below b2)).mono ?_
    rintro e w3 ⟨A3, c3, rfl, o3, b3⟩
    have o23 := o2.below b3
    go_wp2_with fail
    refine (equalFracs_same _ _ _ _ ps _ o23.rd o3.rd hpl).mono ?_
    rintro e w4 ⟨rfl, b4⟩
    have o4 := o23.below b4
    have B4 := B1.trans ((below_up (below_up b2 b3) b4).mono B1.size)
    obtain ⟨g, rfl⟩ := ownF_addr o4 hpp
    clear HI HS o2 o3 o23 b2 b3 b4 B1 hrd
    go_wp2
    go_loopw [5] (fun i wr => ∃ k : Nat, k ≤ ps.length ∧ i = .int .i64 k ∧ Below w4.heap.size w4 wr) (fun i _ => ps.length - (intOf i).toNat)
    case atStart => exact ⟨0, Nat.zero_le _, rfl, Below.refl _ _⟩
    case round =>
      obtain ⟨k, hk, rfl, hb⟩ := hrel
      have ok := o4.below hb
      by_cases hlt : k < ps.length
      · have hky : k < ys.length := by have := HLP.out; omega
        obtain ⟨n, hn⟩ : ∃ n, n = (virtQ ys k).num := ⟨_, rfl⟩
        obtain ⟨d, hd⟩ : ∃ d, d = ((virtQ ys k).den : Int) := ⟨_, rfl⟩
        have hq : FrIs (virtQ ys k) n d := ⟨hn, hd⟩
        obtain ⟨v1, v2, v3, v4⟩ := virt_bd HV.out hky hq
        have HK1 := Lib.hid (show FrIs (fq (k : Int) 1) (k : Int) 1 by rw [fq_one]; exact FrIs.int _)
        have HLL := Lib.hid (show lessF (k : Int) 1 n d = false by rw [lessF_is (FrIs.int _) hq]; exact decide_eq_false (Rat.not_lt.2 (virt_le HV.out hky)))
        have HG := Lib.hid (show ((Nat.gcd n.natAbs d.natAbs : Nat) : Int) = 1 by
          have := (virtQ ys k).reduced
          rw [hn, hd, Int.natAbs_natCast]
          exact congrArg Int.ofNat this)
        obtain ⟨u1, u2⟩ := mul_bd (a := (k : Int)) (A := 6) (by omega) (by omega) v3 v4 (by omega)
        have hg := frL_get (virtL_at hky) hq
        rw [← HP.out] at hg
        have HGG := Lib.hid hg
        obtain ⟨hc1, hc2⟩ := ok.cell hg
        have hgl : g < wr.heap.size := World.block_lt_of_cell? wr _ hc1
        have hd1 : decide (d < 1) = false := by simp; omega
        clear hn hd hq hg
        go_wp2_with fail
        go_region_held3 (fun w' => w'.cell? ⟨g, k * 2, none⟩ = some (.int .i64 n) ∧ w'.cell? ⟨g, k * 2 + 1, none⟩ = some (.int .i64 d) ∧ Below w4.heap.size w4 w')
          (first | exact ⟨hc1, hc2, hb.drew⟩ | exact ⟨hc3, hc4, B5⟩ | exact ⟨hc5, hc6, B6⟩ | exact ⟨hc7, hc8, B7⟩)
          (first
          | (go_at_call 27; refine (LfracOf_any (k : Int) 1 (k : Int) 1 _ HK1.out (by decide) (by omega) (by omega) (by decide)).mono ?_; rintro e w5 ⟨rfl, b5⟩; have B5 := hb.drew.trans (b5.mono hb.size); obtain ⟨hc3, hc4⟩ := (o4.below B5).cell HGG.out)
          | (go_at_call 26; refine (lessOf_any (k : Int) 1 n d false _ HLL.out (by omega) (by omega) (by omega) (by omega)).mono ?_; rintro e w6 ⟨rfl, b6⟩; have B6 := B5.trans (b6.mono B5.size); obtain ⟨hc5, hc6⟩ := (o4.below B6).cell HGG.out)
          | (go_at_call 28; refine (divisor_any n d _ (by omega) (by omega) (by omega) (by omega)).mono ?_; rw [HG.out]; rintro e w7 ⟨rfl, b7⟩; have B7 := B6.trans (b7.mono B6.size); obtain ⟨hc7, hc8⟩ := (o4.below B7).cell HGG.out))
        all_goals
          go_wp2
          go_roundw
          case rel => exact ⟨k + 1, by omega, by go_num, B7⟩
          case measure => simp [intOf] <;> omega
      · obtain rfl : k = ps.length := by omega
        have hlp := HLP.out
        have ht := virt_top HV.out
        have hg := frL_get (virtL_at (show ys.length - 1 < ys.length by omega)) (show FrIs (virtQ ys (ys.length - 1)) ((ys.length : Int) - 1) 1 by rw [ht]; exact FrIs.int _)
        rw [← HP.out] at hg
        obtain ⟨m, hm⟩ : ∃ m : Nat, ys.length = m + 1 := ⟨ys.length - 1, by omega⟩
        have hm2 : (ys.length : Int) - 1 = (m : Int) := by omega
        rw [hm2, show ys.length - 1 = m by omega] at hg
        have HGG := Lib.hid hg
        obtain ⟨hc1, hc2⟩ := ok.cell hg
        have hgl : g < wr.heap.size := World.block_lt_of_cell? wr _ hc1
        have hml : (m : Int) < (ps.length : Int) := by omega
        have HK1 := Lib.hid (show FrIs (fq (m : Int) 1) (m : Int) 1 by rw [fq_one]; exact FrIs.int _)
        clear ht hg hlp
        have hk1 : IntKind.i64.wrap ((ys.length : Int) - 1) = (m : Int) := by rw [hm2]; exact IntWalk.i64_in _ (by omega)
        have hm0 : (0 : Int) ≤ (m : Int) := by omega
        have hme : ((1 : Int) == 1) = true := rfl
        have hm9 : ((ys.length : Nat) : Int) = (m : Int) + 1 := by omega
        have hm8 : IntKind.i64.wrap ((m : Int) + 1 - 1) = (m : Int) := by rw [Int.add_sub_cancel]; exact IntWalk.i64_in _ (by omega)
        have hm7 : IntKind.i64.wrap (((m + 1 : Nat) : Int) - 1) = (m : Int) := by rw [Int.natCast_add, Int.natCast_one]; exact hm8
        have hm6 : (m : Int) + 1 - 1 = (m : Int) := by omega
        have hm5 : IntKind.i64.wrap (m : Int) = (m : Int) := IntWalk.i64_in _ (by omega)
        rw [hm]
        clear hm2 hk1 hm9 hm
        go_wp2_with fail
        go_region_held3 (fun w' => w'.cell? ⟨g, m * 2, none⟩ = some (.int .i64 (m : Int)) ∧ w'.cell? ⟨g, m * 2 + 1, none⟩ = some (.int .i64 1) ∧ Below w4.heap.size w4 w')
          (first | exact ⟨hc1, hc2, hb.drew⟩ | exact ⟨hc3, hc4, B5⟩)
          (first
          | (go_at_call 27; refine (LfracOf_any (m : Int) 1 (m : Int) 1 _ HK1.out (by decide) (by omega) (by omega) (by decide)).mono ?_; rintro e w5 ⟨rfl, b5⟩; have B5 := hb.drew.trans (b5.mono hb.size); obtain ⟨hc3, hc4⟩ := (o4.below B5).cell HGG.out; unfold frV))
        all_goals
          go_wp2
          go_ret
          exact ⟨rfl, B4.trans (B5.mono B4.size)⟩

end Go.Proofs.Ytoipjhdnmiomeaa
