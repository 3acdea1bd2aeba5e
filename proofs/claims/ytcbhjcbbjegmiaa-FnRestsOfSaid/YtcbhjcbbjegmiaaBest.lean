/-
  Chapter 1: the contracts of BestBid, of the model and of the program.
-/
import Derived.Test.YtcbhjcbbjegmiaaGain
namespace Go.Proofs.Ytcbhjcbbjegmiaa
open Go.RowKit

/-- What the bidder i gains by the bid b. -/
def gB (kd : Nat) (xs : List Int) (i : Nat) (v r : Int) (b : Nat) : Int := gainF kd (xs.set i b) i v r

theorem best_up {g : Nat → Int} {k : Nat} {p : Nat} {q q' : Int} (h : bestF g k = (p, q)) (hq : q' = g (k + 1)) (hlt : q < q') : bestF g (k + 1) = (k + 1, q') := by
  rw [bestF, h, if_pos (by rw [← hq]; exact hlt), hq]
theorem best_keep {g : Nat → Int} {k : Nat} {p : Nat} {q q' : Int} (h : bestF g k = (p, q)) (hq : q' = g (k + 1)) (hlt : ¬ q < q') : bestF g (k + 1) = (p, q) := by
  rw [bestF, h, if_neg (by rw [← hq]; exact hlt)]

theorem Sgain_is {q : Int} (s : ByteArray) (kd : Nat) (A : Option Addr) (c : Nat) (xs : List Int) (i : Nat) (v r : Int) (w : World) (hq : q = gainF kd xs i v r) (hk : KindIs s kd) (h : Rd w A c xs) (h1 : 1 ≤ xs.length) (hl : xs.length ≤ 1048576) (hi : i < xs.length)
    (hsm : Small xs) (hv0 : -2147483648 ≤ v) (hv1 : v ≤ 2147483647) (hr0 : -2147483648 ≤ r) (hr1 : r ≤ 2147483647) :
    Calls Try.prog 60 #[.string s, .slice A xs.length c, .int .i64 i, .int .i64 v, .int .i64 r] w fun e w' => e = .returned (.int .i64 q) ∧ Below w.heap.size w w' := by
  rw [hq]; exact Sgain_any s kd A c xs i v r w hk h h1 hl hi hsm hv0 hv1 hr0 hr1

theorem gainBy_is {q : Int} {n : Nat} (f : Value) (kd : Nat) (A : Option Addr) (c : Nat) (xs : List Int) (i : Nat) (v r : Int) (w : World) (hn : xs.length = n) (hq : q = gainF kd xs i v r) (hk : FnIs w f kd) (h : Rd w A c xs) (h1 : 1 ≤ n) (hl : n ≤ 1048576) (hi : i < n)
    (hsm : Small xs) (hv0 : -2147483648 ≤ v) (hv1 : v ≤ 2147483647) (hr0 : -2147483648 ≤ r) (hr1 : r ≤ 2147483647) :
    Calls Try.prog 59 #[f, .slice A n c, .int .i64 i, .int .i64 v, .int .i64 r] w fun e w' => e = .returned (.int .i64 q) ∧ Below w.heap.size w w' := by
  subst hn hq; exact gainBy_any f kd A c xs i v r w hk h h1 hl hi hsm hv0 hv1 hr0 hr1

/-- Three results: two numbers and a bool. -/
def ThreeIs (w : World) (m n : Int) (b : Bool) (e : Ending) (w' : World) : Prop := e = .returned (.tuple #[.int .i64 m, .int .i64 n, .bool b]) ∧ Below w.heap.size w w'
/-- Two numbers. -/
def PairIs (w : World) (m n : Int) (e : Ending) (w' : World) : Prop := e = .returned (.tuple #[.int .i64 m, .int .i64 n]) ∧ Below w.heap.size w w'

set_option maxHeartbeats 1000000 in
theorem bestUpTo_any (top : Nat) (f : Value) (kd : Nat) (b off c : Nat) (xs : List Int) (i : Nat) (v r : Int) (w : World) (ht : top ≤ 1048576) (hf : FnIs w f kd) (h : Rd w (some ⟨b, off, none⟩) c xs) (h1 : 1 ≤ xs.length) (hl : xs.length ≤ 1048576) (hi : i < xs.length)
    (hsm : Small xs) (hv0 : -2147483648 ≤ v) (hv1 : v ≤ 2147483647) (hr0 : -2147483648 ≤ r) (hr1 : r ≤ 2147483647) :
    Calls Try.prog 61 #[.int .i64 top, f, .slice (some ⟨b, off, none⟩) xs.length c, .int .i64 i, .int .i64 v, .int .i64 r] w (PairIs w (bestF (gB kd xs i v r) top).1 (bestF (gB kd xs i v r) top).2) := by
  have hl2 : xs.length ≤ 1099511627776 := by omega
  have HSM := Lib.hid hsm
  clear hsm
  obtain ⟨q0, hq0⟩ : ∃ q0, q0 = gB kd xs i v r 0 := ⟨_, rfl⟩
  have HQ0 := Lib.hid hq0
  clear hq0
  go_enter Try.func61, Try.ntmps61
  go_wp2_with fail
  refine (Clone_any _ _ _ _ _ h hl2).mono ?_
  rintro e w1 ⟨g, c1, rfl, o1, b1⟩
  obtain ⟨x, hx⟩ := at_some hi
  have hc := o1.cell hx
  have hfz := o1.free i
  have HO1 := Lib.hid (o1.set_ i 0)
  have b2 := b1.setCell o1.ge (p := ⟨g, i, none⟩) (.int .i64 0)
  clear hx
  go_wp2_with fail
  refine (gainBy_is f kd _ _ (xs.set i 0) i v r _ List.length_set HQ0.out (hf.below b2) HO1.out.rd h1 hl hi (HSM.out.set_ (by decide) (by decide)) hv0 hv1 hr0 hr1).mono ?_
  rintro e w2 ⟨rfl, b3⟩
  have o2 := HO1.out.below b3
  have B2 := b2.trans (b3.mono b2.size)
  clear o1 hc hfz b1 b2 b3 HO1
  go_wp2_with fail
  go_loopw [15, 16, 17] (fun p q t wr => ∃ (k pn : Nat) (qn : Int) (ys : List Int), 1 ≤ k ∧ k ≤ top + 1 ∧ t = .int .i64 k ∧ p = .int .i64 pn ∧ q = .int .i64 qn ∧ Own wr w.heap.size (some ⟨g, 0, none⟩) c1 ys ∧ Below w.heap.size w wr ∧ Hid (ButAt xs ys i) ∧ Hid (bestF (gB kd xs i v r) (k - 1) = (pn, qn)))
    (fun _ _ t _ => top + 1 - (intOf t).toNat)
  case atStart => exact ⟨1, 0, q0, xs.set i 0, Nat.le_refl _, by omega, rfl, rfl, rfl, o2, B2, Lib.hid ((ButAt.refl xs i).set_ (v := 0) rfl).1, Lib.hid (by rw [HQ0.out]; rfl)⟩
  case round =>
    obtain ⟨k, pn, qn, ys, hk1, hk, rfl, rfl, rfl, ho, hb, HB, HE⟩ := hrel
    by_cases hlt : k ≤ top
    · obtain ⟨zs, hZ⟩ : ∃ zs, zs = xs.set i k := ⟨_, rfl⟩
      obtain ⟨q, hq⟩ : ∃ q, q = gainF kd zs i v r := ⟨_, rfl⟩
      have hqk : q = gB kd xs i v r (k - 1 + 1) := by rw [hq, hZ, Nat.sub_add_cancel hk1]; rfl
      obtain ⟨hB2, hset⟩ := HB.out.set_ hZ
      have hiy : i < ys.length := by rw [HB.out.1]; exact hi
      obtain ⟨x, hx⟩ := at_some hiy
      have hc := ho.cell hx
      have hfz := ho.free i
      have ho2 := ho.set_ i k
      rw [hset] at ho2
      have hzs : Small zs := by rw [hZ]; exact HSM.out.set_ (by omega) (by omega)
      have HO := Lib.hid ho2
      have HB2 := Lib.hid hB2
      have HQ := Lib.hid hq
      have HQK := Lib.hid hqk
      have HZS := Lib.hid hzs
      have b2 := hb.setCell ho.ge (p := ⟨g, i, none⟩) (.int .i64 (k : Int))
      clear ho2 hB2 hZ hx hset hiy ho hq hqk hzs
      have hki : (k : Int) ≤ (top : Int) := by omega
      go_wp2_with fail
      refine (gainBy_is f kd _ _ zs i v r _ HB2.out.1 HQ.out (hf.below b2) HO.out.rd h1 hl hi HZS.out hv0 hv1 hr0 hr1).mono ?_
      rintro e w2 ⟨rfl, b3⟩
      have o3 := HO.out.below b3
      have B3 := b2.trans (b3.mono b2.size)
      by_cases hqq : qn < q
      · have HF : Hid (bestF (gB kd xs i v r) (k + 1 - 1) = (k, q)) := Lib.hid (by
          have := best_up HE.out HQK.out hqq
          rw [Nat.sub_add_cancel hk1] at this
          exact this)
        go_wp2
        go_roundw
        case rel => exact ⟨k + 1, k, q, zs, by omega, by omega, by go_num, rfl, rfl, o3, B3, HB2, HF⟩
        case measure => simp [intOf]; omega
      · have HF : Hid (bestF (gB kd xs i v r) (k + 1 - 1) = (pn, qn)) := Lib.hid (by
          have := best_keep HE.out HQK.out hqq
          rw [Nat.sub_add_cancel hk1] at this
          exact this)
        go_wp2
        go_roundw
        case rel => exact ⟨k + 1, pn, qn, zs, by omega, by omega, by go_num, rfl, rfl, o3, B3, HB2, HF⟩
        case measure => simp [intOf]; omega
    · obtain rfl : k = top + 1 := by omega
      have HF : Hid (bestF (gB kd xs i v r) top = (pn, qn)) := HE
      go_wp2
      go_ret2
      exact ⟨by rw [HF.out]; rfl, hb⟩

set_option maxHeartbeats 1000000 in
theorem SBestBid_yes (s : ByteArray) (kd : Nat) (A : Option Addr) (c : Nat) (xs : List Int) (i : Nat) (v r : Int) (w : World) (hk : KindIs s kd) (h : Rd w A c xs) (hl : xs.length ≤ 1048576)
    (hw : wB xs i = true) (hv : inR v 0 30 = true) (hr : inR r 0 30 = true) :
    Calls Try.prog 27 #[.string s, .slice A xs.length c, .int .i64 i, .int .i64 v, .int .i64 r] w (ThreeIs w (bestF (gB kd xs i v r) 30).1 (bestF (gB kd xs i v r) 30).2 true) := by
  have hwb := wB_le hw
  have hvb := inR_le hv
  have hrb := inR_le hr
  have h1 : 1 ≤ xs.length := hwb.2.2.2.1
  have hi : i < xs.length := by omega
  have hl2 : xs.length ≤ 1099511627776 := by omega
  have HSM := Lib.hid (vB_small hwb.1)
  have hv0 : -2147483648 ≤ v := by omega
  have hv1 : v ≤ 2147483647 := by omega
  have hr0 : -2147483648 ≤ r := by omega
  have hr1 : r ≤ 2147483647 := by omega
  clear hwb hvb hrb
  obtain ⟨ys, hY⟩ : ∃ ys, ys = xs.set i 0 := ⟨_, rfl⟩
  obtain ⟨q0, hq0⟩ : ∃ q0, q0 = gainF kd ys i v r := ⟨_, rfl⟩
  have hq1 : q0 = gB kd xs i v r 0 := by rw [hq0, hY]; rfl
  have hyl : ys.length = xs.length := by rw [hY, List.length_set]
  have hy1 : 1 ≤ ys.length := by omega
  have hyl2 : ys.length ≤ 1048576 := by omega
  have hyi : i < ys.length := by omega
  have HYS : Hid (Small ys) := Lib.hid (by rw [hY]; exact HSM.out.set_ (by decide) (by decide))
  have HY := Lib.hid hY
  have HQ := Lib.hid hq0
  have HQ1 := Lib.hid hq1
  clear hY hq0 hq1 hyl
  go_enter Try.func27, Try.ntmps27
  go_wp2_with (first
    | (go_at_call 49; refine (validKind_yes s kd _ hk).mono ?_; rintro e w1 ⟨rfl, rfl⟩)
    | (go_at_call 57; refine (validWho_any _ _ _ _ _ h hl).mono ?_; rintro e w1 ⟨rfl, rfl⟩)
    | (go_at_call 51; refine (inRange_any _ _ _ _).mono ?_; rintro e w1 ⟨rfl, rfl⟩)
    | (go_at_call 58; refine (withBid_is _ _ _ _ _ _ HY.out h hi hl2).mono ?_; rintro e w1 ⟨g1, c1, rfl, o1, b1⟩)
    | (go_at_call 60; refine (Sgain_is s kd _ _ ys i v r _ HQ.out hk o1.rd hy1 hyl2 hyi HYS.out hv0 hv1 hr0 hr1).mono ?_; rintro e w2 ⟨rfl, b2⟩))
  have B2 := b1.trans (b2.mono b1.size)
  clear hw hv hr
  go_loopw [13, 14, 15] (fun p q t wr => ∃ (k pn : Nat) (qn : Int), 1 ≤ k ∧ k ≤ 31 ∧ t = .int .i64 k ∧ p = .int .i64 pn ∧ q = .int .i64 qn ∧ Below w.heap.size w wr ∧ Hid (bestF (gB kd xs i v r) (k - 1) = (pn, qn)))
    (fun _ _ t _ => 31 - (intOf t).toNat)
  case atStart => exact ⟨1, 0, q0, Nat.le_refl _, by omega, rfl, rfl, rfl, B2, Lib.hid (by rw [HQ1.out]; rfl)⟩
  case round =>
    obtain ⟨k, pn, qn, hk1, hk2, rfl, rfl, rfl, hb, HE⟩ := hrel
    by_cases hlt : k ≤ 30
    · obtain ⟨zs, hZ⟩ : ∃ zs, zs = xs.set i k := ⟨_, rfl⟩
      obtain ⟨q, hq⟩ : ∃ q, q = gainF kd zs i v r := ⟨_, rfl⟩
      have hqk : q = gB kd xs i v r (k - 1 + 1) := by rw [hq, hZ, Nat.sub_add_cancel hk1]; rfl
      have hzl : zs.length = xs.length := by rw [hZ, List.length_set]
      have hz1 : 1 ≤ zs.length := by omega
      have hz2 : zs.length ≤ 1048576 := by omega
      have hzi : i < zs.length := by omega
      have HZS : Hid (Small zs) := Lib.hid (by rw [hZ]; exact HSM.out.set_ (by omega) (by omega))
      have HZ := Lib.hid hZ
      have HQ' := Lib.hid hq
      have HQK := Lib.hid hqk
      have h2 := h.below hb
      clear hZ hq hqk hzl
      go_wp2_with (first
        | (go_at_call 58; refine (withBid_is _ _ _ _ _ _ HZ.out h2 hi hl2).mono ?_; rintro e w3 ⟨g3, c3, rfl, o3, b3⟩)
        | (go_at_call 60; refine (Sgain_is s kd _ _ zs i v r _ HQ'.out hk o3.rd hz1 hz2 hzi HZS.out hv0 hv1 hr0 hr1).mono ?_; rintro e w4 ⟨rfl, b4⟩; by_cases hqq : qn < q))
      · have B4 := (hb.trans (b3.mono hb.size)).trans (b4.mono (Nat.le_trans hb.size b3.size))
        have hqq : qn < q := by assumption
        have HF : Hid (bestF (gB kd xs i v r) (k + 1 - 1) = (k, q)) := Lib.hid (by
          have := best_up HE.out HQK.out hqq
          rw [Nat.sub_add_cancel hk1] at this
          exact this)
        go_roundw
        case rel => exact ⟨k + 1, k, q, by omega, by omega, by go_num, rfl, rfl, B4, HF⟩
        case measure => simp [intOf]; omega
      · have B4 := (hb.trans (b3.mono hb.size)).trans (b4.mono (Nat.le_trans hb.size b3.size))
        have hqq : ¬ qn < q := by omega
        have HF : Hid (bestF (gB kd xs i v r) (k + 1 - 1) = (pn, qn)) := Lib.hid (by
          have := best_keep HE.out HQK.out hqq
          rw [Nat.sub_add_cancel hk1] at this
          exact this)
        go_roundw
        case rel => exact ⟨k + 1, pn, qn, by omega, by omega, by go_num, rfl, rfl, B4, HF⟩
        case measure => simp [intOf]; omega
    · obtain rfl : k = 31 := by omega
      have HF : Hid (bestF (gB kd xs i v r) 30 = (pn, qn)) := HE
      go_wp2
      go_ret3
      exact ⟨by rw [HF.out]; rfl, hb⟩

set_option maxHeartbeats 2000000 in
theorem SBestBid_no {kb wb vb rb : Bool} (s : ByteArray) (A : Option Addr) (c : Nat) (xs : List Int) (i v r : Int) (w : World)
    (hk : Calls Try.prog 49 #[.string s] w fun e w' => e = .returned (.bool kb) ∧ w = w')
    (h : Rd w A c xs) (hl : xs.length ≤ 1048576) (hw : wB xs i = wb) (hv : inR v 0 30 = vb) (hr : inR r 0 30 = rb) (hno : (kb && wb && vb && rb) = false) :
    Calls Try.prog 27 #[.string s, .slice A xs.length c, .int .i64 i, .int .i64 v, .int .i64 r] w (ThreeIs w 0 0 false) := by
  have HK := Lib.hid hk
  clear hk
  cases kb <;> cases wb <;> cases vb <;> cases rb <;> first
    | (exact absurd hno (by decide))
    | (clear hno
       go_enter Try.func27, Try.ntmps27
       go_wp2_with (first
         | (go_at_call 49; refine HK.out.mono ?_; rintro e w1 ⟨rfl, rfl⟩)
         | (go_at_call 57; refine (validWho_any _ _ _ _ _ h hl).mono ?_; rintro e w1 ⟨rfl, rfl⟩)
         | (go_at_call 51; refine (inRange_any _ _ _ _).mono ?_; rintro e w1 ⟨rfl, rfl⟩))
       go_ret3
       exact ⟨rfl, Below.refl _ _⟩)

set_option maxHeartbeats 800000 in
theorem BestBid_yes (s : ByteArray) (kd : Nat) (A : Option Addr) (c : Nat) (xs : List Int) (i : Nat) (v r : Int) (w : World) (hk : KindIs s kd) (h : Rd w A c xs) (hl : xs.length ≤ 1048576)
    (hw : wB xs i = true) (hv : inR v 0 30 = true) (hr : inR r 0 30 = true) :
    Calls Try.prog 26 #[.string s, .slice A xs.length c, .int .i64 i, .int .i64 v, .int .i64 r] w (ThreeIs w (bestF (gB kd xs i v r) 30).1 (bestF (gB kd xs i v r) 30).2 true) := by
  have hwb := wB_le hw
  have hvb := inR_le hv
  have hrb := inR_le hr
  have h1 : 1 ≤ xs.length := hwb.2.2.2.1
  have hi : i < xs.length := by omega
  obtain ⟨b, off, rfl, _⟩ := h.open_ h1
  obtain ⟨pn, qn, hpq⟩ : ∃ pn qn, bestF (gB kd xs i v r) 30 = (pn, qn) := ⟨_, _, rfl⟩
  have HG := Lib.hid (fun w1 f (hf : FnIs w1 f kd) (h2 : Rd w1 (some ⟨b, off, none⟩) c xs) => bestUpTo_any 30 f kd b off c xs i v r w1 (by decide) hf h2 h1 hl hi (vB_small hwb.1) (by omega) (by omega) (by omega) (by omega))
  rw [hpq] at HG ⊢
  clear hwb hvb hrb hpq
  have qf := run_eql_func
  go_enter Try.func26, Try.ntmps26
  go_wp2_with fail
  refine (saleOf_yes s kd _ hk).mono ?_
  rintro e w1 ⟨f, rfl, hF, hb1⟩
  have h2 := h.below hb1
  have HG1 := Lib.hid (HG.out w1 f hF h2)
  rcases hF with ⟨hk1, hk2, rb, rfl, hc⟩ | ⟨rfl, rfl⟩
  all_goals
    go_wp2_with (first
      | (go_at_call 55; refine (isBidder_any _ _ _ _ _ h2 hl).mono ?_; rintro e w2 ⟨rfl, rfl⟩)
      | (go_at_call 47; refine (isBid_any _ _).mono ?_; rintro e w2 ⟨rfl, rfl⟩)
      | (go_at_call 61; refine HG1.out.mono ?_; rintro e w3 ⟨rfl, hb3⟩))
    go_ret3
    exact ⟨rfl, hb1.trans (hb3.mono hb1.size)⟩

theorem BestBid_no1 (s : ByteArray) (A : Option Addr) (c : Nat) (xs : List Int) (i v r : Int) (w : World) (hk : NoKind s) :
    Calls Try.prog 26 #[.string s, .slice A xs.length c, .int .i64 i, .int .i64 v, .int .i64 r] w (ThreeIs w 0 0 false) := by
  have qf := run_eql_nilFunc
  go_enter Try.func26, Try.ntmps26
  go_wp2_with fail
  refine (saleOf_no s _ hk).mono ?_
  rintro e w1 ⟨rfl, rfl⟩
  go_wp2
  go_ret3
  exact ⟨rfl, Below.refl _ _⟩

set_option maxHeartbeats 2000000 in
theorem BestBid_no2 {wb vb rb : Bool} (s : ByteArray) (kd : Nat) (A : Option Addr) (c : Nat) (xs : List Int) (i v r : Int) (w : World) (hk : KindIs s kd) (h : Rd w A c xs) (hl : xs.length ≤ 1048576)
    (hw : wB xs i = wb) (hv : inR v 0 30 = vb) (hr : inR r 0 30 = rb) (hno : (wb && vb && rb) = false) :
    Calls Try.prog 26 #[.string s, .slice A xs.length c, .int .i64 i, .int .i64 v, .int .i64 r] w (ThreeIs w 0 0 false) := by
  have qf := run_eql_func
  cases wb <;> cases vb <;> cases rb <;> first
    | (exact absurd hno (by decide))
    | (clear hno
       go_enter Try.func26, Try.ntmps26
       go_wp2_with fail
       refine (saleOf_yes s kd _ hk).mono ?_
       rintro e w1 ⟨f, rfl, hF, hb1⟩
       have h2 := h.below hb1
       rcases hF with ⟨hk1, hk2, rb, rfl, hc⟩ | ⟨rfl, rfl⟩
       all_goals
         go_wp2_with (first
           | (go_at_call 55; refine (isBidder_any _ _ _ _ _ h2 hl).mono ?_; rintro e w2 ⟨rfl, rfl⟩)
           | (go_at_call 47; refine (isBid_any _ _).mono ?_; rintro e w2 ⟨rfl, rfl⟩))
         go_ret3
         exact ⟨rfl, hb1⟩)

theorem BestBid_both (s : ByteArray) (xs : List Int) (i v r : Int) (hl : xs.length ≤ 1048576) :
    ∃ (m n : Int) (b : Bool),
      (∀ A c w, Rd w A c xs → Calls Try.prog 27 #[.string s, .slice A xs.length c, .int .i64 i, .int .i64 v, .int .i64 r] w (ThreeIs w m n b)) ∧
      (∀ A c w, Rd w A c xs → Calls Try.prog 26 #[.string s, .slice A xs.length c, .int .i64 i, .int .i64 v, .int .i64 r] w (ThreeIs w m n b)) := by
  rcases kind_cases s with ⟨kd, hk⟩ | hk
  · by_cases hg : (wB xs i && inR v 0 30 && inR r 0 30) = true
    · simp only [Bool.and_eq_true] at hg
      obtain ⟨⟨hw, hv⟩, hr⟩ := hg
      obtain ⟨j, rfl⟩ := Int.eq_ofNat_of_zero_le (wB_le hw).2.1
      exact ⟨_, _, _, fun A c w h => SBestBid_yes s kd A c xs j v r w hk h hl hw hv hr, fun A c w h => BestBid_yes s kd A c xs j v r w hk h hl hw hv hr⟩
    · have hg' : (wB xs i && inR v 0 30 && inR r 0 30) = false := by simpa using hg
      exact ⟨0, 0, false, fun A c w h => SBestBid_no s A c xs i v r w (validKind_yes s kd w hk) h hl rfl rfl rfl (by simpa using hg'), fun A c w h => BestBid_no2 s kd A c xs i v r w hk h hl rfl rfl rfl hg'⟩
  · exact ⟨0, 0, false, fun A c w h => SBestBid_no s A c xs i v r w (validKind_no s w hk) h hl rfl rfl rfl rfl, fun A c w _ => BestBid_no1 s A c xs i v r w hk⟩

end Go.Proofs.Ytcbhjcbbjegmiaa
