/-
  The walk of the law of BestBid.
-/
import Derived.Test.YtcbhjcbbjegmiaaFnGain
namespace Go.Proofs.Ytcbhjcbbjegmiaa
open Go.RowKit

theorem BestBid_is {m q : Int} (s : ByteArray) (kd : Nat) (A : Option Addr) (c : Nat) (xs : List Int) (i : Nat) (v r : Int) (w : World) (hm : m = (bestF (gB kd xs i v r) 30).1) (hq : q = (bestF (gB kd xs i v r) 30).2) (hk : KindIs s kd) (h : Rd w A c xs) (hl : xs.length ≤ 1048576)
    (hw : wB xs i = true) (hv : inR v 0 30 = true) (hr : inR r 0 30 = true) :
    Calls Try.prog 26 #[.string s, .slice A xs.length c, .int .i64 i, .int .i64 v, .int .i64 r] w (ThreeIs w m q true) := by
  subst hm hq; exact BestBid_yes s kd A c xs i v r w hk h hl hw hv hr

theorem BestBid_cases (s : ByteArray) (xs : List Int) (i v r : Int) (hl : xs.length ≤ 1048576) :
    (∃ (kd j u : Nat), i = (j : Int) ∧ v = (u : Int) ∧ KindIs s kd ∧ wB xs i = true ∧ inR v 0 30 = true ∧ inR r 0 30 = true) ∨
    ((∀ A c w, Rd w A c xs → Calls Try.prog 27 #[.string s, .slice A xs.length c, .int .i64 i, .int .i64 v, .int .i64 r] w (ThreeIs w 0 0 false)) ∧
      (∀ A c w, Rd w A c xs → Calls Try.prog 26 #[.string s, .slice A xs.length c, .int .i64 i, .int .i64 v, .int .i64 r] w (ThreeIs w 0 0 false))) := by
  rcases kind_cases s with ⟨kd, hk⟩ | hk
  · by_cases hg : (wB xs i && inR v 0 30 && inR r 0 30) = true
    · simp only [Bool.and_eq_true] at hg
      obtain ⟨⟨hw, hv⟩, hr⟩ := hg
      obtain ⟨j, rfl⟩ := Int.eq_ofNat_of_zero_le (wB_le hw).2.1
      obtain ⟨u, rfl⟩ := Int.eq_ofNat_of_zero_le (inR_le hv).1
      exact .inl ⟨kd, j, u, rfl, rfl, hk, hw, hv, hr⟩
    · have hg' : (wB xs i && inR v 0 30 && inR r 0 30) = false := by simpa using hg
      exact .inr ⟨fun A c w h => SBestBid_no s A c xs i v r w (validKind_yes s kd w hk) h hl rfl rfl rfl (by simpa using hg'), fun A c w h => BestBid_no2 s kd A c xs i v r w hk h hl rfl rfl rfl hg'⟩
  · exact .inr ⟨fun A c w h => SBestBid_no s A c xs i v r w (validKind_no s w hk) h hl rfl rfl rfl rfl, fun A c w _ => BestBid_no1 s A c xs i v r w hk⟩

set_option maxRecDepth 100000 in
set_option maxHeartbeats 8000000 in
theorem fnBestBid_walk {A : Option Addr} {c : Nat} {xs : List Int} {w : World} (h : Came .u8 w A c xs) :
    Calls Try.prog 6 #[.slice A xs.length c] w fun e w' => e = .returned (.bool true) ∧ Below w.heap.size w w' := by
  by_cases hlen : 1048576 < xs.length
  · go_enter Try.func6, Try.ntmps6
    go_wp2
    go_ret
    exact ⟨rfl, Below.refl _ _⟩
  have hl0 : xs.length ≤ 1048576 := by omega
  clear hlen
  go_enter Try.func6, Try.ntmps6
  go_wp2_with fail
  refine (DrawBestBid_any A c xs w h).mono ?_
  rintro e w1 ⟨s, A1, c1, ys, i, v, r, rfl, hrd, hy, B1⟩
  have hy1 : ys.length ≤ 1048576 := by omega
  have hy2 : ys.length ≤ 1099511627776 := by omega
  clear h hl0
  rcases BestBid_cases s ys i v r hy1 with ⟨kd, j, u, rfl, rfl, hk, hw, hv, hr⟩ | ⟨hS, hI⟩
  · have hwb := wB_le hw
    have hj : j < ys.length := by have := hwb.2.2.1; omega
    have hv0 := (inR_le hv).1
    have hv1 := (inR_le hv).2
    have hr0 := (inR_le hr).1
    obtain ⟨p, hp⟩ : ∃ p, p = (bestF (gB kd ys j u r) 30).1 := ⟨_, rfl⟩
    obtain ⟨q, hq⟩ : ∃ q, q = (bestF (gB kd ys j u r) 30).2 := ⟨_, rfl⟩
    obtain ⟨b2, hb2⟩ : ∃ b2 : Int, b2 = ((bestF (gB 2 ys j u r) 30).1 : Nat) := ⟨_, rfl⟩
    obtain ⟨q2, hq2⟩ : ∃ q2, q2 = (bestF (gB 2 ys j u r) 30).2 := ⟨_, rfl⟩
    obtain ⟨b1, hb1⟩ : ∃ b1 : Int, b1 = ((bestF (gB 1 ys j u r) 30).1 : Nat) := ⟨_, rfl⟩
    obtain ⟨q1, hq1⟩ : ∃ q1, q1 = (bestF (gB 1 ys j u r) 30).2 := ⟨_, rfl⟩
    obtain ⟨hs, hH⟩ : ∃ hs, hs = ys.set j (u : Int) := ⟨_, rfl⟩
    obtain ⟨T, hT⟩ : ∃ T, T = gainF 2 hs j u r := ⟨_, rfl⟩
    have e2 : q2 = T := by rw [hq2, hT, hH]; exact best_second hj (by omega)
    have e1 : q1 ≤ T := by rw [hq1, hT, hH]; exact best_first hj
    have hbs := best_spec (gB kd ys j u r) 30
    rw [← hp, ← hq] at hbs
    have HB := Lib.hid hbs
    have hpl : (p : Int) ≤ 30 := by have := hbs.1; omega
    have hzw : wB hs j = true := by rw [hH]; exact wB_set hw hv0 hv1
    have hzl : hs.length = ys.length := by rw [hH, List.length_set]
    subst e2
    have HS := Lib.hid (fun w0 (h0 : Rd w0 A1 c1 ys) => SBestBid_yes s kd A1 c1 ys j u r w0 hk h0 hy1 hw hv hr)
    have HI := Lib.hid (fun w0 (h0 : Rd w0 A1 c1 ys) => BestBid_is (m := (p : Int)) (q := q) s kd A1 c1 ys j u r w0 (by rw [hp]) hq hk h0 hy1 hw hv hr)
    rw [← hp, ← hq] at HS
    have HT := Lib.hid (fun w0 A0 c0 (h0 : Rd w0 A0 c0 hs) => GainOf_is ⟨#[115, 101, 99, 111, 110, 100]⟩ 2 A0 c0 hs j u r w0 hzl hT (.inr (.inl ⟨rfl, rfl⟩)) h0 hy1 hzw hv hr)
    have H2 := Lib.hid (fun w0 (h0 : Rd w0 A1 c1 ys) => BestBid_is ⟨#[115, 101, 99, 111, 110, 100]⟩ 2 A1 c1 ys j u r w0 hb2 hq2 (.inr (.inl ⟨rfl, rfl⟩)) h0 hy1 hw hv hr)
    have H1 := Lib.hid (fun w0 (h0 : Rd w0 A1 c1 ys) => BestBid_is ⟨#[102, 105, 114, 115, 116]⟩ 1 A1 c1 ys j u r w0 hb1 hq1 (.inl ⟨rfl, rfl⟩) h0 hy1 hw hv hr)
    have HG := Lib.hid (fun (k : Nat) (_ : k ≤ 30) (g : Int) (zs : List Int) w0 A0 c0 (hz : zs = ys.set j (k : Int)) (hg : g = gB kd ys j u r k) (h0 : Rd w0 A0 c0 zs) =>
      GainOf_is (q := g) (n := ys.length) s kd A0 c0 zs j u r w0 (by rw [hz, List.length_set]) (by rw [hg, hz]; rfl) hk h0 hy1 (by rw [hz]; exact wB_set hw (by omega) (by omega)) hv hr)
    obtain ⟨x, hx⟩ := at_some hj
    have HX := Lib.hid hx
    have HH := Lib.hid hH
    have hpp : ((p : Int) != (p : Int)) = false := by simp
    have hqq : (q != q) = false := by simp
    have hqe : (q2 == q2) = true := by simp
    clear hp hq hb2 hq2 hb1 hq1 hH hT hbs hzw hzl hx hw hv hr hwb hk
    go_wp2_with fail
    refine (HI.out _ hrd).mono ?_
    rintro e w2 ⟨rfl, b2'⟩
    go_wp2_with fail
    refine (HS.out _ (hrd.below b2')).mono ?_
    rintro e w3 ⟨rfl, b3⟩
    have B3 := (B1.trans (b2'.mono B1.size)).trans (b3.mono (Nat.le_trans B1.size b2'.size))
    have r3 := (hrd.below b2').below b3
    clear HS HI b2' b3 B1 hrd
    go_wp2_with fail
    go_loopw [14] (fun t wr => ∃ k : Nat, k ≤ 31 ∧ t = .int .i64 k ∧ Below w3.heap.size w3 wr)
      (fun t _ => 31 - (intOf t).toNat)
    case atStart => exact ⟨0, by decide, rfl, Below.refl _ _⟩
    case round =>
      obtain ⟨k, hk, rfl, hb⟩ := hrel
      by_cases hlt : k ≤ 30
      · have hb0 := (Below.refl wr.heap.size wr).alloc (Nat.le_refl _) (.cells #[] 3)
        have r4 := (r3.below hb).below hb0
        obtain ⟨zs, hZ⟩ : ∃ zs, zs = ys.set j k := ⟨_, rfl⟩
        obtain ⟨g, hg⟩ : ∃ g, g = gB kd ys j u r k := ⟨_, rfl⟩
        have hle : g ≤ q := by rw [hg]; exact HB.out.2.2.1 k hlt
        have hl3 : k < p → g < q := by rw [hg]; exact HB.out.2.2.2 k
        have hl4 : k = p → g = q := by rintro rfl; rw [hg]; exact HB.out.2.1
        have HZ := Lib.hid hZ
        have HGk := Lib.hid hg
        have d1 : decide (q < g) = false := by simp; omega
        rcases Nat.lt_trichotomy k p with hkp | hkp | hkp
        · have hgq := hl3 hkp
          have d2 : ((k : Int) == (p : Int)) = false := beq_eq_false_iff_ne.2 (by omega)
          have d3 : decide ((k : Int) < (p : Int)) = true := by simp; omega
          have d4 : (g == q) = false := beq_eq_false_iff_ne.2 (by omega)
          clear hZ hg hl3 hl4
          go_wp2_with (first
            | (at_builtin; refine wpList_clone rfl _ _ rfl wr.heap.size wr.heap.size rfl (own_empty wr) _ _ ys rfl r4 hy2 hb0.size ?_; intro g5 c5 w5 o5 b5; have hc5 := o5.cell HX.out; have hf5 := o5.free j; have o6 := o5.set_ j k; have b6 := (hb0.trans b5).setCell (p := ⟨g5, j, none⟩) o5.ge (.int .i64 (k : Int)))
            | (go_at_call 23; refine (HG.out k hlt g zs _ _ _ HZ.out HGk.out (by rw [HZ.out]; exact o6.rd)).mono ?_; rintro e w7 ⟨rfl, b7⟩))
          go_roundw
          case rel => exact ⟨k + 1, by omega, by go_num, (hb.trans (b6.mono hb.size)).trans (b7.mono (Nat.le_trans hb.size b6.size))⟩
          case measure => simp [intOf]; omega
        · have hgq := hl4 hkp
          subst hkp
          subst hgq
          have d2 : ((k : Int) == (k : Int)) = true := by simp
          have d3 : decide ((k : Int) < (k : Int)) = false := by simp
          have d4 : (g != g) = false := by simp
          clear hZ hg hl3 hl4
          go_wp2_with (first
            | (at_builtin; refine wpList_clone rfl _ _ rfl wr.heap.size wr.heap.size rfl (own_empty wr) _ _ ys rfl r4 hy2 hb0.size ?_; intro g5 c5 w5 o5 b5; have hc5 := o5.cell HX.out; have hf5 := o5.free j; have o6 := o5.set_ j k; have b6 := (hb0.trans b5).setCell (p := ⟨g5, j, none⟩) o5.ge (.int .i64 (k : Int)))
            | (go_at_call 23; refine (HG.out k hlt g zs _ _ _ HZ.out HGk.out (by rw [HZ.out]; exact o6.rd)).mono ?_; rintro e w7 ⟨rfl, b7⟩))
          go_roundw
          case rel => exact ⟨k + 1, by omega, by go_num, (hb.trans (b6.mono hb.size)).trans (b7.mono (Nat.le_trans hb.size b6.size))⟩
          case measure => simp [intOf]; omega
        · have d2 : ((k : Int) == (p : Int)) = false := beq_eq_false_iff_ne.2 (by omega)
          have d3 : decide ((k : Int) < (p : Int)) = false := by simp; omega
          clear hZ hg hl3 hl4
          go_wp2_with (first
            | (at_builtin; refine wpList_clone rfl _ _ rfl wr.heap.size wr.heap.size rfl (own_empty wr) _ _ ys rfl r4 hy2 hb0.size ?_; intro g5 c5 w5 o5 b5; have hc5 := o5.cell HX.out; have hf5 := o5.free j; have o6 := o5.set_ j k; have b6 := (hb0.trans b5).setCell (p := ⟨g5, j, none⟩) o5.ge (.int .i64 (k : Int)))
            | (go_at_call 23; refine (HG.out k hlt g zs _ _ _ HZ.out HGk.out (by rw [HZ.out]; exact o6.rd)).mono ?_; rintro e w7 ⟨rfl, b7⟩))
          go_roundw
          case rel => exact ⟨k + 1, by omega, by go_num, (hb.trans (b6.mono hb.size)).trans (b7.mono (Nat.le_trans hb.size b6.size))⟩
          case measure => simp [intOf]; omega
      · obtain rfl : k = 31 := by omega
        have hb0 := (Below.refl wr.heap.size wr).alloc (Nat.le_refl _) (.cells #[] 3)
        have r4 := (r3.below hb).below hb0
        go_wp2_with (first
          | (at_builtin; refine wpList_clone rfl _ _ rfl wr.heap.size wr.heap.size rfl (own_empty wr) _ _ ys rfl r4 hy2 hb0.size ?_; intro g5 c5 w5 o5 b5; have hc5 := o5.cell HX.out; have hf5 := o5.free j; have o6 := o5.set_ j (u : Int); have b6 := (hb0.trans b5).setCell (p := ⟨g5, j, none⟩) o5.ge (.int .i64 (u : Int)))
          | (go_at_call 23; refine (HT.out _ _ _ (by rw [HH.out]; exact o6.rd)).mono ?_; rintro e w7 ⟨rfl, b7⟩; have B7 := (hb.trans (b6.mono hb.size)).trans (b7.mono (Nat.le_trans hb.size b6.size))))
        refine (H2.out _ (r3.below B7)).mono ?_
        rintro e w8 ⟨rfl, b8⟩
        have B8 := B7.trans (b8.mono B7.size)
        go_wp2_with fail
        refine (H1.out _ (r3.below B8)).mono ?_
        rintro e w9 ⟨rfl, b9⟩
        have B9 := B8.trans (b9.mono B8.size)
        go_wp2
        go_ret
        exact ⟨rfl, B3.trans (B9.mono B3.size)⟩
  · have HS := Lib.hid hS
    have HI := Lib.hid hI
    clear hS hI
    go_wp2_with fail
    refine (HI.out _ _ _ hrd).mono ?_
    rintro e w2 ⟨rfl, b2⟩
    go_wp2_with fail
    refine (HS.out _ _ _ (hrd.below b2)).mono ?_
    rintro e w3 ⟨rfl, b3⟩
    have B3 := (B1.trans (b2.mono B1.size)).trans (b3.mono (Nat.le_trans B1.size b2.size))
    go_wp2
    go_ret
    exact ⟨rfl, B3⟩

end Go.Proofs.Ytcbhjcbbjegmiaa
