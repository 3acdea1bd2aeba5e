/-
  The walk of the law of GainOf.
-/
import Derived.Test.YtcbhjcbbjegmiaaPlC
import Derived.Test.YtcbhjcbbjegmiaaDrawD
namespace Go.Proofs.Ytcbhjcbbjegmiaa
open Go.RowKit

theorem GainOf_is {q : Int} {n : Nat} (s : ByteArray) (kd : Nat) (A : Option Addr) (c : Nat) (xs : List Int) (i : Nat) (v r : Int) (w : World) (hn : xs.length = n) (hq : q = gainF kd xs i v r) (hk : KindIs s kd) (h : Rd w A c xs) (hl : n ≤ 1048576)
    (hw : wB xs i = true) (hv : inR v 0 30 = true) (hr : inR r 0 30 = true) :
    Calls Try.prog 23 #[.string s, .slice A n c, .int .i64 i, .int .i64 v, .int .i64 r] w (TwoIs w q true) := by
  subst hn hq; exact GainOf_yes s kd A c xs i v r w hk h hl hw hv hr

theorem GainOf_cases (s : ByteArray) (xs : List Int) (i v r : Int) (hl : xs.length ≤ 1048576) :
    (∃ (kd j : Nat), i = (j : Int) ∧ KindIs s kd ∧ wB xs i = true ∧ inR v 0 30 = true ∧ inR r 0 30 = true) ∨
    ((∀ A c w, Rd w A c xs → Calls Try.prog 24 #[.string s, .slice A xs.length c, .int .i64 i, .int .i64 v, .int .i64 r] w (TwoIs w 0 false)) ∧
      (∀ A c w, Rd w A c xs → Calls Try.prog 23 #[.string s, .slice A xs.length c, .int .i64 i, .int .i64 v, .int .i64 r] w (TwoIs w 0 false))) := by
  rcases kind_cases s with ⟨kd, hk⟩ | hk
  · by_cases hg : (wB xs i && inR v 0 30 && inR r 0 30) = true
    · simp only [Bool.and_eq_true] at hg
      obtain ⟨⟨hw, hv⟩, hr⟩ := hg
      obtain ⟨j, rfl⟩ := Int.eq_ofNat_of_zero_le (wB_le hw).2.1
      exact .inl ⟨kd, j, rfl, hk, hw, hv, hr⟩
    · have hg' : (wB xs i && inR v 0 30 && inR r 0 30) = false := by simpa using hg
      exact .inr ⟨fun A c w h => SGainOf_no s A c xs i v r w (validKind_yes s kd w hk) h hl rfl rfl rfl (by simpa using hg'), fun A c w h => GainOf_no2 s kd A c xs i v r w hk h hl rfl rfl rfl hg'⟩
  · exact .inr ⟨fun A c w h => SGainOf_no s A c xs i v r w (validKind_no s w hk) h hl rfl rfl rfl rfl, fun A c w _ => GainOf_no1 s A c xs i v r w hk⟩

set_option maxRecDepth 100000 in
set_option maxHeartbeats 4000000 in
theorem fnGainOf_walk {A : Option Addr} {c : Nat} {xs : List Int} {w : World} (h : Came .u8 w A c xs) :
    Calls Try.prog 5 #[.slice A xs.length c] w fun e w' => e = .returned (.bool true) ∧ Below w.heap.size w w' := by
  by_cases hlen : 1048576 < xs.length
  · go_enter Try.func5, Try.ntmps5
    go_wp2
    go_ret
    exact ⟨rfl, Below.refl _ _⟩
  have hl0 : xs.length ≤ 1048576 := by omega
  clear hlen
  go_enter Try.func5, Try.ntmps5
  go_wp2_with fail
  refine (DrawGainOf_any A c xs w h).mono ?_
  rintro e w1 ⟨s, A1, c1, ys, i, v, r, rfl, hrd, hy, B1⟩
  have hy1 : ys.length ≤ 1048576 := by omega
  have hy2 : ys.length ≤ 1099511627776 := by omega
  clear h hl0
  rcases GainOf_cases s ys i v r hy1 with ⟨kd, j, rfl, hk, hw, hv, hr⟩ | ⟨hS, hI⟩
  · have hwb := wB_le hw
    have hj : j < ys.length := by have := hwb.2.2.1; omega
    have hv0 := (inR_le hv).1
    have hv1 := (inR_le hv).2
    have hr0 := (inR_le hr).1
    obtain ⟨G, hG⟩ : ∃ G, G = gainF kd ys j v r := ⟨_, rfl⟩
    obtain ⟨zs, hZ⟩ : ∃ zs, zs = ys.set j v := ⟨_, rfl⟩
    obtain ⟨T, hT⟩ : ∃ T, T = gainF 2 zs j v r := ⟨_, rfl⟩
    obtain ⟨O, hO⟩ : ∃ O, O = gainF 2 ys j v r := ⟨_, rfl⟩
    have k1 : 0 ≤ T := by rw [hT, hZ]; exact truth_ge hj hv0
    have k2 : O ≤ T := by rw [hT, hZ, hO]; exact truth_best' hj hv0
    have k3 : G ≤ v := by rw [hG]; exact gain_le hwb.1 hr0 hv0 hj
    have hzw : wB zs j = true := by rw [hZ]; exact wB_set hw hv0 hv1
    have hzl : zs.length = ys.length := by rw [hZ, List.length_set]
    have HS := Lib.hid (fun w0 (h0 : Rd w0 A1 c1 ys) => SGainOf_yes s kd A1 c1 ys j v r w0 hk h0 hy1 hw hv hr)
    have HI := Lib.hid (fun w0 (h0 : Rd w0 A1 c1 ys) => GainOf_yes s kd A1 c1 ys j v r w0 hk h0 hy1 hw hv hr)
    have HO := Lib.hid (fun w0 (h0 : Rd w0 A1 c1 ys) => GainOf_is ⟨#[115, 101, 99, 111, 110, 100]⟩ 2 A1 c1 ys j v r w0 rfl hO (.inr (.inl ⟨rfl, rfl⟩)) h0 hy1 hw hv hr)
    have HT := Lib.hid (fun w0 A0 c0 (h0 : Rd w0 A0 c0 zs) => GainOf_is ⟨#[115, 101, 99, 111, 110, 100]⟩ 2 A0 c0 zs j v r w0 hzl hT (.inr (.inl ⟨rfl, rfl⟩)) h0 hy1 hzw hv hr)
    rw [← hG] at HS HI
    obtain ⟨x, hx⟩ := at_some hj
    have HX := Lib.hid hx
    have HZ := Lib.hid hZ
    have hgg : (G != G) = false := by simp
    clear hG hZ hT hO hzw hzl hx hw hv hr hwb hk
    go_wp2_with fail
    refine (HI.out _ hrd).mono ?_
    rintro e w2 ⟨rfl, b2⟩
    go_wp2_with fail
    refine (HS.out _ (hrd.below b2)).mono ?_
    rintro e w3 ⟨rfl, b3⟩
    have B3 := (B1.trans (b2.mono B1.size)).trans (b3.mono (Nat.le_trans B1.size b2.size))
    have r3 := (hrd.below b2).below b3
    have hb0 := (Below.refl w3.heap.size w3).alloc (Nat.le_refl _) (.cells #[] 3)
    have r4 := r3.below hb0
    clear HS HI b2 b3 B1 hrd
    go_wp2_with (first
      | (at_builtin; refine wpList_clone rfl _ _ rfl w3.heap.size w3.heap.size rfl (own_empty w3) _ _ ys rfl r4 hy2 hb0.size ?_; intro g5 c5 w5 o5 b5; have hc5 := o5.cell HX.out; have hf5 := o5.free j; have o6 := o5.set_ j v; have b6 := (hb0.trans b5).setCell (p := ⟨g5, j, none⟩) o5.ge (.int .i64 v))
      | fail)
    refine (HT.out _ _ _ (by rw [HZ.out]; exact o6.rd)).mono ?_
    rintro e w7 ⟨rfl, b7⟩
    have b37 := b6.trans (b7.mono b6.size)
    go_wp2_with fail
    refine (HO.out _ (r3.below b37)).mono ?_
    rintro e w8 ⟨rfl, b8⟩
    have B8 := (B3.trans (b37.mono B3.size)).trans (b8.mono (Nat.le_trans B3.size b37.size))
    go_wp2
    go_ret
    exact ⟨rfl, B8⟩
  · have HS := Lib.hid hS
    have HI := Lib.hid hI
    clear hS hI
    go_wp2_with fail
    refine (HI.out _ _ _ hrd).mono ?_
    rintro e w2 ⟨rfl, b2⟩
    go_wp2_with fail
    refine (HS.out _ _ _ (hrd.below b2)).mono ?_
    rintro e w3 ⟨rfl, b3⟩
    have B3 := (B1.trans (b2.mono B1.size)).trans (b3.mono (Nat.le_trans B1.size b2.size))
    go_wp2
    go_ret
    exact ⟨rfl, B3⟩

end Go.Proofs.Ytcbhjcbbjegmiaa
