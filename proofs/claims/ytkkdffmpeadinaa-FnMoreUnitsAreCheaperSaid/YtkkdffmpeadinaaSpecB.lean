/-
  Chapter 1, the model: the contract of nth.
-/
import Derived.Test.YtkkdffmpeadinaaSpecA
import Derived.Deep.AppendLies
import Derived.Deep.RegionLaw
namespace Go.Proofs.Ytkkdffmpeadinaa
open Go.RowKit

theorem greatest_is {m : Nat} (A : Option Addr) (c : Nat) (xs : List Int) (w : World) (hm : m = gr xs xs.length) (h : Rd w A c xs) (h1 : 1 ≤ xs.length) (hl : xs.length ≤ 1099511627776) :
    Calls Try.prog 84 #[.slice A xs.length c] w fun e w' => e = .returned (.int .i64 m) ∧ ∃ n, w' = w.drewN n := by
  rw [hm]; exact greatest_any A c xs w h h1 hl

set_option maxHeartbeats 400000 in
theorem nth_any (A : Option Addr) (c : Nat) (xs : List Int) (n : Nat) (w : World) (h : Rd w A c xs) (hl : xs.length ≤ 1048576) (hn : n ≤ 1048576) :
    Calls Try.prog 63 #[.slice A xs.length c, .int .i64 n] w fun e w' => e = .returned (.int .i64 (nthG n xs)) ∧ Below w.heap.size w w' := by
  have hb0 := (Below.refl w.heap.size w).alloc (Nat.le_refl _) (.cells #[] 3)
  have h1 := h.below hb0
  have hl2 : xs.length ≤ 1099511627776 := by omega
  go_enter Try.func63, Try.ntmps63
  go_wp2_with (at_builtin; refine wpList_clone rfl _ _ rfl w.heap.size w.heap.size rfl (own_empty w) A c xs rfl h1 hl2 hb0.size ?_; intro g c1 w1 ho hb)
  go_loopw [5, 6] (fun v i wr => ∃ (k g c' : Nat) (ys : List Int), k ≤ n ∧ ys.length ≤ xs.length ∧ i = .int .i64 k ∧ v = .slice (some ⟨g, 0, none⟩) ys.length c' ∧ Own wr w.heap.size (some ⟨g, 0, none⟩) c' ys ∧ Below w.heap.size w wr ∧ Hid (nthG (n - k) ys = nthG n xs))
    (fun _ i _ => n + 1 - (intOf i).toNat)
  case atStart => exact ⟨0, g, c1, xs, Nat.zero_le _, Nat.le_refl _, rfl, rfl, ho, hb0.trans hb, Lib.hid rfl⟩
  case round =>
    obtain ⟨k, g, c', ys, hk, hys, rfl, rfl, hown, hbel, HE⟩ := hrel
    have hcap := hown.cap
    by_cases hlen : 1 ≤ ys.length
    · have hgt : (0 : Int) < (ys.length : Int) := by omega
      have hl3 : ys.length ≤ 1099511627776 := by omega
      have hm := gr_lt ys ys.length hlen
      obtain ⟨m, hM⟩ : ∃ m, m = gr ys ys.length := ⟨_, rfl⟩
      have hm' : m < ys.length := by omega
      obtain ⟨x, hx⟩ := at_some hm'
      have hcx := hown.cell hx
      have HX := Lib.hid hx
      have HG := Lib.hid hM
      clear hx hm hM
      by_cases hkn : k = n
      · subst hkn
        have HN : Hid (nthG k xs = x) := Lib.hid (by rw [← HE.out, Nat.sub_self, nthG_zero, ← HG.out, getD_of HX.out])
        go_wp2_with fail
        refine (greatest_is _ _ _ _ HG.out hown.rd hlen hl3).mono ?_
        rintro e w2 ⟨rfl, q, rfl⟩
        go_wp2
        go_ret
        exact ⟨by rw [HN.out]; rfl, below_drewN' hbel q⟩
      · have hne : ((k : Int) == (n : Int)) = false := by simp; omega
        have hk2 : k + 1 ≤ n := by omega
        clear hkn
        go_wp2_with fail
        refine (greatest_is _ _ _ _ HG.out hown.rd hlen hl3).mono ?_
        rintro e w2 ⟨rfl, q, rfl⟩
        have hwm : IntKind.i64.wrap ((m : Int) + 1) = (m : Int) + 1 := IntWalk.i64_in _ (by omega)
        have h01 : (0 : Int) ≤ (m : Int) := by omega
        have h02 : (m : Int) ≤ (c' : Int) := by omega
        have h03 : (0 : Int) ≤ (m : Int) + 1 := by omega
        have h04 : (m : Int) + 1 ≤ (ys.length : Int) := by omega
        have h05 : (ys.length : Int) ≤ (c' : Int) := by omega
        have h07 : m ≤ c' := by omega
        have h08 : m + 1 ≤ ys.length := by omega
        have h09 : ys.length ≤ c' := hcap.1
        have h06 : ((m : Int) + 1).toNat = m + 1 := by omega
        have HO := Lib.hid ((own_empty (wr.drewN (q + 1))).base (B' := w.heap.size) hbel.size)
        have hb1 := (Below.refl (wr.drewN (q + 1)).heap.size (wr.drewN (q + 1))).alloc (Nat.le_refl _) (.cells #[] 3)
        have HR1 := Lib.hid (((hown.rd.take_ (c2 := c') m).drewN (q + 1)).below hb1)
        have HB := Lib.hid (Nat.le_trans hbel.size hb1.size)
        have HT : Hid ((ys.take m).length = m) := Lib.hid (by simp; omega)
        have HT2 : Hid ((ys.drop (m + 1)).length = ys.length - (m + 1)) := Lib.hid (by simp)
        have HB1 : Hid (Below wr.heap.size wr ((wr.drewN (q + 1)).alloc (.cells #[] 3))) := Lib.hid (below_drewN' (Below.refl _ wr) (q + 1) |>.trans hb1)
        have hb1s := HB1.out.size
        clear hb1
        go_wp2_with fail
        go_region_law (first
          | ((refine step_append_ints (by rfl) _ _ (by rfl) w.heap.size _ 0 [] 0 rfl (by rfl) HO.out (some ⟨g, 0, none⟩) _ (ys.take m) m HT.out (by rfl) HR1.out (by omega) HB.out ?_; intro g1 c1' w3 ho3 hg3; have hb3 := HB1.out.grown hg3 hb1s (fun k hk => by cases hk; exact Nat.le_refl _)))
          | ((refine step_append_ints (by rfl) _ _ (by rfl) w.heap.size _ _ (ys.take m) m HT.out (by rfl) ho3 _ _ (ys.drop (m + 1)) (ys.length - (m + 1)) HT2.out (by rfl) ((hown.rd.below hb3).cut_ hcap.1) (by omega) (Nat.le_trans hbel.size hb3.size) ?_; intro g2 c2' w4 ho4 hg4)))
        have hE : ys.eraseIdx m = ys.take m ++ ys.drop (m + 1) := List.eraseIdx_eq_take_drop_succ ys m
        have hEl : (ys.eraseIdx m).length = m + (ys.length - (m + 1)) := by rw [hE]; simp; omega
        have HN2 : Hid (nthG (n - (k + 1)) (ys.eraseIdx m) = nthG n xs) := Lib.hid (by rw [← HE.out, show n - k = n - (k + 1) + 1 by omega, nthG_succ, ← HG.out])
        have hlast : Below w.heap.size w w4 := (hbel.trans (hb3.mono hbel.size)).grown hg4 (Nat.le_trans hbel.size hb3.size) (fun k hk => by cases hk; exact ho3.ge)
        rw [← hE] at ho4
        have HEl := Lib.hid hEl
        clear hE hEl hwm h06
        go_wp2
        go_roundw
        case rel => exact ⟨k + 1, g2, c2', ys.eraseIdx m, hk2, by rw [HEl.out]; omega, by go_num, by rw [HEl.out], ho4, hlast, HN2⟩
        case measure => simp [intOf]; omega
    · have hy : ys = [] := List.eq_nil_of_length_eq_zero (by omega)
      subst hy
      have HN : Hid (nthG n xs = 0) := Lib.hid (by rw [← HE.out, nthG_nil])
      go_wp2
      go_ret
      exact ⟨by rw [HN.out]; rfl, hbel⟩
end Go.Proofs.Ytkkdffmpeadinaa
