/-
  The laws of chapter 10: the walk of FnSellersTellTruth.
-/
import Derived.Test.YtpildecpabeanaaEs
import Derived.Test.YtpildecpabeanaaEp
namespace Go.Proofs.Ytpildecpabeanaa
open Go.RowKit

set_option maxRecDepth 100000 in
set_option maxHeartbeats 4000000 in
theorem fnSellersTellTruth_walk {A : Option Addr} {c : Nat} {xs : List Int} {w : World} (h : Came .u8 w A c xs) :
    Calls Try.prog 7 #[.slice A xs.length c] w fun e w' => e = .returned (.bool true) ∧ Below w.heap.size w w' := by
  by_cases hlen : 1048576 < xs.length
  · go_enter Try.func7, Try.ntmps7
    go_wp2
    go_ret
    exact ⟨rfl, Below.refl _ _⟩
  have HD := Lib.hid (DrawTradeGain_any A c xs w h)
  clear h
  go_enter Try.func7, Try.ntmps7
  go_wp2_with fail
  refine HD.out.mono ?_
  rintro e w1 ⟨A1, c1, b, A2, c2, s, i, t, rfl, hR1, hR2, hl1, hl2, b1⟩
  clear hlen HD
  have HX : Hid (∃ (n : Int) (o : Bool), (∀ w2, Rd w2 A1 c1 b → Rd w2 A2 c2 s → Calls Try.prog 25 #[.slice A1 b.length c1, .slice A2 s.length c2, .int .i64 i, .int .i64 t] w2 (TwoIs w2 n o)) ∧
      (∀ w2, Rd w2 A1 c1 b → Rd w2 A2 c2 s → Calls Try.prog 24 #[.slice A1 b.length c1, .slice A2 s.length c2, .int .i64 i, .int .i64 t] w2 (TwoIs w2 n o))) := Lib.hid (by
    rcases TradeGain_cases b s i t (by omega) (by omega) with ⟨_, _, _, _, _, _, _, h, h'⟩ | ⟨h, h'⟩
    · exact ⟨_, _, fun w2 => h _ _ _ _ w2, fun w2 => h' _ _ _ _ w2⟩
    · exact ⟨_, _, fun w2 => h _ _ _ _ w2, fun w2 => h' _ _ _ _ w2⟩)
  obtain ⟨n, o, hS, hI⟩ := HX.out
  have HS := Lib.hid hS
  have HI := Lib.hid hI
  have hnn : (n != n) = false := by simp
  have hoo : (o != o) = false := by simp
  clear HX hS hI
  go_wp2_with fail
  refine (HI.out w1 hR1 hR2).mono ?_
  rintro e w2 ⟨rfl, b2⟩
  have B2 := Lib.hid (b1.trans (b2.mono b1.size))
  have HRB2 := Lib.hid (hR1.below b2)
  have HRS2 := Lib.hid (hR2.below b2)
  clear b2 hR1 hR2
  go_wp2_with fail
  refine (HS.out w2 HRB2.out HRS2.out).mono ?_
  rintro e w3 ⟨rfl, b3⟩
  have HB3 := Lib.hid (B2.out.trans (b3.mono B2.out.size))
  have HRB := Lib.hid (HRB2.out.below b3)
  have HRS := Lib.hid (HRS2.out.below b3)
  clear b3
  go_wp2_with fail
  go_loopw [11, 13] (fun av iv wr => ∃ (k g cc : Nat), k ≤ s.length ∧ av = .slice (some ⟨g, 0, none⟩) k cc ∧ iv = .int .i64 (k : Int) ∧ Hid (Two w3 wr g cc ((mw s).take k) (w3.heap.size + 1) 0 []))
    (fun _ iv _ => s.length - (intOf iv).toNat)
  case atStart => exact ⟨0, w3.heap.size, 0, Nat.zero_le _, rfl, rfl, Lib.hid (by simpa using Two.begin w3)⟩
  case round =>
    obtain ⟨k, g, cc, hk, rfl, rfl, HT⟩ := hrel
    by_cases hlt : k < s.length
    · obtain ⟨bx, ox, x, rfl, _, hx, hcx⟩ := (HRS.out.below HT.out.below).at_ hlt
      obtain ⟨y, hy⟩ : ∃ y, y = fm x := ⟨_, rfl⟩
      have hyw : IntKind.i64.wrap (30 - x) = y := hy.symm
      have HKL : Hid (((mw s).take k).length = k) := Lib.hid (by rw [List.length_take, mw_len]; omega)
      have HOA := Lib.hid (HT.out.own.below ((Below.refl _ _).alloc (Nat.le_refl _) (.cells #[.int .i64 y] 3)))
      have HSZ : Hid (w3.heap.size ≤ (wr.alloc (.cells #[.int .i64 y] 3)).heap.size) := Lib.hid (by have := HT.out.below.size; simp; omega)
      have HY := Lib.hid hy
      clear hy
      go_wp2_with (at_builtin; refine wpList_append_one rfl _ _ rfl w3.heap.size g k cc _ HKL.out rfl HOA.out wr.heap.size y rfl (cell_one_new _ _ _ 0 _ rfl) (by omega) HSZ.out ?_; intro gb cb w5 o5 hg5 hgb5)
      have HT5 := Two.next hx.out (by rw [← HY.out]; exact Two.more (.int .i64 y) HT o5 hg5 hgb5)
      clear o5 hg5 hgb5
      go_wp2
      go_roundw
      case rel => exact ⟨k + 1, gb, cb, by omega, rfl, by go_num, HT5⟩
      case measure => simp [intOf]; omega
    · obtain rfl : k = s.length := by omega
      have HT2 : Hid (Two w3 wr (w3.heap.size + 1) 0 [] g cc (mw s)) := Lib.hid (by have := HT.out; rw [mw_full] at this; exact this.swap)
      clear HT
      go_wp2
      go_loopw [12, 14] (fun av iv wr => ∃ (k g2 cc2 : Nat), k ≤ b.length ∧ av = .slice (some ⟨g2, 0, none⟩) k cc2 ∧ iv = .int .i64 (k : Int) ∧ Hid (Two w3 wr g2 cc2 ((mw b).take k) g cc (mw s)))
        (fun _ iv _ => b.length - (intOf iv).toNat)
      case atStart => exact ⟨0, w3.heap.size + 1, 0, Nat.zero_le _, rfl, rfl, Lib.hid (by simpa using HT2.out)⟩
      case round =>
        obtain ⟨k, g2, cc2, hk, rfl, rfl, HT⟩ := hrel
        by_cases hlt : k < b.length
        · obtain ⟨bx, ox, x, rfl, _, hx, hcx⟩ := (HRB.out.below HT.out.below).at_ hlt
          obtain ⟨y, hy⟩ : ∃ y, y = fm x := ⟨_, rfl⟩
          have hyw : IntKind.i64.wrap (30 - x) = y := hy.symm
          have HKL : Hid (((mw b).take k).length = k) := Lib.hid (by rw [List.length_take, mw_len]; omega)
          have HOA := Lib.hid (HT.out.own.below ((Below.refl _ _).alloc (Nat.le_refl _) (.cells #[.int .i64 y] 3)))
          have HSZ : Hid (w3.heap.size ≤ (wr.alloc (.cells #[.int .i64 y] 3)).heap.size) := Lib.hid (by have := HT.out.below.size; simp; omega)
          have HY := Lib.hid hy
          clear hy
          go_wp2_with (at_builtin; refine wpList_append_one rfl _ _ rfl w3.heap.size g2 k cc2 _ HKL.out rfl HOA.out wr.heap.size y rfl (cell_one_new _ _ _ 0 _ rfl) (by omega) HSZ.out ?_; intro gb cb w5 o5 hg5 hgb5)
          have HT5 := Two.next hx.out (by rw [← HY.out]; exact Two.more (.int .i64 y) HT o5 hg5 hgb5)
          clear o5 hg5 hgb5
          go_wp2
          go_roundw
          case rel => exact ⟨k + 1, gb, cb, by omega, rfl, by go_num, HT5⟩
          case measure => simp [intOf]; omega
        · obtain rfl : k = b.length := by omega
          have HT3 : Hid (Two w3 wr g2 cc2 (mw b) g cc (mw s)) := Lib.hid (by have := HT.out; rw [mw_full] at this; exact this)
          clear HT
          have HR3 := Lib.hid HT3.out.own.rd
          have HR4 := Lib.hid HT3.out.oth.rd
          have HBL := Lib.hid (HB3.out.trans (HT3.out.below.mono HB3.out.size))
          have hml : (mw s).length = s.length := mw_len s
          have hmb : (mw b).length = b.length := mw_len b
          have HTC := Lib.hid (fun (k : Nat) (u : Int) => TradeGain_cases (mw s) (mw b) (k : Int) u (by rw [hml]; omega) (by rw [hmb]; omega))
          have HTY := Lib.hid (fun (k : Nat) (v : Int) (w2 : World) (hv : (mw s)[k]? = some v) (h1 : vB (mw s) = true) (h2 : vB (mw b) = true) (hr : Rd w2 (some ⟨g, 0, none⟩) cc (mw s)) (hr2 : Rd w2 (some ⟨g2, 0, none⟩) cc2 (mw b)) => (by
            have := TradeGain_yes (some ⟨g, 0, none⟩) (some ⟨g2, 0, none⟩) cc cc2 (mw s) (mw b) k v v w2 hr hr2 h1 h2 hv (bid_in h1 hv)
            rwa [set_self hv, hml, hmb] at this : Calls Try.prog 24 #[.slice (some ⟨g, 0, none⟩) s.length cc, .slice (some ⟨g2, 0, none⟩) b.length cc2, .int .i64 (k : Int), .int .i64 v] w2 (TwoIs w2 (tgF (mw s) (mw b) k v) true)))
          rw [hml, hmb] at HTC
          clear hml hmb
          go_wp2
          go_loopw [15] (fun iv wr' => ∃ k : Nat, k ≤ s.length ∧ iv = .int .i64 (k : Int) ∧ Below wr.heap.size wr wr') (fun iv _ => s.length - (intOf iv).toNat)
          case atStart => exact ⟨0, Nat.zero_le _, rfl, Below.refl _ _⟩
          case round =>
            obtain ⟨k, hk, rfl, hbk⟩ := hrel
            by_cases hlt : k < s.length
            · have HA := Lib.hid (HR4.out.below hbk)
              have HC := Lib.hid (HR3.out.below hbk)
              obtain ⟨ba, oa, z, hA, _, hz, hcz⟩ := HA.out.at_ (k := k) (by rw [mw_len]; exact hlt)
              injection hA with hA
              injection hA with e1 e2
              subst e1 e2
              rcases HTC.out k t with ⟨j, v, hj, hv, hb1, hb2, ht, _, hI⟩ | ⟨_, hI⟩
              · obtain rfl : j = k := by omega
                obtain rfl : v = z := by have := hz.out; rw [hv] at this; exact (Option.some.inj this)
                have hT := (truth_best (s := mw b) hv t).1
                have HY2 := Lib.hid (fun (w2 : World) (hr : Rd w2 (some ⟨g, 0, none⟩) cc (mw s)) (hr2 : Rd w2 (some ⟨g2, 0, none⟩) cc2 (mw b)) => HTY.out j v w2 hv hb1 hb2 hr hr2)
                obtain ⟨gt, hgt⟩ : ∃ q, q = tgF ((mw s).set j t) (mw b) j v := ⟨_, rfl⟩
                obtain ⟨gv, hgv⟩ : ∃ q, q = tgF (mw s) (mw b) j v := ⟨_, rfl⟩
                rw [← hgt] at hI hT
                rw [← hgv] at HY2 hT
                have HI := Lib.hid (hI (some ⟨g, 0, none⟩) cc (some ⟨g2, 0, none⟩) cc2)
                have d1 : decide (gv < gt) = false := decide_eq_false (by omega)
                clear hI hT hgt hgv hb1 hb2 ht hv hz hj
                go_wp2_with fail
                refine (HI.out _ HA.out HC.out).mono ?_
                rintro e w7 ⟨rfl, b7⟩
                have B7 := hbk.trans (b7.mono hbk.size)
                have HA7 := Lib.hid (HA.out.below b7)
                have HC7 := Lib.hid (HC.out.below b7)
                have hcz7 := (b7.cell (p := ⟨g, 0 + j, none⟩) (World.block_lt_of_cell? _ _ hcz)).trans hcz
                clear b7
                rw [Nat.zero_add] at hcz hcz7
                go_wp2_with fail
                refine (HY2.out w7 HA7.out HC7.out).mono ?_
                rintro e w8 ⟨rfl, b8⟩
                have B8 := B7.trans (b8.mono B7.size)
                clear b8
                go_wp2
                go_roundw
                case rel => exact ⟨j + 1, by omega, by go_num, B8⟩
                case measure => simp [intOf]; omega
              · have HI := Lib.hid (hI (some ⟨g, 0, none⟩) cc (some ⟨g2, 0, none⟩) cc2)
                have HZ : Hid (∃ (n : Int) (o : Bool), ∀ w2, Rd w2 (some ⟨g, 0, none⟩) cc (mw s) → Rd w2 (some ⟨g2, 0, none⟩) cc2 (mw b) → Calls Try.prog 24 #[.slice (some ⟨g, 0, none⟩) s.length cc, .slice (some ⟨g2, 0, none⟩) b.length cc2, .int .i64 (k : Int), .int .i64 z] w2 (TwoIs w2 n o)) := Lib.hid (by
                  rcases HTC.out k z with ⟨_, _, _, _, _, _, _, _, h⟩ | ⟨_, h⟩
                  · exact ⟨_, _, fun w2 => h _ _ _ _ w2⟩
                  · exact ⟨_, _, fun w2 => h _ _ _ _ w2⟩)
                obtain ⟨n', o', hZ⟩ := HZ.out
                have HZ' := Lib.hid hZ
                clear hI HZ hZ hz
                go_wp2_with fail
                refine (HI.out _ HA.out HC.out).mono ?_
                rintro e w7 ⟨rfl, b7⟩
                have B7 := hbk.trans (b7.mono hbk.size)
                have HA7 := Lib.hid (HA.out.below b7)
                have HC7 := Lib.hid (HC.out.below b7)
                have hcz7 := (b7.cell (p := ⟨g, 0 + k, none⟩) (World.block_lt_of_cell? _ _ hcz)).trans hcz
                clear b7
                rw [Nat.zero_add] at hcz hcz7
                go_wp2_with fail
                refine (HZ'.out w7 HA7.out HC7.out).mono ?_
                rintro e w8 ⟨rfl, b8⟩
                have B8 := B7.trans (b8.mono B7.size)
                clear b8
                go_wp2
                go_roundw
                case rel => exact ⟨k + 1, by omega, by go_num, B8⟩
                case measure => simp [intOf]; omega
            · obtain rfl : k = s.length := by omega
              go_wp2
              go_ret
              exact ⟨rfl, HBL.out.trans (hbk.mono HBL.out.size)⟩

end Go.Proofs.Ytpildecpabeanaa
