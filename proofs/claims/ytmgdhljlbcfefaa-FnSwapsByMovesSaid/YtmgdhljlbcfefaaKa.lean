/-
  The laws of chapter 6: the draws of one table; the walks of FnIsSum, FnIsOne, FnSwapsByMoves.
-/
import Derived.Test.YtmgdhljlbcfefaaQg
import Derived.Test.YtmgdhljlbcfefaaWl
import Derived.Test.YtmgdhljlbcfefaaJp
namespace Go.Proofs.Ytmgdhljlbcfefaa
open Go.RowKit Go.Lib

theorem DrawIsSum_any (A : Option Addr) (c : Nat) (xs : List Int) (w : World) (h : Came .u8 w A c xs) :
    Calls Try.prog 12 #[.slice A xs.length c] w (DrawnT w) := by
  go_enter Try.func12, Try.ntmps12
  go_wp2_with fail
  refine (newReader_any A c xs w h).mono ?_
  rintro e w1 ⟨rb, rfl, hrb, hr1, hb1⟩
  go_wp2_with fail
  refine (someTable_any rb 0 w1 hr1 (by decide)).mono ?_
  rintro e w2 ⟨g, c2, t, rfl, ht, o2, _, hg2⟩
  have HB := Lib.hid (hb1.trans (gb_below hg2 hb1.size hrb))
  clear hg2
  go_wp2
  go_ret
  exact ⟨g, c2, t, rfl, o2.rd, ht, o2.cap.1, HB.out⟩

theorem DrawIsOne_any (A : Option Addr) (c : Nat) (xs : List Int) (w : World) (h : Came .u8 w A c xs) :
    Calls Try.prog 17 #[.slice A xs.length c] w (DrawnT w) := by
  go_enter Try.func17, Try.ntmps17
  go_wp2_with fail
  refine (newReader_any A c xs w h).mono ?_
  rintro e w1 ⟨rb, rfl, hrb, hr1, hb1⟩
  go_wp2_with fail
  refine (someTable_any rb 0 w1 hr1 (by decide)).mono ?_
  rintro e w2 ⟨g, c2, t, rfl, ht, o2, _, hg2⟩
  have HB := Lib.hid (hb1.trans (gb_below hg2 hb1.size hrb))
  clear hg2
  go_wp2
  go_ret
  exact ⟨g, c2, t, rfl, o2.rd, ht, o2.cap.1, HB.out⟩

theorem DrawSwapsByMoves_any (A : Option Addr) (c : Nat) (xs : List Int) (w : World) (h : Came .u8 w A c xs) :
    Calls Try.prog 35 #[.slice A xs.length c] w (DrawnT w) := by
  go_enter Try.func35, Try.ntmps35
  go_wp2_with fail
  refine (newReader_any A c xs w h).mono ?_
  rintro e w1 ⟨rb, rfl, hrb, hr1, hb1⟩
  go_wp2_with fail
  refine (someTable_any rb 0 w1 hr1 (by decide)).mono ?_
  rintro e w2 ⟨g, c2, t, rfl, ht, o2, _, hg2⟩
  have HB := Lib.hid (hb1.trans (gb_below hg2 hb1.size hrb))
  clear hg2
  go_wp2
  go_ret
  exact ⟨g, c2, t, rfl, o2.rd, ht, o2.cap.1, HB.out⟩

theorem DrawSwapsByThrees_any (A : Option Addr) (c : Nat) (xs : List Int) (w : World) (h : Came .u8 w A c xs) :
    Calls Try.prog 39 #[.slice A xs.length c] w (DrawnT w) := by
  go_enter Try.func39, Try.ntmps39
  go_wp2_with fail
  refine (newReader_any A c xs w h).mono ?_
  rintro e w1 ⟨rb, rfl, hrb, hr1, hb1⟩
  go_wp2_with fail
  refine (someTable_any rb 0 w1 hr1 (by decide)).mono ?_
  rintro e w2 ⟨g, c2, t, rfl, ht, o2, _, hg2⟩
  have HB := Lib.hid (hb1.trans (gb_below hg2 hb1.size hrb))
  clear hg2
  go_wp2
  go_ret
  exact ⟨g, c2, t, rfl, o2.rd, ht, o2.cap.1, HB.out⟩

theorem byB_iff {t : List Int} {V : Nat → Int} : byB t V = true ↔ VT t ∧ ∀ s, s < 8 → T t s = V s := by unfold byB; simp only [decide_eq_true_eq]
theorem sum_goods {t : List Int} (h : byB t (fun s => sumAl t s 3) = true) : mdB t = true ∧ mvB t = true := by
  obtain ⟨hv, h1⟩ := byB_iff.1 h
  have m := sum_mv hv h1
  exact ⟨mdB_true hv m.modTri.1, mvB_true hv (m.mv hv)⟩
theorem one_goods {t : List Int} (h : byB t (fun s => mostAl t s 3) = true) : mdB t = true ∧ mvB t = true := by
  obtain ⟨hv, h1⟩ := byB_iff.1 h
  have m := one_mv hv h1
  exact ⟨mdB_true hv m.modTri.1, mvB_true hv (m.mv hv)⟩

set_option maxHeartbeats 1600000 in
set_option maxRecDepth 100000 in
theorem fnIsSum_walk {A : Option Addr} {c : Nat} {xs : List Int} {w : World} (h : Came .u8 w A c xs) :
    Calls Try.prog 3 #[.slice A xs.length c] w fun e w' => e = .returned (.bool true) ∧ Below w.heap.size w w' := by
  by_cases hlen : 1048576 < xs.length
  · go_enter Try.func3, Try.ntmps3
    go_wp2
    go_ret
    exact ⟨rfl, Below.refl _ _⟩
  have hl1 : xs.length ≤ 1048576 := by omega
  have HD := Lib.hid (DrawIsSum_any A c xs w h)
  clear hlen h
  go_enter Try.func3, Try.ntmps3
  go_wp2_with fail
  refine HD.out.mono ?_
  rintro e w1 ⟨g, c1, t, rfl, hR, ht8, htc, b1⟩
  have hI := fun w' (h : Rd w' (some ⟨g, 0, none⟩) c1 t) => IsSum_any (some ⟨g, 0, none⟩) c1 t w' h (by omega)
  have hS := fun w' (h : Rd w' (some ⟨g, 0, none⟩) c1 t) => SIsSum_any (some ⟨g, 0, none⟩) c1 t w' h (by omega)
  have hM := fun w' (h : Rd w' (some ⟨g, 0, none⟩) c1 t) => IsModest_any (some ⟨g, 0, none⟩) c1 t w' h (by omega)
  have hW := fun w' (h : Rd w' (some ⟨g, 0, none⟩) c1 t) => SwapsByMoves_any (some ⟨g, 0, none⟩) c1 t w' h (by omega)
  rcases hb : byB t (fun s => sumAl t s 3) with _ | _
  · rw [hb] at hI hS
    have HI := Lib.hid hI
    have HS := Lib.hid hS
    clear hI hS hM hW hb HD
    go_wp2_with fail
    refine (HI.out w1 hR).mono ?_
    rintro e w2 ⟨rfl, b2⟩
    go_wp2_with fail
    refine (HS.out _ (hR.below b2)).mono ?_
    rintro e w3 ⟨rfl, b3⟩
    go_wp2_with fail
    refine (HS.out _ ((hR.below b2).below b3)).mono ?_
    rintro e w4 ⟨rfl, b4⟩
    go_wp2
    go_ret
    exact ⟨rfl, below_then b1 (b2.trans ((b3.trans (b4.mono b3.size)).mono b2.size))⟩
  · obtain ⟨h1, h2⟩ := sum_goods hb
    rw [hb] at hI hS
    rw [h1] at hM
    rw [h2] at hW
    have HI := Lib.hid hI
    have HS := Lib.hid hS
    have HM := Lib.hid hM
    have HW := Lib.hid hW
    clear hI hS hM hW hb HD h1 h2
    go_wp2_with fail
    refine (HI.out w1 hR).mono ?_
    rintro e w2 ⟨rfl, b2⟩
    go_wp2_with fail
    refine (HS.out _ (hR.below b2)).mono ?_
    rintro e w3 ⟨rfl, b3⟩
    go_wp2_with fail
    refine (HM.out _ ((hR.below b2).below b3)).mono ?_
    rintro e w4 ⟨rfl, b4⟩
    go_wp2_with fail
    refine (HW.out _ (((hR.below b2).below b3).below b4)).mono ?_
    rintro e w5 ⟨rfl, b5⟩
    go_wp2
    go_ret
    exact ⟨rfl, below_then (below_then (below_then (below_then b1 b2) b3) b4) b5⟩

set_option maxHeartbeats 1600000 in
set_option maxRecDepth 100000 in
theorem fnIsOne_walk {A : Option Addr} {c : Nat} {xs : List Int} {w : World} (h : Came .u8 w A c xs) :
    Calls Try.prog 4 #[.slice A xs.length c] w fun e w' => e = .returned (.bool true) ∧ Below w.heap.size w w' := by
  by_cases hlen : 1048576 < xs.length
  · go_enter Try.func4, Try.ntmps4
    go_wp2
    go_ret
    exact ⟨rfl, Below.refl _ _⟩
  have hl1 : xs.length ≤ 1048576 := by omega
  have HD := Lib.hid (DrawIsOne_any A c xs w h)
  clear hlen h
  go_enter Try.func4, Try.ntmps4
  go_wp2_with fail
  refine HD.out.mono ?_
  rintro e w1 ⟨g, c1, t, rfl, hR, ht8, htc, b1⟩
  have hI := fun w' (h : Rd w' (some ⟨g, 0, none⟩) c1 t) => IsOne_any (some ⟨g, 0, none⟩) c1 t w' h (by omega)
  have hS := fun w' (h : Rd w' (some ⟨g, 0, none⟩) c1 t) => SIsOne_any (some ⟨g, 0, none⟩) c1 t w' h (by omega)
  have hM := fun w' (h : Rd w' (some ⟨g, 0, none⟩) c1 t) => IsModest_any (some ⟨g, 0, none⟩) c1 t w' h (by omega)
  have hW := fun w' (h : Rd w' (some ⟨g, 0, none⟩) c1 t) => SwapsByMoves_any (some ⟨g, 0, none⟩) c1 t w' h (by omega)
  rcases hb : byB t (fun s => mostAl t s 3) with _ | _
  · rw [hb] at hI hS
    have HI := Lib.hid hI
    have HS := Lib.hid hS
    clear hI hS hM hW hb HD
    go_wp2_with fail
    refine (HI.out w1 hR).mono ?_
    rintro e w2 ⟨rfl, b2⟩
    go_wp2_with fail
    refine (HS.out _ (hR.below b2)).mono ?_
    rintro e w3 ⟨rfl, b3⟩
    go_wp2_with fail
    refine (HS.out _ ((hR.below b2).below b3)).mono ?_
    rintro e w4 ⟨rfl, b4⟩
    go_wp2
    go_ret
    exact ⟨rfl, below_then b1 (b2.trans ((b3.trans (b4.mono b3.size)).mono b2.size))⟩
  · obtain ⟨h1, h2⟩ := one_goods hb
    rw [hb] at hI hS
    rw [h1] at hM
    rw [h2] at hW
    have HI := Lib.hid hI
    have HS := Lib.hid hS
    have HM := Lib.hid hM
    have HW := Lib.hid hW
    clear hI hS hM hW hb HD h1 h2
    go_wp2_with fail
    refine (HI.out w1 hR).mono ?_
    rintro e w2 ⟨rfl, b2⟩
    go_wp2_with fail
    refine (HS.out _ (hR.below b2)).mono ?_
    rintro e w3 ⟨rfl, b3⟩
    go_wp2_with fail
    refine (HM.out _ ((hR.below b2).below b3)).mono ?_
    rintro e w4 ⟨rfl, b4⟩
    go_wp2_with fail
    refine (HW.out _ (((hR.below b2).below b3).below b4)).mono ?_
    rintro e w5 ⟨rfl, b5⟩
    go_wp2
    go_ret
    exact ⟨rfl, below_then (below_then (below_then (below_then b1 b2) b3) b4) b5⟩

set_option maxHeartbeats 1600000 in
set_option maxRecDepth 100000 in
theorem fnSwapsByMoves_walk {A : Option Addr} {c : Nat} {xs : List Int} {w : World} (h : Came .u8 w A c xs) :
    Calls Try.prog 8 #[.slice A xs.length c] w fun e w' => e = .returned (.bool true) ∧ Below w.heap.size w w' := by
  by_cases hlen : 1048576 < xs.length
  · go_enter Try.func8, Try.ntmps8
    go_wp2
    go_ret
    exact ⟨rfl, Below.refl _ _⟩
  have hl1 : xs.length ≤ 1048576 := by omega
  have HD := Lib.hid (DrawSwapsByMoves_any A c xs w h)
  clear hlen h
  go_enter Try.func8, Try.ntmps8
  go_wp2_with fail
  refine HD.out.mono ?_
  rintro e w1 ⟨g, c1, t, rfl, hR, ht8, htc, b1⟩
  have hI := fun w' (h : Rd w' (some ⟨g, 0, none⟩) c1 t) => SwapsByMoves_any (some ⟨g, 0, none⟩) c1 t w' h (by omega)
  have hS := fun w' (h : Rd w' (some ⟨g, 0, none⟩) c1 t) => SSwapsByMoves_any (some ⟨g, 0, none⟩) c1 t w' h (by omega)
  have hV := fun w' (h : Rd w' (some ⟨g, 0, none⟩) c1 t) => ValidTable_any (some ⟨g, 0, none⟩) c1 t w' h (by omega)
  have hT := fun w' (h : Rd w' (some ⟨g, 0, none⟩) c1 t) => SwapsByThrees_any (some ⟨g, 0, none⟩) c1 t w' h (by omega)
  have hM := fun w' (h : Rd w' (some ⟨g, 0, none⟩) c1 t) => IsModest_any (some ⟨g, 0, none⟩) c1 t w' h (by omega)
  rw [thB_mvB] at hT
  rcases hb : mvB t with _ | _
  · rw [hb] at hI hS hT
    have HI := Lib.hid hI
    have HS := Lib.hid hS
    have HV := Lib.hid hV
    have HT := Lib.hid hT
    clear hI hS hV hT hM hb HD
    go_wp2_with fail
    refine (HI.out w1 hR).mono ?_
    rintro e w2 ⟨rfl, b2⟩
    go_wp2_with fail
    refine (HS.out _ (hR.below b2)).mono ?_
    rintro e w3 ⟨rfl, n3, rfl⟩
    have r3 := (hR.below b2).drewN n3
    have B3 := below_drewN' (below_then b1 b2) n3
    rcases hvt : vt t with _ | _
    · rw [hvt] at HV
      clear hvt
      go_wp2_with fail
      refine (HV.out _ r3).mono ?_
      rintro e w4 ⟨rfl, b4⟩
      go_wp2_with fail
      refine (HS.out _ (r3.below b4)).mono ?_
      rintro e w5 ⟨rfl, n5, rfl⟩
      go_wp2
      go_ret
      exact ⟨rfl, below_drewN' (below_then B3 b4) n5⟩
    · rw [hvt] at HV
      clear hvt
      go_wp2_with fail
      refine (HV.out _ r3).mono ?_
      rintro e w4 ⟨rfl, b4⟩
      go_wp2_with fail
      refine (HT.out _ (r3.below b4)).mono ?_
      rintro e w5 ⟨rfl, b5⟩
      go_wp2
      go_ret
      exact ⟨rfl, below_then (below_then B3 b4) b5⟩
  · obtain ⟨hv, hm⟩ := mvB_iff.1 hb
    rw [hb] at hI hS hT
    rw [vt_true hv] at hV
    rw [mdB_true hv ((mv_iff hv).1 hm).1] at hM
    have HI := Lib.hid hI
    have HS := Lib.hid hS
    have HV := Lib.hid hV
    have HT := Lib.hid hT
    have HM := Lib.hid hM
    clear hI hS hV hT hM hb HD hv hm
    go_wp2_with fail
    refine (HI.out w1 hR).mono ?_
    rintro e w2 ⟨rfl, b2⟩
    go_wp2_with fail
    refine (HS.out _ (hR.below b2)).mono ?_
    rintro e w3 ⟨rfl, n3, rfl⟩
    have r3 := (hR.below b2).drewN n3
    have B3 := below_drewN' (below_then b1 b2) n3
    go_wp2_with fail
    refine (HV.out _ r3).mono ?_
    rintro e w4 ⟨rfl, b4⟩
    go_wp2_with fail
    refine (HT.out _ (r3.below b4)).mono ?_
    rintro e w5 ⟨rfl, b5⟩
    go_wp2_with fail
    refine (HM.out _ ((r3.below b4).below b5)).mono ?_
    rintro e w6 ⟨rfl, b6⟩
    go_wp2
    go_ret
    exact ⟨rfl, below_then (below_then (below_then B3 b4) b5) b6⟩

end Go.Proofs.Ytmgdhljlbcfefaa
