/-
  Chapter 7: whether some sets clear at prices, by the model: clearing, IsClear.
-/
import Derived.Test.YtfjncipekjnbjabLf
namespace Go.Proofs.Ytfjncipekjnbjab
open Go.RowKit

set_option maxRecDepth 100000 in
set_option maxHeartbeats 4000000 in
theorem Sclearing_any (A B : Option Addr) (c d n : Nat) (ts : List (List Int)) (p : List Int) (w : World) (h : RdR w A c ts) (g : Rd w B d p) (hv : VTs ts) (hp : VP p) (hn : ts.length = n) :
    Calls Try.prog 74 #[.slice A n c, .slice B 3 d] w fun e w' => e = .returned (.bool (icB ts p)) ∧ Below w.heap.size w w' := by
  have hn1 : 1 ≤ n := by have := hv.1; omega
  have hn4 : n ≤ 4 := by have := hv.1; omega
  have HYES := Lib.hid (fun (os : List Int) (hc : ClE ts p os) => ic_yes hv hp hc)
  have HNO := Lib.hid (fun (L : List (List Int)) (hd : DoneTo n L none) (hc : ∀ os ∈ L, ¬ ClE ts p os) => ic_no hv hp (by rw [hn]; have hd' : allF (n : Int) (List.replicate 3 0) = L := hd; rw [hd']; exact hc))
  have HCL := Lib.hid (fun (C : Option Addr) (f : Nat) (os : List Int) (W : World) (h : RdR W A c ts) (g : Rd W B d p) (r : Rd W C f (setsF os n)) => Sclears_any A B C c d f n ts p os W h g r hv.2 hp hn hn4)
  clear hv hp hn
  go_enter Try.func74, Try.ntmps74
  go_wp2_with (at_make; refine wpList_make_ints rfl _ _ rfl w.heap.size 3 rfl rfl (by omega) (Nat.le_refl _) ?_; intro w1 o1 b1)
  have OY0 : Hid (Own w1 w.heap.size (some ⟨w.heap.size, 0, none⟩) 3 (List.replicate 3 0)) := Lib.hid o1
  clear o1
  go_loopw [6] (fun ow wr => ∃ (L : List (List Int)), Below w.heap.size w wr ∧ Hid (∀ os ∈ L, ¬ ClE ts p os) ∧
      ((∃ g c ys, ow = .slice (some ⟨g, 0, none⟩) 3 c ∧ Hid (Own wr w.heap.size (some ⟨g, 0, none⟩) c ys) ∧ Hid (StL n L ys)) ∨ (ow = .slice none 0 0 ∧ Hid (DoneTo n L none))))
    (fun ow wr => roundsLeft n wr ow)
  case atStart => exact ⟨[], b1, Lib.hid (fun _ h => absurd h (by simp)), .inl ⟨_, _, List.replicate 3 0, rfl, OY0, Lib.hid (StL.start n)⟩⟩
  case round =>
    clear OY0 b1
    obtain ⟨L, hb, HNC, ⟨g1, c1, ys, rfl, HOY, HST⟩ | ⟨rfl, HD⟩⟩ := hrel
    · have hy3 := HST.out.2.1.1
      have HL := Lib.hid (left3_own (top := (n : Int)) HOY.out hy3)
      have HF := Lib.hid HST.out.2.1
      have HFB := Lib.hid HF.out.2
      have HSO := Lib.hid (SsetsOf_any (some ⟨g1, 0, none⟩) c1 n ys wr HOY.out.rd HF.out hn1 hn4)
      have hr1 := h.below hb
      have gr1 := g.below hb
      have HY3 := Lib.hid hy3
      clear hy3
      go_wp2_with fail
      refine HSO.out.mono ?_
      rintro e w2 ⟨g2, c2, rfl, o2, b2⟩
      have HB2 : Hid (Below w.heap.size w w2) := Lib.hid (hb.trans (b2.mono hb.size))
      have HC2 := Lib.hid (HCL.out (some ⟨g2, 0, none⟩) c2 ys w2 (hr1.below b2) (gr1.below b2) o2.rd)
      have HOY2 := Lib.hid (HOY.out.below b2)
      clear HOY b2 o2 HSO hr1 gr1 hb
      rcases hcb : clB ts p ys with _ | _
      · have HN1 : Hid (∀ os ∈ L ++ [ys], ¬ ClE ts p os) := Lib.hid (fun os hos => by
          rcases List.mem_append.1 hos with h1 | h1
          · exact HNC.out os h1
          · obtain rfl : os = ys := by simpa using h1
            exact fun hh => by rw [clB_true hh] at hcb; cases hcb)
        rw [hcb] at HC2
        clear hcb
        go_wp2_with fail
        refine HC2.out.mono ?_
        rintro e w3 ⟨rfl, m3, rfl⟩
        have O3 := Lib.hid (HOY2.out.drewN m3)
        have B3 := Lib.hid (below_drewN' HB2.out m3)
        clear HOY2 HC2
        go_wp2_with fail
        refine (next_n (m := 3) (some ⟨g1, 0, none⟩) c1 ys n _ HY3.out (O3.out).rd (by omega) (by omega) (by omega) HFB.out).mono ?_
        rintro e w4 (⟨zs, g3, c3, HN, rfl, o3, b4⟩ | ⟨HN, rfl, b4⟩)
        · have HS4 := Lib.hid (HST.out.next HN)
          have hz3 := HS4.out.2.1.1
          have HL3 := Lib.hid (HF.out.next HN).2
          have B4 := B3.out.trans (b4.mono B3.out.size)
          have O4 := Lib.hid (o3.base B3.out.size)
          clear HN o3 b4
          rw [hz3]
          go_wp2
          go_roundw
          case rel => exact ⟨L ++ [ys], B4, HN1, .inl ⟨g3, c3, zs, rfl, O4, HS4⟩⟩
          case measure => rw [HL.out, left3_own O4.out hz3]; have := HL3.out; omega
        · have HS4 := Lib.hid (HST.out.last HN)
          have B4 := B3.out.trans (b4.mono B3.out.size)
          clear HN b4
          go_wp2
          go_roundw
          case rel => exact ⟨L ++ [ys], B4, HN1, .inr ⟨rfl, HS4⟩⟩
          case measure => rw [HL.out, roundsLeft_nil]; omega
      · have HE := Lib.hid (HYES.out ys (clB_iff.1 hcb))
        rw [hcb] at HC2
        clear hcb
        go_wp2_with fail
        refine HC2.out.mono ?_
        rintro e w3 ⟨rfl, m3, rfl⟩
        go_wp2
        go_ret
        exact ⟨by rw [HE.out]; rfl, below_drewN' HB2.out m3⟩
    · have HE := Lib.hid (HNO.out L HD.out HNC.out)
      go_wp2
      go_ret
      exact ⟨by rw [HE.out]; rfl, hb⟩

/-- What IsClear tells. -/
noncomputable def isB (ts : List (List Int)) (p : List Int) : Bool := vtsB ts && vp p && icB ts p

set_option maxHeartbeats 800000 in
theorem SIsClear_any (A B : Option Addr) (c d : Nat) (ts : List (List Int)) (p : List Int) (w : World) (h : RdR w A c ts) (g : Rd w B d p) (hl : ts.length ≤ 1099511627776) (hl2 : ∀ r ∈ ts, r.length ≤ 1099511627776) (gl : p.length ≤ 1099511627776) :
    Calls Try.prog 52 #[.slice A ts.length c, .slice B p.length d] w fun e w' => e = .returned (.bool (isB ts p)) ∧ Below w.heap.size w w' := by
  have HV := Lib.hid (SvalidTables_any A c ts w h hl hl2)
  have HQ := Lib.hid (fun w1 (g : Rd w1 B d p) => SvalidPrices_any B d p w1 g gl)
  rcases hv : vtsB ts with _ | _
  · have HE : Hid (isB ts p = false) := Lib.hid (by unfold isB; rw [hv]; rfl)
    rw [hv] at HV
    clear hv
    go_enter Try.func52, Try.ntmps52
    go_wp2_with fail
    refine HV.out.mono ?_
    rintro e w1 ⟨rfl, n, rfl⟩
    go_wp2
    go_ret
    exact ⟨by rw [HE.out]; rfl, below_drewN' (Below.refl _ _) n⟩
  rcases hp : vp p with _ | _
  · have HE : Hid (isB ts p = false) := Lib.hid (by unfold isB; rw [hv, hp]; rfl)
    rw [hv] at HV
    rw [hp] at HQ
    clear hv hp
    go_enter Try.func52, Try.ntmps52
    go_wp2_with fail
    refine HV.out.mono ?_
    rintro e w1 ⟨rfl, n, rfl⟩
    go_wp2_with fail
    refine (HQ.out _ (g.drewN _)).mono ?_
    rintro e w1 ⟨rfl, m, rfl⟩
    go_wp2
    go_ret
    exact ⟨by rw [HE.out]; rfl, below_drewN' (Below.refl _ _) (n + m)⟩
  · have HE : Hid (isB ts p = icB ts p) := Lib.hid (by unfold isB; rw [hv, hp]; rfl)
    have hvt := vtsB_iff.1 hv
    have hvp := vp_iff.1 hp
    have HL := Lib.hid (fun w1 (h : RdR w1 A c ts) (g : Rd w1 B d p) => Sclearing_any A B c d ts.length ts p w1 h g hvt hvp rfl)
    have h3 := hvp.1
    rw [hv] at HV
    rw [hp] at HQ
    rw [h3] at HQ ⊢
    clear hv hp hvt hvp h3
    go_enter Try.func52, Try.ntmps52
    go_wp2_with fail
    refine HV.out.mono ?_
    rintro e w1 ⟨rfl, n, rfl⟩
    go_wp2_with fail
    refine (HQ.out _ (g.drewN _)).mono ?_
    rintro e w1 ⟨rfl, m, rfl⟩
    go_wp2_with fail
    refine (HL.out _ (h.drewN _) (g.drewN _)).mono ?_
    rintro e w1 ⟨rfl, b1⟩
    go_wp2
    go_ret
    exact ⟨by rw [HE.out]; simp, (below_drewN' (Below.refl _ _) (n + m)).trans b1⟩

end Go.Proofs.Ytfjncipekjnbjab
