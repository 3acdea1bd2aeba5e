/-
  Chapter 5: both sides of GainTold.
-/
import Derived.Test.YtdbpjlconbifpaaZi
namespace Go.Proofs.Ytdbpjlconbifpaa
open Go.RowKit

/-- What GainTold and GainAsTwo hand back. -/
def GnIs (w : World) (x : Int) (b : Bool) (e : Ending) (w' : World) : Prop := e = .returned (.tuple #[.int .i64 x, .bool b]) ∧ Below w.heap.size w w'

theorem gt_one (ts : List (List Int)) (i : Nat) (t told : List Int) : T t (hasOf (wayF (ts.set i told)) [i]) - paidOf (ts.set i told) [i] = T t (setOf (wayF (ts.set i told)) i) - pvF (ts.set i told) i := by
  simp [hasOf, paidOf]

set_option maxHeartbeats 1000000 in
theorem GainTold_yes (A U : Option Addr) (c d i : Nat) (ts : List (List Int)) (told : List Int) (w : World) (hR : RdR w A c ts) (hT : Rd w U d told) (hTd : told.length ≤ d) (hl2 : ∀ r ∈ ts, r.length ≤ 1099511627776) (hv : VTs ts) (hi : i < ts.length) (ht : VT told) :
    Calls Try.prog 25 #[.slice A ts.length c, .int .i64 i, .slice U told.length d] w (GnIs w (gtF ts i told) true) := by
  have h1l : 1 ≤ ts.length := hv.1.1
  have h4 : ts.length ≤ 4 := hv.1.2
  have HB := Lib.hid (hasBidder_any A c ts i w hR hl2)
  have hbt : hbB ts i = true := by unfold hbB; rw [vtsB_true hv, Bool.true_and]; exact inR_true.2 (by omega)
  rw [hbt] at HB
  have HVT := Lib.hid (fun (W : World) (hW : Below w.heap.size w W) => ValidTable_any U d told W (hT.below hW) (by have := ht.1; omega))
  rw [vt_true ht] at HVT
  obtain ⟨b, off, rfl, hcapR, hrows⟩ := hR.open_ h1l
  have HSB := Lib.hid (fun (W : World) (hW : Below w.heap.size w W) => saidBy_any b off c i ts.length d told.length U ts told W rfl rfl (hR.below hW) (hT.below hW) hTd hi (by omega))
  obtain ⟨A0, c0, hc0, hcap0, hrd0⟩ := hrows i _ (List.getElem?_eq_getElem hi)
  obtain ⟨r, hr⟩ : ∃ r, r = ts[i] := ⟨_, rfl⟩
  rw [← hr] at hc0 hcap0 hrd0
  have hgd : ts.getD i [] = r := by rw [List.getD_eq_getElem?_getD, List.getElem?_eq_getElem hi, hr]; rfl
  have hrt : VT r := by rw [hr]; exact hv.2 _ (List.getElem_mem hi)
  obtain ⟨b0, off0, rfl⟩ := hrd0.some_ hrt.1
  rw [hrt.1] at hc0
  have HGU := Lib.hid (fun (W : World) (hW : Below w.heap.size w W) (g5 c5 gN : Nat) (hs : RdR W (some ⟨g5, 0, none⟩) c5 (ts.set i told)) (hN : Rd W (some ⟨gN, 0, none⟩) 1 [(i : Int)]) =>
    gainUnder_any (some ⟨b0, off0, none⟩) (some ⟨g5, 0, none⟩) (some ⟨gN, 0, none⟩) c0 c5 1 ts.length 1 r (ts.set i told) [i] W (by simp) rfl (hrd0.below hW) hs hN hrt (hv.set_ i ht) (fun j hj => by rw [List.mem_singleton.1 hj]; exact hi) (by omega))
  have HE : Hid (gtF ts i told = T r (hasOf (wayF (ts.set i told)) [i]) - paidOf (ts.set i told) [i]) := Lib.hid (by unfold gtF; rw [hgd, gt_one])
  obtain ⟨G, hG⟩ : ∃ G, G = gtF ts i told := ⟨_, rfl⟩
  rw [← hG] at HE ⊢
  rw [← HE.out] at HGU
  have HSL : Hid ((ts.set i told).length = ts.length) := Lib.hid (by simp)
  have hblk := World.block_lt_of_cell? w _ hc0
  have hi0 : (0 : Int) ≤ (i : Int) := by omega
  have hi1 : (i : Int) < (ts.length : Int) := by omega
  clear hR hT hl2 hv ht hrows hrd0 hr hgd hrt hG hbt hcap0 HE
  go_enter Try.func25, Try.ntmps25
  go_wp2_with fail
  refine HB.out.mono ?_
  rintro e w1 ⟨rfl, b1⟩
  go_wp2_with fail
  refine (HVT.out w1 b1).mono ?_
  rintro e w2 ⟨rfl, b2⟩
  have B2 := b1.trans (b2.mono b1.size)
  have hbd : Below w.heap.size w w2.drew := below_drewN' B2 1
  have HKC := Lib.hid (fun (W : World) (hW : Below w.heap.size w W) => (hW.cell (p := ⟨b, off + i, none⟩) hblk).trans hc0)
  have hK0 := HKC.out _ hbd
  have hB1 := hbd.alloc hbd.size (.cells #[.int .i64 (i : Int)] 3)
  have hK1 := HKC.out _ hB1
  have HN1 := Lib.hid (ints_one w2.drew (i : Int))
  clear hc0 b1 b2
  go_wp2_with fail
  go_region_held3 (fun W => W.cell? ⟨b, off + i, none⟩ = some (.slice (some ⟨b0, off0, none⟩) 8 c0))
    (first | exact hK0 | exact hK1 | exact hK5 | exact hKX | exact hK7 | fail)
    (first
    | (go_at_call 55; refine (HSB.out w2.drew hbd).mono ?_; rintro e w5 ⟨g5, c5, vs5, rfl, o5, v5, b5⟩; have B5 := hbd.trans (b5.mono hbd.size); have hK5 := HKC.out w5 B5; have hal := (Below.refl w5.heap.size w5).alloc (Nat.le_refl _) (.cells #[.int .i64 (i : Int)] 3); have BX := B5.trans (hal.mono B5.size); have hKX := HKC.out _ BX; have HS := Lib.hid ((CopyIs.shape_ o5 v5 HSL.out b5).below hal); have HNN := Lib.hid (ints_one w5 (i : Int)))
    | (go_at_call 55; refine (HSB.out _ hB1).mono ?_; rintro e w5 ⟨g5, c5, vs5, rfl, o5, v5, b5⟩; have BX := hB1.trans (b5.mono hB1.size); have hKX := HKC.out w5 BX; have HS := Lib.hid (CopyIs.shape_ o5 v5 HSL.out b5); have HNN := Lib.hid (HN1.out.below b5))
    | (go_at_call 54; refine (HGU.out _ BX g5 c5 _ HS.out HNN.out).mono ?_; rintro e w7 ⟨rfl, b7⟩; have B7 := BX.trans (b7.mono BX.size); have hK7 := HKC.out _ B7)
    | fail)
  all_goals
    go_wp2
    go_ret2
    exact ⟨rfl, B7⟩

end Go.Proofs.Ytdbpjlconbifpaa
