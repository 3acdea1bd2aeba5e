/-
  Chapter 1, the model: the contract of sale.
-/
import Derived.Test.YtoipjhdnmiomeaaSpecB
namespace Go.Proofs.Ytoipjhdnmiomeaa
open Go.RowKit

/-- The word s is the kind kd. -/
def KindIs (s : ByteArray) (kd : Nat) : Prop :=
  (kd = 1 ∧ s = ⟨#[102, 105, 114, 115, 116]⟩) ∨ (kd = 2 ∧ s = ⟨#[115, 101, 99, 111, 110, 100]⟩) ∨ (kd = 3 ∧ s = ⟨#[116, 104, 105, 114, 100]⟩) ∨ (kd = 4 ∧ s = ⟨#[97, 108, 108]⟩)

/-- What a sale hands back. -/
def SaleIs (w : World) (xs : List Int) (kd : Nat) (r : Int) (e : Ending) (w' : World) : Prop :=
  ∃ g c, e = .returned (.tuple #[.int .i64 (atOf xs r), .slice (some ⟨g, 0, none⟩) xs.length c]) ∧ Own w' w.heap.size (some ⟨g, 0, none⟩) c (payOf kd xs r) ∧ Below w.heap.size w w'

theorem nth_1 (A : Option Addr) (c : Nat) (xs : List Int) (w : World) (h : Rd w A c xs) (hl : xs.length ≤ 1048576) :
    Calls Try.prog 91 #[.slice A xs.length c, .int .i64 1] w fun e w' => e = .returned (.int .i64 (nthG 1 xs)) ∧ Below w.heap.size w w' := nth_any A c xs 1 w h hl (by decide)
theorem nth_2 (A : Option Addr) (c : Nat) (xs : List Int) (w : World) (h : Rd w A c xs) (hl : xs.length ≤ 1048576) :
    Calls Try.prog 91 #[.slice A xs.length c, .int .i64 2] w fun e w' => e = .returned (.int .i64 (nthG 2 xs)) ∧ Below w.heap.size w w' := nth_any A c xs 2 w h hl (by decide)

set_option maxHeartbeats 2000000 in
theorem sale_any (s : ByteArray) (kd : Nat) (A : Option Addr) (c : Nat) (xs : List Int) (r : Int) (w : World) (hk : KindIs s kd) (h : Rd w A c xs) (h1 : 1 ≤ xs.length) (hl : xs.length ≤ 1048576) :
    Calls Try.prog 69 #[.string s, .slice A xs.length c, .int .i64 r] w (SaleIs w xs kd r) := by
  have hl2 : xs.length ≤ 1099511627776 := by omega
  obtain ⟨m, hM⟩ : ∃ m, m = gr xs xs.length := ⟨_, rfl⟩
  have hm : m < xs.length := by rw [hM]; exact gr_lt xs xs.length h1
  obtain ⟨x, hx⟩ := at_some hm
  obtain ⟨b, off, rfl, hcell⟩ := h.open_ h1
  have hcx := hcell m x hx
  have hX : xs.getD (gr xs xs.length) 0 = x := by rw [← hM, getD_of hx]
  have hbl := World.block_lt_of_cell? w _ hcx
  have HM := Lib.hid hM
  have HX := Lib.hid hX
  clear hX hM hx hcell
  rcases hk with ⟨rfl, rfl⟩ | ⟨rfl, rfl⟩ | ⟨rfl, rfl⟩ | ⟨rfl, rfl⟩
  · by_cases hlt : x < r
    · have HP : Hid (payOf 1 xs r = List.replicate xs.length 0) := Lib.hid (payOf_none (by decide) (by rw [HX.out]; exact hlt))
      have HA : Hid (atOf xs r = -1) := Lib.hid (atOf_none (by rw [HX.out]; exact hlt))
      go_enter Try.func69, Try.ntmps69
      go_wp2_with (at_make; refine wpList_make_ints rfl _ _ rfl w.heap.size xs.length rfl rfl hl2 (Nat.le_refl _) ?_; intro w0 ho hb)
      refine (greatest_is _ _ _ _ HM.out (h.below hb) h1 hl2).mono ?_
      rintro e w2 ⟨rfl, q, rfl⟩
      have hcx' : w0.cell? ⟨b, off + m, none⟩ = some (.int .i64 x) := (hb.cell (p := ⟨b, off + m, none⟩) hbl).trans hcx
      have hz : w0.cell? ⟨w.heap.size, m, none⟩ = some (.int .i64 0) := ho.cell (by simp [hm])
      have hf := ho.free m
      have HS := fun v => (ho.drewN q).set_ m v
      clear HS
      go_wp2
      go_ret2
      exact ⟨_, _, by rw [HA.out]; rfl, by rw [HP.out]; exact ho, below_drewN' hb q⟩
    · have HP : Hid (payOf 1 xs r = (List.replicate xs.length 0).set m x) := Lib.hid (by rw [payOf_first (by rw [HX.out]; exact hlt), HX.out, HM.out])
      have HA : Hid (atOf xs r = m) := Lib.hid (by rw [atOf_some (by rw [HX.out]; exact hlt), HM.out])
      go_enter Try.func69, Try.ntmps69
      go_wp2_with (at_make; refine wpList_make_ints rfl _ _ rfl w.heap.size xs.length rfl rfl hl2 (Nat.le_refl _) ?_; intro w0 ho hb)
      refine (greatest_is _ _ _ _ HM.out (h.below hb) h1 hl2).mono ?_
      rintro e w2 ⟨rfl, q, rfl⟩
      have hcx' : w0.cell? ⟨b, off + m, none⟩ = some (.int .i64 x) := (hb.cell (p := ⟨b, off + m, none⟩) hbl).trans hcx
      have hz : w0.cell? ⟨w.heap.size, m, none⟩ = some (.int .i64 0) := ho.cell (by simp [hm])
      have hf := ho.free m
      have HS := fun v => (ho.drewN q).set_ m v
      have HS' := Lib.hid (HS x)
      clear HS
      go_wp2
      go_ret2
      exact ⟨_, _, by rw [HA.out]; rfl, by rw [HP.out]; exact HS'.out, (below_drewN' hb q).setCell (Nat.le_refl _) _⟩
  · by_cases hlt : x < r
    · have HP : Hid (payOf 2 xs r = List.replicate xs.length 0) := Lib.hid (payOf_none (by decide) (by rw [HX.out]; exact hlt))
      have HA : Hid (atOf xs r = -1) := Lib.hid (atOf_none (by rw [HX.out]; exact hlt))
      go_enter Try.func69, Try.ntmps69
      go_wp2_with (at_make; refine wpList_make_ints rfl _ _ rfl w.heap.size xs.length rfl rfl hl2 (Nat.le_refl _) ?_; intro w0 ho hb)
      refine (greatest_is _ _ _ _ HM.out (h.below hb) h1 hl2).mono ?_
      rintro e w2 ⟨rfl, q, rfl⟩
      have hcx' : w0.cell? ⟨b, off + m, none⟩ = some (.int .i64 x) := (hb.cell (p := ⟨b, off + m, none⟩) hbl).trans hcx
      have hz : w0.cell? ⟨w.heap.size, m, none⟩ = some (.int .i64 0) := ho.cell (by simp [hm])
      have hf := ho.free m
      have HS := fun v => (ho.drewN q).set_ m v
      clear HS
      go_wp2
      go_ret2
      exact ⟨_, _, by rw [HA.out]; rfl, by rw [HP.out]; exact ho, below_drewN' hb q⟩
    · have HP : Hid (payOf 2 xs r = (List.replicate xs.length 0).set m (max r (nthG 1 xs))) := Lib.hid (by rw [payOf_some (by decide) (by rw [HX.out]; exact hlt), HM.out])
      have HA : Hid (atOf xs r = m) := Lib.hid (by rw [atOf_some (by rw [HX.out]; exact hlt), HM.out])
      go_enter Try.func69, Try.ntmps69
      go_wp2_with (at_make; refine wpList_make_ints rfl _ _ rfl w.heap.size xs.length rfl rfl hl2 (Nat.le_refl _) ?_; intro w0 ho hb)
      refine (greatest_is _ _ _ _ HM.out (h.below hb) h1 hl2).mono ?_
      rintro e w2 ⟨rfl, q, rfl⟩
      have hcx' : w0.cell? ⟨b, off + m, none⟩ = some (.int .i64 x) := (hb.cell (p := ⟨b, off + m, none⟩) hbl).trans hcx
      have hz : w0.cell? ⟨w.heap.size, m, none⟩ = some (.int .i64 0) := ho.cell (by simp [hm])
      have hf := ho.free m
      have HS := fun v => (ho.drewN q).set_ m v
      clear HS
      obtain ⟨y, hY⟩ : ∃ y, y = nthG 1 xs := ⟨_, rfl⟩
      have HY := Lib.hid hY
      clear hY
      go_wp2_with fail
      refine (nth_1 _ _ _ _ ((h.below hb).drewN q) hl).mono ?_
      rw [← HY.out]
      rintro e w3 ⟨rfl, hb3⟩
      have hz3 : w3.cell? ⟨w.heap.size, m, none⟩ = some (.int .i64 0) := (hb3.cell (p := ⟨w.heap.size, m, none⟩) ho.lt).trans hz
      have hf3 : w3.frozen? ⟨w.heap.size, m, none⟩ = false := (hb3.frozen (p := ⟨w.heap.size, m, none⟩) ho.lt).trans hf
      have HS' := Lib.hid (fun v => ((ho.drewN q).below hb3).set_ m v)
      go_wp2
      all_goals
        go_ret2
        exact ⟨_, _, by rw [HA.out]; rfl, by rw [HP.out, ← HY.out]; first | (rw [Int.max_eq_left (by omega)]; exact HS'.out _) | (rw [Int.max_eq_right (by omega)]; exact HS'.out _), ((below_drewN' hb q).trans (hb3.mono hb.size)).setCell (Nat.le_refl _) _⟩
  · by_cases hlt : x < r
    · have HP : Hid (payOf 3 xs r = List.replicate xs.length 0) := Lib.hid (payOf_none (by decide) (by rw [HX.out]; exact hlt))
      have HA : Hid (atOf xs r = -1) := Lib.hid (atOf_none (by rw [HX.out]; exact hlt))
      go_enter Try.func69, Try.ntmps69
      go_wp2_with (at_make; refine wpList_make_ints rfl _ _ rfl w.heap.size xs.length rfl rfl hl2 (Nat.le_refl _) ?_; intro w0 ho hb)
      refine (greatest_is _ _ _ _ HM.out (h.below hb) h1 hl2).mono ?_
      rintro e w2 ⟨rfl, q, rfl⟩
      have hcx' : w0.cell? ⟨b, off + m, none⟩ = some (.int .i64 x) := (hb.cell (p := ⟨b, off + m, none⟩) hbl).trans hcx
      have hz : w0.cell? ⟨w.heap.size, m, none⟩ = some (.int .i64 0) := ho.cell (by simp [hm])
      have hf := ho.free m
      have HS := fun v => (ho.drewN q).set_ m v
      clear HS
      go_wp2
      go_ret2
      exact ⟨_, _, by rw [HA.out]; rfl, by rw [HP.out]; exact ho, below_drewN' hb q⟩
    · have HP : Hid (payOf 3 xs r = (List.replicate xs.length 0).set m (max r (nthG 2 xs))) := Lib.hid (by rw [payOf_some (by decide) (by rw [HX.out]; exact hlt), HM.out])
      have HA : Hid (atOf xs r = m) := Lib.hid (by rw [atOf_some (by rw [HX.out]; exact hlt), HM.out])
      go_enter Try.func69, Try.ntmps69
      go_wp2_with (at_make; refine wpList_make_ints rfl _ _ rfl w.heap.size xs.length rfl rfl hl2 (Nat.le_refl _) ?_; intro w0 ho hb)
      refine (greatest_is _ _ _ _ HM.out (h.below hb) h1 hl2).mono ?_
      rintro e w2 ⟨rfl, q, rfl⟩
      have hcx' : w0.cell? ⟨b, off + m, none⟩ = some (.int .i64 x) := (hb.cell (p := ⟨b, off + m, none⟩) hbl).trans hcx
      have hz : w0.cell? ⟨w.heap.size, m, none⟩ = some (.int .i64 0) := ho.cell (by simp [hm])
      have hf := ho.free m
      have HS := fun v => (ho.drewN q).set_ m v
      clear HS
      obtain ⟨y, hY⟩ : ∃ y, y = nthG 2 xs := ⟨_, rfl⟩
      have HY := Lib.hid hY
      clear hY
      go_wp2_with fail
      refine (nth_2 _ _ _ _ ((h.below hb).drewN q) hl).mono ?_
      rw [← HY.out]
      rintro e w3 ⟨rfl, hb3⟩
      have hz3 : w3.cell? ⟨w.heap.size, m, none⟩ = some (.int .i64 0) := (hb3.cell (p := ⟨w.heap.size, m, none⟩) ho.lt).trans hz
      have hf3 : w3.frozen? ⟨w.heap.size, m, none⟩ = false := (hb3.frozen (p := ⟨w.heap.size, m, none⟩) ho.lt).trans hf
      have HS' := Lib.hid (fun v => ((ho.drewN q).below hb3).set_ m v)
      go_wp2
      all_goals
        go_ret2
        exact ⟨_, _, by rw [HA.out]; rfl, by rw [HP.out, ← HY.out]; first | (rw [Int.max_eq_left (by omega)]; exact HS'.out _) | (rw [Int.max_eq_right (by omega)]; exact HS'.out _), ((below_drewN' hb q).trans (hb3.mono hb.size)).setCell (Nat.le_refl _) _⟩
  · by_cases hlt : x < r
    · have HP : Hid (payOf 4 xs r = xs) := Lib.hid (payOf_all xs r)
      have HA : Hid (atOf xs r = -1) := Lib.hid (atOf_none (by rw [HX.out]; exact hlt))
      go_enter Try.func69, Try.ntmps69
      go_wp2_with (at_make; refine wpList_make_ints rfl _ _ rfl w.heap.size xs.length rfl rfl hl2 (Nat.le_refl _) ?_; intro w0 ho hb)
      refine (greatest_is _ _ _ _ HM.out (h.below hb) h1 hl2).mono ?_
      rintro e w2 ⟨rfl, q, rfl⟩
      have hcx' : w0.cell? ⟨b, off + m, none⟩ = some (.int .i64 x) := (hb.cell (p := ⟨b, off + m, none⟩) hbl).trans hcx
      have _hz : w0.cell? ⟨w.heap.size, m, none⟩ = some (.int .i64 0) := ho.cell (by simp [hm])
      have _hf := ho.free m
      have hb1 := (Below.refl (w0.drewN q).heap.size (w0.drewN q)).alloc (Nat.le_refl _) (.cells #[] 3)
      have h2 := ((h.below hb).drewN q).below hb1
      have hs1 : (w0.drewN q).heap.size ≤ ((w0.drewN q).alloc (.cells #[] 3)).heap.size := hb1.size
      have HO := Lib.hid (own_empty (w0.drewN q))
      have hB : Below w.heap.size w ((w0.drewN q).alloc (.cells #[] 3)) := (below_drewN' hb q).trans (hb1.mono hb.size)
      clear ho
      go_wp2_with (at_builtin; refine wpList_clone rfl _ _ rfl (w0.drewN q).heap.size (w0.drewN q).heap.size rfl HO.out _ _ xs rfl h2 hl2 hs1 ?_; intro g3 c3 w3 ho3 hb3)
      go_ret2
      exact ⟨_, _, by rw [HA.out]; rfl, by rw [HP.out]; exact ho3.base hb.size, hB.trans (hb3.mono hb.size)⟩
    · have HP : Hid (payOf 4 xs r = xs) := Lib.hid (payOf_all xs r)
      have HA : Hid (atOf xs r = m) := Lib.hid (by rw [atOf_some (by rw [HX.out]; exact hlt), HM.out])
      go_enter Try.func69, Try.ntmps69
      go_wp2_with (at_make; refine wpList_make_ints rfl _ _ rfl w.heap.size xs.length rfl rfl hl2 (Nat.le_refl _) ?_; intro w0 ho hb)
      refine (greatest_is _ _ _ _ HM.out (h.below hb) h1 hl2).mono ?_
      rintro e w2 ⟨rfl, q, rfl⟩
      have hcx' : w0.cell? ⟨b, off + m, none⟩ = some (.int .i64 x) := (hb.cell (p := ⟨b, off + m, none⟩) hbl).trans hcx
      have _hz : w0.cell? ⟨w.heap.size, m, none⟩ = some (.int .i64 0) := ho.cell (by simp [hm])
      have _hf := ho.free m
      have hb1 := (Below.refl (w0.drewN q).heap.size (w0.drewN q)).alloc (Nat.le_refl _) (.cells #[] 3)
      have h2 := ((h.below hb).drewN q).below hb1
      have hs1 : (w0.drewN q).heap.size ≤ ((w0.drewN q).alloc (.cells #[] 3)).heap.size := hb1.size
      have HO := Lib.hid (own_empty (w0.drewN q))
      have hB : Below w.heap.size w ((w0.drewN q).alloc (.cells #[] 3)) := (below_drewN' hb q).trans (hb1.mono hb.size)
      clear ho
      go_wp2_with (at_builtin; refine wpList_clone rfl _ _ rfl (w0.drewN q).heap.size (w0.drewN q).heap.size rfl HO.out _ _ xs rfl h2 hl2 hs1 ?_; intro g3 c3 w3 ho3 hb3)
      go_ret2
      exact ⟨_, _, by rw [HA.out]; rfl, by rw [HP.out]; exact ho3.base hb.size, hB.trans (hb3.mono hb.size)⟩

end Go.Proofs.Ytoipjhdnmiomeaa
