/-
  Chapter 3, the program: the contracts of PivotUnits, PushedUnits, EachUnits.
-/
import Derived.Test.YtkkdffmpeadinaaUn
namespace Go.Proofs.Ytkkdffmpeadinaa
open Go.RowKit

theorem aw_le {R : Nat → List Int} {n : Nat} : ∀ k j, aw R n k j ≤ k := by
  intro k
  induction k with
  | zero => intro j; exact Nat.zero_le _
  | succ k ih =>
    intro j
    show stp _ _ _ j ≤ _
    have := ih j
    unfold stp
    split <;> omega

theorem box1 (w : World) (v : Value) (T : TypeId) : (w.alloc (.cells #[v] T)).cell? ⟨w.heap.size, 0, none⟩ = some v := by simp
theorem ValsIs.from {w w0 : World} {f : Nat → Int} {n : Nat} {e : Ending} {w' : World} (h : ValsIs w0 f n e w') (hb : Below w.heap.size w w0) : ValsIs w f n e w' := by
  obtain ⟨g, c, he, ho, hb'⟩ := h
  exact ⟨g, c, he, ho.base hb.size, hb.trans (hb'.mono hb.size)⟩
theorem AnsIs.from {w w0 : World} {zs : List Int} {e : Ending} {w' : World} (h : AnsIs w0 zs e w') (hb : Below w.heap.size w w0) : AnsIs w zs e w' := by
  obtain ⟨g, c, he, ho, hb'⟩ := h
  exact ⟨g, c, he, ho.base hb.size, hb.trans (hb'.mono hb.size)⟩
theorem AnsIs.shape {w : World} {zs : List Int} {e : Ending} {w' : World} (h : AnsIs w zs e w') : ∃ v, e = .returned v := by
  obtain ⟨g, c, he, _⟩ := h
  exact ⟨_, he⟩

set_option maxHeartbeats 400000 in
theorem PivotUnits_yes (A : Option Addr) (c k : Nat) (rows : List (List Int)) (w : World) (hR : RdR w A c rows) (hv : VD rows) (hk : k ≤ 5) :
    Calls Try.prog 38 #[.slice A rows.length c, .int .i64 k] w (ValsIs w (pivF rows k) rows.length) := by
  have hb1 := (Below.refl w.heap.size w).alloc (Nat.le_refl _) (.cells #[.slice A rows.length c] 23)
  have hb2 := hb1.alloc hb1.size (.cells #[.int .i64 k] 3)
  have HB := Lib.hid hb2
  have HP := Lib.hid (paysOf_Piv A c k rows (.pointer (some ⟨w.heap.size, 0, none⟩)) (.pointer (some ⟨w.heap.size + 1, 0, none⟩)) (pivF rows k) _ (hR.below hb2) hv hk (fun i g d w' hi hb hd =>
    pivClosure_any A (some ⟨g, 0, none⟩) c d k i w.heap.size (w.heap.size + 1) rows w' ((hR.below hb2).below hb) hv hk hd hi
      ((hb.cell (p := ⟨w.heap.size, 0, none⟩) (by simp <;> omega)).trans ((World.cell?_alloc_lt _ _ ⟨w.heap.size, 0, none⟩ (by simp)).trans (box1 _ _ _)))
      ((hb.cell (p := ⟨w.heap.size + 1, 0, none⟩) (by simp)).trans (by simp))))
  clear hR hv hb1 hb2
  go_enter Try.func38, Try.ntmps38
  go_wp2_with fail
  refine HP.out.mono ?_
  rintro e w2 ⟨g, c2, rfl, o2, b2⟩
  have HR := Lib.hid (ValsIs.from ⟨g, c2, rfl, o2, b2⟩ HB.out)
  clear o2 b2
  go_wp2
  go_ret
  exact HR.out

set_option maxHeartbeats 400000 in
theorem PushedUnits_yes (A : Option Addr) (c k : Nat) (rows : List (List Int)) (w : World) (hR : RdR w A c rows) (hv : VD rows) (hk : k ≤ 5) :
    Calls Try.prog 28 #[.slice A rows.length c, .int .i64 k] w (ValsIs w (fun i => pushF (butOf rows i).flatten k (aw (RW rows) rows.length k i)) rows.length) := by
  have hb1 := (Below.refl w.heap.size w).alloc (Nat.le_refl _) (.cells #[.slice A rows.length c] 23)
  have hb2 := hb1.alloc hb1.size (.cells #[.int .i64 k] 3)
  have HB := Lib.hid hb2
  have HP := Lib.hid (paysOf_Push A c k rows (.pointer (some ⟨w.heap.size, 0, none⟩)) (.pointer (some ⟨w.heap.size + 1, 0, none⟩)) (fun i => pushF (butOf rows i).flatten k (aw (RW rows) rows.length k i)) _ (hR.below hb2) hv hk (fun i g d w' hi hb hd =>
    pushClosure_any A (some ⟨g, 0, none⟩) c d k i w.heap.size (w.heap.size + 1) rows w' ((hR.below hb2).below hb) hv hk hd hi (aw_le k i)
      ((hb.cell (p := ⟨w.heap.size, 0, none⟩) (by simp <;> omega)).trans ((World.cell?_alloc_lt _ _ ⟨w.heap.size, 0, none⟩ (by simp)).trans (box1 _ _ _)))
      ((hb.cell (p := ⟨w.heap.size + 1, 0, none⟩) (by simp)).trans (by simp))))
  clear hR hv hb1 hb2
  go_enter Try.func28, Try.ntmps28
  go_wp2_with fail
  refine HP.out.mono ?_
  rintro e w2 ⟨g, c2, rfl, o2, b2⟩
  have HR := Lib.hid (ValsIs.from ⟨g, c2, rfl, o2, b2⟩ HB.out)
  clear o2 b2
  go_wp2
  go_ret
  exact HR.out

set_option maxHeartbeats 400000 in
theorem EachUnits_yes (A : Option Addr) (c k : Nat) (rows : List (List Int)) (w : World) (hR : RdR w A c rows) (hv : VD rows) (hk : k ≤ 5) :
    Calls Try.prog 31 #[.slice A rows.length c, .int .i64 k] w (ValsIs w (fun i => pre (RW rows i) (aw (RW rows) rows.length k i)) rows.length) := by
  have hb1 := (Below.refl w.heap.size w).alloc (Nat.le_refl _) (.cells #[.slice A rows.length c] 23)
  have HB := Lib.hid hb1
  have HP := Lib.hid (paysOf_Each A c k rows (.pointer (some ⟨w.heap.size, 0, none⟩)) (fun i => pre (RW rows i) (aw (RW rows) rows.length k i)) _ (hR.below hb1) hv hk (fun i g d w' hi hb hd =>
    eachClosure_any A (some ⟨g, 0, none⟩) c d k i w.heap.size rows w' ((hR.below hb1).below hb) hv hk hd hi
      ((hb.cell (p := ⟨w.heap.size, 0, none⟩) (by simp)).trans (box1 _ _ _))))
  clear hR hv hb1
  go_enter Try.func31, Try.ntmps31
  go_wp2_with fail
  refine HP.out.mono ?_
  rintro e w2 ⟨g, c2, rfl, o2, b2⟩
  have HR := Lib.hid (ValsIs.from ⟨g, c2, rfl, o2, b2⟩ HB.out)
  clear o2 b2
  go_wp2
  go_ret
  exact HR.out

set_option maxHeartbeats 400000 in
theorem PivotUnits_no (A : Option Addr) (c : Nat) (rows : List (List Int)) (k : Int) (w : World) (hR : RdR w A c rows) (hl : rows.length ≤ 1099511627776) (hl2 : ∀ r ∈ rows, r.length ≤ 1099511627776) (hf : fuB rows k = false) :
    Calls Try.prog 38 #[.slice A rows.length c, .int .i64 k] w (AnsIs w []) := by
  have hb1 := (Below.refl w.heap.size w).alloc (Nat.le_refl _) (.cells #[.slice A rows.length c] 23)
  have hb1 := hb1.alloc hb1.size (.cells #[.int .i64 k] 3)
  have HB := Lib.hid hb1
  have HP := Lib.hid (fun v => paysOf_no A c rows k v _ (hR.below hb1) hl hl2 hf)
  clear hR hb1 hf
  go_enter Try.func38, Try.ntmps38
  go_wp2_with fail
  refine (HP.out _).mono ?_
  rintro e w2 ⟨g, c2, rfl, o2, b2⟩
  have HR := Lib.hid (AnsIs.from ⟨g, c2, rfl, o2, b2⟩ HB.out)
  clear o2 b2
  go_wp2
  go_ret
  exact HR.out

set_option maxHeartbeats 400000 in
theorem PushedUnits_no (A : Option Addr) (c : Nat) (rows : List (List Int)) (k : Int) (w : World) (hR : RdR w A c rows) (hl : rows.length ≤ 1099511627776) (hl2 : ∀ r ∈ rows, r.length ≤ 1099511627776) (hf : fuB rows k = false) :
    Calls Try.prog 28 #[.slice A rows.length c, .int .i64 k] w (AnsIs w []) := by
  have hb1 := (Below.refl w.heap.size w).alloc (Nat.le_refl _) (.cells #[.slice A rows.length c] 23)
  have hb1 := hb1.alloc hb1.size (.cells #[.int .i64 k] 3)
  have HB := Lib.hid hb1
  have HP := Lib.hid (fun v => paysOf_no A c rows k v _ (hR.below hb1) hl hl2 hf)
  clear hR hb1 hf
  go_enter Try.func28, Try.ntmps28
  go_wp2_with fail
  refine (HP.out _).mono ?_
  rintro e w2 ⟨g, c2, rfl, o2, b2⟩
  have HR := Lib.hid (AnsIs.from ⟨g, c2, rfl, o2, b2⟩ HB.out)
  clear o2 b2
  go_wp2
  go_ret
  exact HR.out

set_option maxHeartbeats 400000 in
theorem EachUnits_no (A : Option Addr) (c : Nat) (rows : List (List Int)) (k : Int) (w : World) (hR : RdR w A c rows) (hl : rows.length ≤ 1099511627776) (hl2 : ∀ r ∈ rows, r.length ≤ 1099511627776) (hf : fuB rows k = false) :
    Calls Try.prog 31 #[.slice A rows.length c, .int .i64 k] w (AnsIs w []) := by
  have hb1 := (Below.refl w.heap.size w).alloc (Nat.le_refl _) (.cells #[.slice A rows.length c] 23)
  have HB := Lib.hid hb1
  have HP := Lib.hid (fun v => paysOf_no A c rows k v _ (hR.below hb1) hl hl2 hf)
  clear hR hb1 hf
  go_enter Try.func31, Try.ntmps31
  go_wp2_with fail
  refine (HP.out _).mono ?_
  rintro e w2 ⟨g, c2, rfl, o2, b2⟩
  have HR := Lib.hid (AnsIs.from ⟨g, c2, rfl, o2, b2⟩ HB.out)
  clear o2 b2
  go_wp2
  go_ret
  exact HR.out

end Go.Proofs.Ytkkdffmpeadinaa
