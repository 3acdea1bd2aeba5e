/-
  The exact laws' helpers on fractions: that two lists that are the same are found so, that one is marked, and that the marks are held.
-/
import Derived.Test.YtoipjhdnmiomeabCi
import Derived.Test.YtoipjhdnmiomeabMark
namespace Go.Proofs.Ytoipjhdnmiomeab
open Go.RowKit

set_option maxHeartbeats 600000 in
theorem eqFrac_same (a b : Int) (w : World) :
    Calls Try.prog 28 #[frV a b, frV a b] w fun e w' => e = .returned (.bool true) ∧ Below w.heap.size w w' := by
  have h1 : (a != a) = false := by simp
  have h2 : (b != b) = false := by simp
  unfold frV
  go_enter Try.func28, Try.ntmps28
  go_wp2
  go_ret
  exact ⟨rfl, ((below_al _ _).alloc (by simp) _)⟩

set_option maxHeartbeats 1000000 in
theorem eqFracS_same (A B : Option Addr) (c d : Nat) (ps : List (Int × Int)) (w : World) (h1 : RdF w A c ps) (h2 : RdF w B d ps) (hl : ps.length ≤ 1099511627776) :
    Calls Try.prog 16 #[.slice A ps.length c, .slice B ps.length d] w fun e w' => e = .returned (.bool true) ∧ Below w.heap.size w w' := by
  have hne : ((ps.length : Int) != (ps.length : Int)) = false := by simp
  go_enter Try.func16, Try.ntmps16
  go_wp2
  go_loopw [5] (fun i wr => ∃ k : Nat, k ≤ ps.length ∧ i = .int .i64 k ∧ Below w.heap.size w wr) (fun i _ => ps.length - (intOf i).toNat)
  case atStart => exact ⟨0, Nat.zero_le _, rfl, Below.refl _ _⟩
  case round =>
    obtain ⟨k, hk, rfl, hb⟩ := hrel
    by_cases hlt : k < ps.length
    · obtain ⟨b1, x, y, rfl, hb1, hx, hc1, hc2⟩ := (h1.below hb).at_ hlt
      obtain ⟨b2, x', y', rfl, hb2, hx', hc3, hc4⟩ := (h2.below hb).at_ hlt
      obtain ⟨rfl, rfl⟩ : x' = x ∧ y' = y := by have := hx.out.symm.trans hx'.out; simp at this; exact ⟨this.1.symm, this.2.symm⟩
      clear hx hx'
      go_wp2_with fail
      refine region_tail 8 (by kernel_rfl) (by kernel_rfl) ?_
      simp only [List.take_succ_cons, List.take_zero, List.drop_succ_cons, List.drop_zero]
      iterate 8 (refine wpStill_step (fun K hK => ?_); go_simp; (try go_bits); refine hK _ ?_; clear hK K)
      refine wpStill_nil ?_
      go_wp2_with fail
      refine (eqFrac_same _ _ _).mono ?_
      rintro e w2 ⟨rfl, hb3⟩
      go_wp2
      go_roundw
      case rel => exact ⟨k + 1, by omega, by go_num, below_up hb.drew hb3⟩
      case measure => simp [intOf] <;> omega
    · obtain rfl : k = ps.length := by omega
      go_wp2
      go_ret
      exact ⟨rfl, hb⟩

/-- k, one more, and so on, two by two. -/
def upP (k : Int) (n : Nat) : List (Int × Int) := (List.range n).map (fun i => (k + 2 * (i : Nat), k + 2 * (i : Nat) + 1))
theorem upP_len (k : Int) (n : Nat) : (upP k n).length = n := by simp [upP]
theorem upP_at (k : Int) (n i : Nat) (h : i < n) : (upP k n)[i]? = some (k + 2 * i, k + 2 * i + 1) := by simp [upP, h]
def markP (k : Int) (ps : List (Int × Int)) (j : Nat) : List (Int × Int) := upP k j ++ ps.drop j
theorem markP_len (k : Int) (ps : List (Int × Int)) (j : Nat) (hj : j ≤ ps.length) : (markP k ps j).length = ps.length := by simp [markP, upP_len]; omega
theorem markP_zero (k : Int) (ps : List (Int × Int)) : markP k ps 0 = ps := by simp [markP, upP]
theorem markP_all (k : Int) (ps : List (Int × Int)) : markP k ps ps.length = upP k ps.length := by simp [markP]
theorem markP_set (k : Int) (ps : List (Int × Int)) (j : Nat) (hj : j < ps.length) : (markP k ps j).set j (k + 2 * j, k + 2 * j + 1) = markP k ps (j + 1) := by
  unfold markP
  rw [List.set_append, if_neg (by rw [upP_len]; omega), upP_len, Nat.sub_self]
  rw [List.drop_eq_getElem_cons hj, List.set_cons_zero]
  simp [upP, List.range_succ]

theorem ownF_addr {w : World} {B : Nat} {A : Option Addr} {c : Nat} {ps : List (Int × Int)} (h : OwnF w B A c ps) (hp : 0 < ps.length) : ∃ g, A = some ⟨g, 0, none⟩ := by
  rcases ownF_shape h with ⟨_, ⟨hv, hz⟩ | ⟨g, c', hv⟩⟩
  · subst hz; simp at hp
  · injection hv with hA; exact ⟨g, hA⟩
theorem OwnF.half {w : World} {B g c : Nat} {ps : List (Int × Int)} (h : OwnF w B (some ⟨g, 0, none⟩) c ps) (i : Nat) (u : Value) {x y : Int} (hx : ps[i]? = some (x, y)) :
    (w.setCell ⟨g, i * 2, none⟩ u).cell? ⟨g, i * 2 + 1, none⟩ = some (.int .i64 y) ∧ (w.setCell ⟨g, i * 2, none⟩ u).frozen? ⟨g, i * 2 + 1, none⟩ = false := by
  have h1 := (World.ownsRow.stored h (i * 2) u).1
  refine ⟨?_, World.ownsRow.frozenAt h1 _⟩
  rw [World.cell?_setCell_other w ⟨g, i * 2, none⟩ ⟨g, i * 2 + 1, none⟩ _ (fun e => by injection e with _ e2; omega)]
  exact (h.cell hx).2

set_option maxHeartbeats 1000000 in
theorem markFracS_any (A : Option Addr) (c : Nat) (ps : List (Int × Int)) (k : Int) (B : Nat) (w : World) (h : OwnF w B A c ps) (hl : ps.length ≤ 1099511627776) (hk0 : 0 ≤ k) (hk1 : k ≤ 1099511627776) :
    Calls Try.prog 18 #[.slice A ps.length c, .int .i64 k] w fun e w' => e = .returned (.int .i64 (k + 2 * ps.length)) ∧ OwnF w' B A c (upP k ps.length) ∧ w.grownBy w' (ofA A) := by
  go_enter Try.func18, Try.ntmps18
  go_wp2
  go_loopw [1, 5] (fun q i wr => ∃ j : Nat, j ≤ ps.length ∧ i = .int .i64 j ∧ q = .int .i64 (k + 2 * j) ∧ Hid (OwnF wr B A c (markP k ps j) ∧ w.grownBy wr (ofA A)))
    (fun _ i _ => ps.length - (intOf i).toNat)
  case atStart => exact ⟨0, Nat.zero_le _, rfl, by simp, Lib.hid ⟨by rw [markP_zero]; exact h, World.grownBy.refl _ _⟩⟩
  case round =>
    obtain ⟨j, hj, rfl, rfl, HO⟩ := hrel
    by_cases hlt : j < ps.length
    · obtain ⟨g, rfl⟩ := ownF_addr h (by omega)
      have hz := HO.out.1
      have hjm : j < (markP k ps j).length := by rw [markP_len k ps j hj]; exact hlt
      obtain ⟨⟨x, y⟩, hx⟩ : ∃ q, (markP k ps j)[j]? = some q := ⟨_, List.getElem?_eq_getElem hjm⟩
      obtain ⟨hc, hc1⟩ := hz.cell hx
      have hf := hz.free (j * 2)
      obtain ⟨hc2, hf2⟩ := OwnF.half hz j (.int .i64 (k + 2 * j)) hx
      have HS : Hid (OwnF ((wr.setCell ⟨g, j * 2, none⟩ (.int .i64 (k + 2 * j))).setCell ⟨g, j * 2 + 1, none⟩ (.int .i64 (k + 2 * j + 1))) B (some ⟨g, 0, none⟩) c (markP k ps (j + 1)) ∧ w.grownBy ((wr.setCell ⟨g, j * 2, none⟩ (.int .i64 (k + 2 * j))).setCell ⟨g, j * 2 + 1, none⟩ (.int .i64 (k + 2 * j + 1))) (ofA (some ⟨g, 0, none⟩))) := Lib.hid (by
        have h1 := hz.set_ j (k + 2 * j) (k + 2 * j + 1)
        have h2 := (World.ownsRow.stored hz (j * 2) (.int .i64 (k + 2 * j)))
        have h3 := (World.ownsRow.stored h2.1 (j * 2 + 1) (.int .i64 (k + 2 * j + 1))).2
        rw [markP_set k ps j hlt] at h1
        exact ⟨h1, (HO.out.2.trans h2.2).trans h3⟩)
      clear hz hjm hx h hc1
      go_wp2
      go_roundw
      case rel => exact ⟨j + 1, by omega, by go_num, by go_num, HS⟩
      case measure => simp [intOf] <;> omega
    · obtain rfl : j = ps.length := by omega
      go_wp2
      go_ret
      exact ⟨rfl, by rw [← markP_all]; exact HO.out.1, HO.out.2⟩

set_option maxHeartbeats 600000 in
theorem heldFracS_any (A : Option Addr) (c : Nat) (n : Nat) (k : Int) (w : World) (h : RdF w A c (upP k n)) (hl : n ≤ 1099511627776) (hk0 : 0 ≤ k) (hk1 : k ≤ 1099511627776) :
    Calls Try.prog 19 #[.slice A n c, .int .i64 k] w fun e w' => e = .returned (.int .i64 (k + 2 * n)) ∧ w = w' := by
  go_enter Try.func19, Try.ntmps19
  go_wp2
  go_loop [1, 5] (fun q i => ∃ j : Nat, j ≤ n ∧ i = .int .i64 j ∧ q = .int .i64 (k + 2 * j))
    (fun _ i => n - (intOf i).toNat)
  case atStart => exact ⟨0, Nat.zero_le _, rfl, by simp⟩
  case round =>
    obtain ⟨j, hj, rfl, rfl⟩ := hrel
    by_cases hlt : j < n
    · obtain ⟨b, x, y, rfl, _, hx, hc, hc2⟩ := h.at_ (k := j) (by rw [upP_len]; exact hlt)
      obtain ⟨rfl, rfl⟩ : x = k + 2 * j ∧ y = k + 2 * j + 1 := by have := hx.out; rw [upP_at k n j hlt] at this; simp at this; exact ⟨this.1.symm, this.2.symm⟩
      have h1 : (k + 2 * (j : Int) != k + 2 * (j : Int)) = false := by simp
      have h2 : (k + 2 * (j : Int) + 1 != k + 2 * (j : Int) + 1) = false := by simp
      clear hx
      go_wp2
      go_round
      case rel => exact ⟨j + 1, by omega, by go_num, by go_num⟩
      case measure => simp [intOf] <;> omega
    · obtain rfl : j = n := by omega
      go_wp2
      go_ret
      exact ⟨rfl, rfl⟩
end Go.Proofs.Ytoipjhdnmiomeab
