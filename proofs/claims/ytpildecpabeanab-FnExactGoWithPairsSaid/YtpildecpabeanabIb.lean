/-
  Chapter 8, the program: pairs in memory as a list of pointers, and where they lie.
-/
import Derived.Test.YtpildecpabeanabIa
namespace Go.Proofs.Ytpildecpabeanab
open Go.RowKit

/-- The k-th pointer leads to the k-th pair, from the block N on. -/
def PVn (N : Nat) (w : World) (vs : List Value) (ts : List (Int × Int)) (k : Nat) : Prop := vs.length = k ∧ ∀ (i : Nat) (t : Int × Int), i < k → ts[i]? = some t → ∃ b, vs[i]? = some (.pointer (some ⟨b, 0, none⟩)) ∧ N ≤ b ∧ w.cell? ⟨b, 0, none⟩ = some (.int .i64 t.1) ∧ w.cell? ⟨b, 1, none⟩ = some (.int .i64 t.2)
theorem PVn.more {N : Nat} {w : World} {vs : List Value} {ts : List (Int × Int)} {k b : Nat} {t : Int × Int} (h : PVn N w vs ts k) (hN : N ≤ b) (ht : ts[k]? = some t) (h0 : w.cell? ⟨b, 0, none⟩ = some (.int .i64 t.1)) (h1 : w.cell? ⟨b, 1, none⟩ = some (.int .i64 t.2)) : PVn N w (vs ++ [.pointer (some ⟨b, 0, none⟩)]) ts (k + 1) := by
  refine ⟨by simp [h.1], fun i x hi hx => ?_⟩
  rcases Nat.lt_or_ge i k with hlt | hge
  · obtain ⟨b', e1, e2⟩ := h.2 i x hlt hx
    exact ⟨b', by rw [List.getElem?_append_left (by rw [h.1]; exact hlt)]; exact e1, e2⟩
  · obtain rfl : i = k := by omega
    rw [ht] at hx; cases hx
    exact ⟨b, by rw [List.getElem?_append_right (by rw [h.1]; exact Nat.le_refl _), h.1]; simp, hN, h0, h1⟩

/-- A new list of pointers. -/
def New2P (N : Nat) (W0 w : World) (ts : List (Int × Int)) (e : Ending) (w' : World) : Prop :=
  ∃ v vs, e = .returned v ∧ w'.ownsRow w.heap.size 66 1 v ts.length vs ∧ PVn N W0 vs ts ts.length ∧ Below w.heap.size w w'

set_option maxRecDepth 100000 in
set_option maxHeartbeats 1000000 in
theorem listed2_any (N : Nat) (W0 : World) (ts : List (Int × Int)) (v : Value) (w : World) (h : PLn N W0 v ts) (hB0 : Below W0.heap.size W0 w) (hl : ts.length ≤ 4) :
    Calls Try.prog 59 #[v] w (New2P N W0 w ts) := by
  have HB0 := Lib.hid hB0
  clear hB0
  obtain ⟨i0, hi, hz0, hz1, hz2⟩ := info_parts ptr_info
  go_enter Try.func59, Try.ntmps59
  go_wp2
  go_loopw [0, 3] (fun p all wr => ∃ (k : Nat) (vs : List Value) (A : Option Addr) (c : Nat), k ≤ ts.length ∧ all = .slice A k c ∧ Hid (wr.ownsRow w.heap.size 66 1 (.slice A k c) k vs) ∧ Hid (PVn N W0 vs ts k) ∧ Hid (PLn N W0 p (ts.drop k)) ∧ Hid (Below w.heap.size w wr)) (fun _ all _ => 4 - lnOf all)
  case atStart => exact ⟨0, [], none, 0, Nat.zero_le _, rfl, Lib.hid (World.ownsRow_nil _ _ _ _), Lib.hid ⟨rfl, fun i t hi => absurd hi (by omega)⟩, Lib.hid h, Lib.hid (Below.refl _ _)⟩
  case round =>
    obtain ⟨k, vs, A, c, hk, rfl, HO, HV, HP, HB⟩ := hrel
    by_cases hlt : k < ts.length
    · have ht : ts[k]? = some ts[k] := List.getElem?_eq_getElem hlt
      have hp := HP.out
      rw [List.drop_eq_getElem_cons hlt] at hp
      obtain ⟨b, rest, hpe, hNb, h0, h1, h2, hr⟩ := hp
      subst hpe
      have hb1 := (Below.refl wr.heap.size wr).alloc (Nat.le_refl _) (.cells #[.pointer (some ⟨b, 0, none⟩)] 66)
      have HT := Lib.hid (own_len HO.out hb1)
      have hb63 : k + 1 ≤ maxLen := by unfold maxLen; omega
      have HM := Lib.hid hb63
      have HSZ : Hid (w.heap.size ≤ (wr.alloc (.cells #[.pointer (some ⟨b, 0, none⟩)] 66)).heap.size) := Lib.hid (Nat.le_trans HB.out.size hb1.size)
      have HB1 := Lib.hid hb1
      have HR := Lib.hid hr
      have HM0 := Lib.hid (HV.out.more hNb ht h0 h1)
      have H2 := Lib.hid h2
      clear h1 h0 h2 hr hb63 hb1 ht HP
      go_wp2_with (at_builtin; (refine wpList_append_own _ rfl _ _ 65 rfl w.heap.size 66 i0 (.pointer none) 1 8 Try.underlying65 hi hz0 hz1 hz2 rfl (by decide) (.slice A k c) k vs rfl HT.out ⟨wr.heap.size, 0, none⟩ 1 1 [.pointer (some ⟨b, 0, none⟩)] rfl rfl (cell_one_new _ _ _) (by simp [Value.oneCell']) HM.out (by omega) HSZ.out ?_; intro v5 w5 hown5 hg5 _; have HB5 : Hid (Below w.heap.size w w5) := Lib.hid ((HB.out.trans (HB1.out.mono HB.out.size)).grown hg5 HSZ.out (fun q e => (World.ownsRow.lt HO.out q e).1)); have hc5 := ((HB0.out.trans (HB5.out.mono HB0.out.size)).cell (p := ⟨b, 2, none⟩) (World.block_lt_of_cell? W0 _ H2.out)).trans H2.out; obtain ⟨A5, c5, hv5⟩ := row_shape hown5; subst hv5; have HO5 := Lib.hid hown5; clear hown5 hg5))
      go_roundw
      case rel => exact ⟨k + 1, vs ++ [.pointer (some ⟨b, 0, none⟩)], A5, c5, hlt, rfl, HO5, HM0, HR, HB5⟩
      case measure => simp [lnOf]; omega
    · obtain rfl : k = ts.length := by omega
      have hp := HP.out
      rw [List.drop_length] at hp
      obtain rfl : u0 = .pointer none := hp
      clear HP
      go_wp2
      go_ret
      exact ⟨_, vs, rfl, HO.out, HV.out, HB.out⟩
end Go.Proofs.Ytpildecpabeanab
