/-
  Chapter 1, the model: the contract of RestsOf.
-/
import Derived.Test.YtcbhjcbbjegmiaaGrid
import Derived.Maps.AppendAt
namespace Go.Proofs.Ytcbhjcbbjegmiaa
open Go.RowKit

/-- What a call hands back: rows in blocks of its own; what was there is as it was. -/
def GridIs (w : World) (rs : List (List Int)) (e : Ending) (w' : World) : Prop :=
  ∃ v ps, e = .returned v ∧ RowsIn w' w.heap.size v ps ∧ ps.map (·.2.2) = rs ∧ Below w.heap.size w w'

theorem rows_empty (w : World) : RowsIn (w.alloc (.cells #[] 23)) w.heap.size (.slice (some ⟨w.heap.size, 0, none⟩) 0 0) [] := by
  refine ⟨⟨by simp, .inr ⟨w.heap.size, 0, #[], rfl, Nat.le_refl _, World.alloc_heap_new w _, by simp, by simp [maxLen], by simp, by simp⟩⟩, fun _ h => absurd h (by simp), by simp⟩

theorem left_zero {n top : Nat} (hn : n ≤ 3) (ht : top ≤ 5) : leftF (List.replicate n 0) top + 1 ≤ 1000 := by
  have hn : n = 0 ∨ n = 1 ∨ n = 2 ∨ n = 3 := by omega
  have ht : top = 0 ∨ top = 1 ∨ top = 2 ∨ top = 3 ∨ top = 4 ∨ top = 5 := by omega
  rcases hn with rfl | rfl | rfl | rfl <;> rcases ht with rfl | rfl | rfl | rfl | rfl | rfl <;> decide +kernel

theorem Own.notIn {w : World} {B B' g c : Nat} {v : Value} {zs : List Int} {ps : List (Nat × Nat × List Int)} {w0 : World} (h : RowsIn w0 B v ps) (hs : w0.heap.size ≤ B') (ho : Own w B' (some ⟨g, 0, none⟩) c zs) : g ∉ ps.map (·.1) := by
  intro hg
  obtain ⟨p, hp, rfl⟩ := List.mem_map.1 hg
  have h1 := (h.each p hp).lt
  have h2 := ho.ge
  omega

set_option maxRecDepth 100000 in
set_option maxHeartbeats 2000000 in
theorem SRestsOf_yes (s : ByteArray) (kd : Nat) (A : Option Addr) (c : Nat) (vs : List Int) (top : Nat) (w : World) (hk : KindIs s kd) (h : Rd w A c vs) (hv : vB vs = true) (hl3 : vs.length ≤ 3) (ht : top ≤ 5) :
    Calls Try.prog 34 #[.string s, .slice A vs.length c, .int .i64 top] w (GridIs w (restsF kd vs vs.length top)) := by
  have hvb := vB_le hv
  have h1 : 1 ≤ vs.length := hvb.1
  have hl : vs.length ≤ 1099511627776 := by omega
  have ht2 : inR (top : Int) 0 5 = true := by rw [inR_true]; omega
  have HSV := Lib.hid (vB_small hv)
  obtain ⟨i0, hi, hz0, hz1, hz2⟩ := info_parts ints_info
  clear hvb
  go_enter Try.func34, Try.ntmps34
  have hd3 : decide ((3 : Int) < (vs.length : Int)) = false := by simp; omega
  have hb0 := (Below.refl w.heap.size w).alloc (Nat.le_refl _) (.cells #[] 23)
  have HR0 := Lib.hid (rows_empty w)
  go_wp2_with (first
    | (go_at_call 49; refine (validKind_yes s kd _ hk).mono ?_; rintro e w1 ⟨rfl, rfl⟩)
    | (go_at_call 50; refine (validBids_any _ _ _ _ h hl).mono ?_; rintro e w1 ⟨rfl, rfl⟩)
    | (go_at_call 51; refine (inRange_any _ _ _ _).mono ?_; rintro e w1 ⟨rfl, rfl⟩)
    | (at_make; refine wpList_make_ints rfl _ _ rfl (w.heap.size + 1) vs.length rfl rfl hl (by simp) ?_; intro w0 ho hb))
  have HB0 : Below w.heap.size w w0 := hb0.trans (hb.mono (by simp))
  have HR1 : RowsIn w0 w.heap.size (.slice (some ⟨w.heap.size, 0, none⟩) 0 0) [] := HR0.out.below (hb.mono (by simp))
  clear hv ht2 hd3 HR0 hb hb0
  have ho := ho.base (B' := w.heap.size) (by omega)
  go_loopw [7, 8] (fun o bd wr => ∃ ps, RowsIn wr w.heap.size o ps ∧ Below w.heap.size w wr ∧
      ((∃ g cg ys, bd = .slice (some ⟨g, 0, none⟩) ys.length cg ∧ Own wr w.heap.size (some ⟨g, 0, none⟩) cg ys ∧ Hid (g ∉ ps.map (·.1)) ∧ Hid (Fit top vs.length ys) ∧ Hid (RestsAt kd vs vs.length top (ps.map (·.2.2)) (some ys)) ∧ Hid (ps.length + (leftF ys top + 1) ≤ 1000)) ∨
       (bd = .slice none 0 0 ∧ Hid (RestsAt kd vs vs.length top (ps.map (·.2.2)) none))))
    (fun _ bd wr => roundsLeft top wr bd)
  case atStart =>
    exact ⟨[], HR1, HB0, .inl ⟨_, _, List.replicate vs.length 0, by simp, ho, Lib.hid (by simp), Lib.hid (Fit.zero top _), Lib.hid (by show restsF kd vs vs.length top = _; simp [restsF]), Lib.hid (by simpa using left_zero hl3 ht)⟩⟩
  case round =>
    obtain ⟨ps, hR, hb, ⟨g, cg, ys, rfl, hO, HG, HF, HE, HC⟩ | ⟨rfl, HE⟩⟩ := hrel
    · have hyl := HF.out.1
      have hy1 : 1 ≤ ys.length := by omega
      have hy2 : ys.length ≤ 1048576 := by omega
      have hpos : (0 : Int) < ys.length := by omega
      have HL := Lib.hid (roundsLeft_own (top := top) hO hy1)
      have hcm := h.below hb
      obtain ⟨ok, hok⟩ : ∃ ok, ok = restF kd vs ys top := ⟨_, rfl⟩
      have HO := Lib.hid hok
      have HH := Lib.hid (calm_any s kd A (some ⟨g, 0, none⟩) c cg vs ys top wr hk hcm hyl.symm hO.rd hy1 hy2 (by omega) (HF.out.small (by omega)) HSV.out)
      rw [← hok] at HH
      clear hok hyl hcm
      cases ok with
      | false =>
        go_wp2_with fail
        refine HH.out.mono ?_
        rintro e w2 ⟨rfl, b2⟩
        have B2 := hb.trans (b2.mono hb.size)
        have o2 := hO.below b2
        have R2 := hR.below b2
        have HE2 := Lib.hid (HE.out.no HF.out HO.out.symm)
        go_wp2_with fail
        refine (next_any (some ⟨g, 0, none⟩) cg ys top w2 o2.rd hy2 (by omega) (by omega) HF.out.2).mono ?_
        rintro e w3 (⟨zs, g3, c3, HN, rfl, o3, b3⟩ | ⟨HN, rfl, b3⟩)
        · obtain ⟨hf3, hl3⟩ := HF.out.next HN
          have HE3 := HE2.out
          rw [HN] at HE3
          have HE4 := Lib.hid HE3
          have HL3 := Lib.hid hl3
          have HF3 := Lib.hid hf3
          have B3 := B2.trans (b3.mono B2.size)
          have HG3 := Lib.hid (Own.notIn R2 (Nat.le_refl _) o3)
          have o3' := o3.base B2.size
          have R3 := R2.below b3
          have HC3 : Hid (ps.length + (leftF zs top + 1) ≤ 1000) := Lib.hid (by have := HC.out; omega)
          clear hf3 hl3 HN HE3 o3
          go_wp2
          go_roundw
          case rel => exact ⟨ps, R3, B3, .inl ⟨g3, c3, zs, rfl, o3', HG3, HF3, HE4, HC3⟩⟩
          case measure =>
            rw [HL.out, roundsLeft_own o3' (by have := HF3.out.1; omega)]
            have := HL3.out
            omega
        · have HE3 := HE2.out
          rw [HN] at HE3
          have HE4 := Lib.hid HE3
          have B3 := B2.trans (b3.mono B2.size)
          have R3 := R2.below b3
          clear HN HE3
          go_wp2
          go_roundw
          case rel => exact ⟨ps, R3, B3, .inr ⟨rfl, HE4⟩⟩
          case measure => rw [HL.out, roundsLeft_nil]; omega
      | true =>
        go_wp2_with fail
        refine HH.out.mono ?_
        rintro e w2 ⟨rfl, b2⟩
        have B2 := hb.trans (b2.mono hb.size)
        have o2 := hO.below b2
        have R2 := hR.below b2
        have hpl : ps.length + 1 ≤ 1000 := by have := HC.out; omega
        have HT := Lib.hid (own_len R2.row ((Below.refl _ w2).alloc (Nat.le_refl _) (.cells #[slOf (g, cg, ys)] 23)))
        have hb63 : ps.length + 1 ≤ maxLen := by unfold maxLen; omega
        have HE2 := Lib.hid (HE.out.yes HF.out HO.out.symm)
        go_wp2_with (at_builtin; go_loud (refine wpList_append_own _ rfl _ _ 42 rfl w.heap.size 23 i0 (.slice none 0 0) 1 24 Try.underlying42 hi hz0 hz1 hz2 rfl (by decide) u7 ps.length (ps.map slOf) rfl HT.out ⟨w2.heap.size, 0, none⟩ 1 1 [slOf (g, cg, ys)] rfl rfl (cell_one_new _ _ _) (by simp [slOf, Value.oneCell']) hb63 (by omega) (by have := B2.size; simp; omega) ?_; intro v5 w5 hown5 hg5 _))
        have R5 := R2.more (p := (g, cg, ys)) o2 HG.out hown5 hg5
        have o5 : Own w5 w.heap.size (some ⟨g, 0, none⟩) cg ys := R5.each (g, cg, ys) (by simp)
        have B5 : Below w.heap.size w w5 := (B2.alloc B2.size (.cells #[slOf (g, cg, ys)] 23)).grown hg5 (by have := B2.size; simp; omega) (fun k e => (World.ownsRow.lt R2.row k e).1)
        clear hown5 hg5 HT hb63
        go_wp2_with fail
        refine (next_any (some ⟨g, 0, none⟩) cg ys top w5 o5.rd hy2 (by omega) (by omega) HF.out.2).mono ?_
        rintro e w3 (⟨zs, g3, c3, HN, rfl, o3, b3⟩ | ⟨HN, rfl, b3⟩)
        · obtain ⟨hf3, hl3⟩ := HF.out.next HN
          have HE3 := HE2.out
          rw [HN] at HE3
          have HE4 : Hid (RestsAt kd vs vs.length top ((ps ++ [(g, cg, ys)]).map (·.2.2)) (some zs)) := Lib.hid (by rw [List.map_append]; exact HE3)
          have HL3 := Lib.hid hl3
          have HF3 := Lib.hid hf3
          have B3 := B5.trans (b3.mono B5.size)
          have HG3 := Lib.hid (Own.notIn R5 (Nat.le_refl _) o3)
          have o3' := o3.base B5.size
          have R3 := R5.below b3
          have HC3 : Hid ((ps ++ [(g, cg, ys)]).length + (leftF zs top + 1) ≤ 1000) := Lib.hid (by have := HC.out; simp; omega)
          clear hf3 hl3 HN HE3 o3
          go_wp2
          go_roundw
          case rel => exact ⟨_, R3, B3, .inl ⟨g3, c3, zs, rfl, o3', HG3, HF3, HE4, HC3⟩⟩
          case measure =>
            rw [HL.out, roundsLeft_own o3' (by have := HF3.out.1; omega)]
            have := HL3.out
            omega
        · have HE3 := HE2.out
          rw [HN] at HE3
          have HE4 : Hid (RestsAt kd vs vs.length top ((ps ++ [(g, cg, ys)]).map (·.2.2)) none) := Lib.hid (by rw [List.map_append]; exact HE3)
          have B3 := B5.trans (b3.mono B5.size)
          have R3 := R5.below b3
          clear HN HE3
          go_wp2
          go_roundw
          case rel => exact ⟨_, R3, B3, .inr ⟨rfl, HE4⟩⟩
          case measure => rw [HL.out, roundsLeft_nil]; omega
    · go_wp2
      go_ret
      exact ⟨_, ps, rfl, hR, HE.out.symm, hb⟩

end Go.Proofs.Ytcbhjcbbjegmiaa
