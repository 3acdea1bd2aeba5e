/-
  Chapter 6, the model: the contract of JoinTables.
-/
import Derived.Test.YtfjncipekjnbjabWm
import Derived.Test.YtfjncipekjnbjabTf
namespace Go.Proofs.Ytfjncipekjnbjab
open Go.RowKit

/-- The table of two as one. -/
def jnT (a b : List Int) : List Int := (List.range 8).map (fun s => sv [a, b] s)
theorem jnT_len (a b : List Int) : (jnT a b).length = 8 := by simp [jnT]
theorem jnT_at (a b : List Int) {s : Nat} (hs : s < 8) : (jnT a b)[s]? = some (sv [a, b] s) := by simp [jnT, hs]
theorem jnT_snoc (a b : List Int) {s : Nat} (hs : s < 8) : (jnT a b).take (s + 1) = (jnT a b).take s ++ [sv [a, b] s] := by rw [List.take_add_one, jnT_at a b hs]; rfl

theorem cell_new2 (w : World) (u v : Value) (T : TypeId) : (w.alloc (.cells #[u, v] T)).cell? ⟨w.heap.size, 0 + 0, none⟩ = some u ∧ (w.alloc (.cells #[u, v] T)).cell? ⟨w.heap.size, 0 + (0 + 1), none⟩ = some v := by
  have h := World.ownsRow_lit (e := T) (size := 1) (base := w.heap.size) w #[u, v] 2 (Nat.le_refl _) (by unfold maxLen; omega) rfl
  exact ⟨World.ownsRow.cellAt h 0 (by omega), World.ownsRow.cellAt h 1 (by omega)⟩
/-- What JoinTables hands back. -/
def JnIs (w : World) (a b : List Int) (e : Ending) (w' : World) : Prop :=
  Below w.heap.size w w' ∧ ((VT a ∧ VT b ∧ VT (jnT a b) ∧ ∃ g c, e = .returned (.slice (some ⟨g, 0, none⟩) 8 c) ∧ Own w' w.heap.size (some ⟨g, 0, none⟩) c (jnT a b)) ∨ (¬ (VT a ∧ VT b ∧ VT (jnT a b)) ∧ e = .returned (.slice none 0 0)))

set_option maxHeartbeats 2000000 in
set_option maxRecDepth 100000 in
theorem SJoinTables_any (A B : Option Addr) (ca cb : Nat) (a b : List Int) (w : World) (hA : Rd w A ca a) (hB : Rd w B cb b) (hla : a.length ≤ ca) (hlb : b.length ≤ cb) (ha : a.length ≤ 1099511627776) (hb : b.length ≤ 1099511627776) :
    Calls Try.prog 124 #[.slice A a.length ca, .slice B b.length cb] w (JnIs w a b) := by
  have HVA := Lib.hid (fun w1 (h : Rd w1 A ca a) => SvalidTable_any A ca a w1 h ha)
  have HVB := Lib.hid (fun w1 (h : Rd w1 B cb b) => SvalidTable_any B cb b w1 h hb)
  rcases hva : vt a with _ | _
  · have hna : ¬ VT a := fun h => by rw [vt_true h] at hva; cases hva
    rw [hva] at HVA
    clear hva
    go_enter Try.func124, Try.ntmps124
    go_wp2_with fail
    refine (HVA.out w hA).mono ?_
    rintro e w1 ⟨rfl, n, rfl⟩
    go_wp2
    go_ret
    exact ⟨below_drewN' (Below.refl _ _) n, .inr ⟨fun h => hna h.1, rfl⟩⟩
  rcases hvb : vt b with _ | _
  · have hnb : ¬ VT b := fun h => by rw [vt_true h] at hvb; cases hvb
    rw [hva] at HVA
    rw [hvb] at HVB
    clear hva hvb
    go_enter Try.func124, Try.ntmps124
    go_wp2_with fail
    refine (HVA.out w hA).mono ?_
    rintro e w1 ⟨rfl, n, rfl⟩
    go_wp2_with fail
    refine (HVB.out _ (hB.drewN n)).mono ?_
    rintro e w2 ⟨rfl, m, rfl⟩
    go_wp2
    go_ret
    exact ⟨below_drewN' (Below.refl _ _) (n + m), .inr ⟨fun h => hnb h.2.1, rfl⟩⟩
  have hVA : VT a := vt_iff.1 hva
  have hVB : VT b := vt_iff.1 hvb
  rw [hva] at HVA
  rw [hvb] at HVB
  have h8a := hVA.1
  have h8b := hVB.1
  rw [h8a] at HVA hla ⊢
  rw [h8b] at HVB hlb ⊢
  have HV : Hid (∀ t ∈ [a, b], VT t) := Lib.hid (by intro t ht; simp at ht; rcases ht with rfl | rfl <;> assumption)
  clear hva hvb
  go_enter Try.func124, Try.ntmps124
  go_wp2_with fail
  refine (HVA.out w hA).mono ?_
  rintro e w1 ⟨rfl, n, rfl⟩
  go_wp2_with fail
  refine (HVB.out _ (hB.drewN n)).mono ?_
  rintro e w2 ⟨rfl, m, rfl⟩
  go_wp2
  have HO : Hid (Own ((w.drewN (n + m)).alloc (.cells #[] 3)) w.heap.size (some ⟨w.heap.size, 0, none⟩) 0 ((jnT a b).take 0)) := Lib.hid (own_empty (w.drewN (n + m)))
  have hb0 : Below w.heap.size w ((w.drewN (n + m)).alloc (.cells #[] 3)) := (below_drewN' (Below.refl _ w) (n + m)).alloc (by simp) _
  go_loopw [5, 6] (fun o iv wr => ∃ (s g c : Nat), o = .slice (some ⟨g, 0, none⟩) s c ∧ iv = .int .i64 (s : Int) ∧ s ≤ 8 ∧ Hid (Own wr w.heap.size (some ⟨g, 0, none⟩) c ((jnT a b).take s)) ∧ Below w.heap.size w wr) (fun _ i _ => 8 - (intOf i).toNat)
  case atStart => exact ⟨0, w.heap.size, 0, rfl, rfl, by omega, HO, hb0⟩
  case round =>
    obtain ⟨s, g, c, rfl, rfl, hs, HO, hbl⟩ := hrel
    by_cases hlt : s < 8
    · have hs8 : (s : Int) < 8 := by omega
      have HRR : Hid (RdR (wr.alloc (.cells #[.slice A 8 ca, .slice B 8 cb] 28)) (some ⟨wr.heap.size, 0, none⟩) 2 [a, b]) := Lib.hid (by
        have hbA := (Below.refl _ wr).alloc (Nat.le_refl _) (.cells #[.slice A 8 ca, .slice B 8 cb] 28)
        refine ⟨by simp, .inr ⟨wr.heap.size, 0, rfl, fun k r hk => ?_⟩⟩
        rcases k with _ | _ | k
        · obtain rfl : a = r := by simpa using hk
          exact ⟨.slice A 8 ca, cell_new2 wr _ _ 28 |>.1, A, ca, by rw [h8a], by omega, (hA.below hbl).below hbA⟩
        · obtain rfl : b = r := by simpa using hk
          exact ⟨.slice B 8 cb, cell_new2 wr _ _ 28 |>.2, B, cb, by rw [h8b], by omega, (hB.below hbl).below hbA⟩
        · simp at hk)
      have HSV := Lib.hid (SsplitValue_any [a, b] (some ⟨wr.heap.size, 0, none⟩) 2 s _ HRR.out HV.out (by simp) hlt)
      have HSN := Lib.hid (jnT_snoc a b hlt)
      have HLN : Hid (((jnT a b).take s).length = s) := Lib.hid (by rw [List.length_take, jnT_len]; omega)
      have hs1 : s + 1 ≤ 8 := hlt
      have HOA : Hid (∀ j, Own (((wr.alloc (.cells #[.slice A 8 ca, .slice B 8 cb] 28)).drewN j).alloc (.cells #[.int .i64 (sv [a, b] s)] 3)) w.heap.size (some ⟨g, 0, none⟩) c ((jnT a b).take s)) := Lib.hid (fun j => World.ownsRow.alloc ((show Own (wr.alloc _) _ _ _ _ from World.ownsRow.alloc HO.out _).drewN j) _)
      have hbA : ∀ j, Below w.heap.size w (((wr.alloc (.cells #[.slice A 8 ca, .slice B 8 cb] 28)).drewN j).alloc (.cells #[.int .i64 (sv [a, b] s)] 3)) := fun j => (below_drewN' (hbl.alloc hbl.size _) j).alloc (by have := hbl.size; simp; omega) _
      have HBA := Lib.hid hbA
      have hz := hbl.size
      clear hlt HRR HO hbA
      go_wp2_with fail
      refine HSV.out.mono ?_
      rintro e w3 ⟨rfl, j, rfl⟩
      have hcn : (((wr.alloc (.cells #[.slice A 8 ca, .slice B 8 cb] 28)).drewN j).alloc (.cells #[.int .i64 (sv [a, b] s)] 3)).cell? ⟨wr.heap.size + 1, 0, none⟩ = some (.int .i64 (sv [a, b] s)) := by
        have := (own_lit ((wr.alloc (.cells #[.slice A 8 ca, .slice B 8 cb] 28)).drewN j) [sv [a, b] s] (by simp)).cell (i := 0) rfl
        simpa [World.size_alloc] using this
      have hsz : w.heap.size ≤ (((wr.alloc (.cells #[.slice A 8 ca, .slice B 8 cb] 28)).drewN j).alloc (.cells #[.int .i64 (sv [a, b] s)] 3)).heap.size := (HBA.out j).size
      have hgg := (HOA.out j).ge
      go_wp2_with (at_builtin; refine wpList_append_int rfl _ _ rfl w.heap.size g s c ((jnT a b).take s) HLN.out rfl (HOA.out j) (wr.heap.size + 1) _ rfl hcn (by omega) hsz ?_; intro g2 c2 w4 o4 g4 h4; have hb4 := (HBA.out j).grown g4 hsz (fun k e => by injection e with e; omega))
      go_roundw
      case rel => exact ⟨s + 1, g2, c2, rfl, by go_num, hs1, Lib.hid (by rw [HSN.out]; exact o4), hb4⟩
      case measure => simp only [intOf]; omega
    · obtain rfl : s = 8 := by omega
      have HOT : Hid (Own wr w.heap.size (some ⟨g, 0, none⟩) c (jnT a b)) := Lib.hid (by have := HO.out; rw [← jnT_len a b, List.take_length] at this; exact this)
      have HVT := Lib.hid (SvalidTable_any (some ⟨g, 0, none⟩) c (jnT a b) wr HOT.out.rd (by rw [jnT_len]; omega))
      rw [jnT_len] at HVT
      clear hlt HO
      rcases hvt : vt (jnT a b) with _ | _
      · have hn : ¬ VT (jnT a b) := fun h => by rw [vt_true h] at hvt; cases hvt
        rw [hvt] at HVT
        clear hvt
        go_wp2_with fail
        refine HVT.out.mono ?_
        rintro e w3 ⟨rfl, j, rfl⟩
        go_wp2
        go_ret
        exact ⟨below_drewN' hbl j, .inr ⟨fun h => hn h.2.2, rfl⟩⟩
      · have hy : VT (jnT a b) := vt_iff.1 hvt
        rw [hvt] at HVT
        clear hvt
        go_wp2_with fail
        refine HVT.out.mono ?_
        rintro e w3 ⟨rfl, j, rfl⟩
        go_wp2
        go_ret
        exact ⟨below_drewN' hbl j, .inl ⟨hVA, hVB, hy, g, c, rfl, HOT.out.drewN j⟩⟩

end Go.Proofs.Ytfjncipekjnbjab
