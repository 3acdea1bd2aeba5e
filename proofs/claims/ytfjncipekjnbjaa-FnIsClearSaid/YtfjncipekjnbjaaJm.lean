/-
  Chapter 6: the program's DemandAt.
-/
import Derived.Test.YtfjncipekjnbjaaJl
namespace Go.Proofs.Ytfjncipekjnbjaa
open Go.RowKit

set_option maxRecDepth 100000 in
set_option maxHeartbeats 1600000 in
theorem DemandAt_any (A B : Option Addr) (c d : Nat) (t p : List Int) (w : World) (h : Rd w A c t) (g : Rd w B d p) (hl : t.length ≤ 1099511627776) :
    Calls Try.prog 24 #[.slice A t.length c, .slice B p.length d] w (OwnIs w (dmB t p)) := by
  have HI := Lib.hid (isPriced_any A B c d t p w h g hl)
  rcases hv : vt t && vp p with _ | _
  · have HE : Hid (dmB t p = []) := Lib.hid (by unfold dmB; rw [hv]; rfl)
    rw [hv] at HI
    clear hv
    go_enter Try.func24, Try.ntmps24
    go_wp2_with (go_at_call 77; refine HI.out.mono ?_; rintro e w1 ⟨rfl, hb⟩)
    go_ret
    exact ⟨none, 0, by rw [HE.out]; rfl, by rw [HE.out]; exact own_none _ _, hb⟩
  · rw [hv] at HI
    have HE : Hid (dmB t p = dm t p) := Lib.hid (by unfold dmB; rw [hv]; rfl)
    obtain ⟨h1, h2⟩ := Bool.and_eq_true_iff.1 hv
    have hvt := vt_iff.1 h1
    have hvp := vp_iff.1 h2
    have h8 := hvt.1
    have h3 := hvp.1
    have HL0 := fun w1 => leftAt_any t p w1 hvt hvp
    unfold ag8 ag3 at HL0
    have HL := Lib.hid HL0
    clear HL0
    have HM := Lib.hid (lfL_max (p := p) hvt.2.1)
    have HZ : Hid (0 ≤ T (lfL t p) 0) := Lib.hid (by show 0 ≤ lf t p 0; rw [lf_zero hvt.2.1]; omega)
    obtain ⟨b, off, rfl⟩ := h.some_ h8
    obtain ⟨b2, off2, rfl⟩ := g.some3 h3
    have hap := arr_ptr b off c
    have hap3 := arr3_ptr b2 off2 d
    rw [HE.out]
    rw [h8, h3] at HI ⊢
    clear hv h1 h2 hvt hvp HE
    go_enter Try.func24, Try.ntmps24
    go_wp2_with fail
    refine HI.out.mono ?_
    rintro e w1 ⟨rfl, hb⟩
    have hbd : Below w1.heap.size w1 w1.drew := (Below.refl _ w1).drew
    have hba : Below w1.heap.size w1 (w1.alloc (.cells #[.int .i64 0, .int .i64 0, .int .i64 0, .int .i64 0, .int .i64 0, .int .i64 0, .int .i64 0, .int .i64 0] 65)) := (Below.refl _ w1).alloc (Nat.le_refl _) _
    have hA1 := Arr.new w1 (List.replicate 8 0) rfl
    obtain ⟨c0, c1, c2, c3, c4, c5, c6, c7⟩ := ((h.below hb).below hbd).eight h8
    obtain ⟨g0, g1, g2⟩ := ((g.below hb).below hbd).three h3
    obtain ⟨c0', c1', c2', c3', c4', c5', c6', c7'⟩ := ((h.below hb).below hba).eight h8
    obtain ⟨g0', g1', g2'⟩ := ((g.below hb).below hba).three h3
    go_wp2_with fail
    refine wp_alike (fun M => ⟨#[.slice (some ⟨b, off, none⟩) 8 c, .slice (some ⟨b2, off2, none⟩) 3 d, undef, undef, .slice none 0 0, .pointer (some ⟨M, 0, none⟩), undef, undef, undef, undef, .slice (some ⟨b, off, none⟩) 8 c, .slice (some ⟨b2, off2, none⟩) 3 d, .bool true, .bool false, .slice (some ⟨b, off, none⟩) 8 c, .pointer (some ⟨b, off, none⟩), .agg #[.int .i64 (T t 0), .int .i64 (T t 1), .int .i64 (T t 2), .int .i64 (T t 3), .int .i64 (T t 4), .int .i64 (T t 5), .int .i64 (T t 6), .int .i64 (T t 7)], .slice (some ⟨b2, off2, none⟩) 3 d, .pointer (some ⟨b2, off2, none⟩), .agg #[.int .i64 (T p 0), .int .i64 (T p 1), .int .i64 (T p 2)], .agg #[.int .i64 (lf t p 0), .int .i64 (lf t p 1), .int .i64 (lf t p 2), .int .i64 (lf t p 3), .int .i64 (lf t p 4), .int .i64 (lf t p 5), .int .i64 (lf t p 6), .int .i64 (lf t p 7)], undef, undef, undef, undef, undef, undef, undef, undef, undef, undef, undef, undef, undef, undef, undef, undef], []⟩) (PutAt w1 (lit8 (lf t p))) (fun K1 h1 => ?first) ?rest
    case first =>
      go_region_law (first
        | (go_simp; go_at_call 81; (with_reducible refine (HL.out (w1.alloc (.cells #[.int .i64 0, .int .i64 0, .int .i64 0, .int .i64 0, .int .i64 0, .int .i64 0, .int .i64 0, .int .i64 0] 65)).drew).mono ?_); rintro e w2 ⟨rfl, hb2⟩; have hA2 := hA1.keep (hb2.block _ hA1.lt); have hB2 := below_then hba.drew hb2; have hP := put8 hB2 hA2 (Nat.le_refl _) (lf t p); obtain ⟨e0, e1, e2, e3, e4, e5, e6, e7⟩ := hA2.all; have f0 := hA2.free 0; have f1 := hA2.free 1; have f2 := hA2.free 2; have f3 := hA2.free 3; have f4 := hA2.free 4; have f5 := hA2.free 5; have f6 := hA2.free 6; have f7 := hA2.free 7)
        | (go_simp; go_at_call 81; (with_reducible refine (HL.out w1.drew).mono ?_); rintro e w2 ⟨rfl, hb2⟩; have hB2 := below_then hbd hb2; have hP := put_new hB2 (lf t p)))
      all_goals with_reducible exact exit_normal (h1 _ _ hP)
    case rest =>
      rintro M w2 ⟨hM, hB2, hA⟩
      clear hba hA1 c0 c1 c2 c3 c4 c5 c6 c7 g0 g1 g2 c0' c1' c2' c3' c4' c5' c6' c7' g0' g1' g2'
      have HX := Lib.hid (MaxFrom_any (some ⟨M, 0, none⟩) 8 8 (lfL t p) w2 rfl (hA.rd 8) (by omega) (by omega) HZ.out)
      rw [HM.out] at HX
      go_wp2_with fail
      refine HX.out.mono ?_
      rintro e w3 ⟨rfl, rfl⟩
      have BB := below_then hb hB2
      obtain ⟨e0, e1, e2, e3, e4, e5, e6, e7⟩ := hA.all
      have HI8 : Hid (∀ (k : Nat), k < 8 → ∀ w1, (Instr.index 65 (.agg #[.int .i64 (T (lit8 (lf t p)) 0), .int .i64 (T (lit8 (lf t p)) 1), .int .i64 (T (lit8 (lf t p)) 2), .int .i64 (T (lit8 (lf t p)) 3), .int .i64 (T (lit8 (lf t p)) 4), .int .i64 (T (lit8 (lf t p)) 5), .int .i64 (T (lit8 (lf t p)) 6), .int .i64 (T (lit8 (lf t p)) 7)]) (.int .i64 (k : Int))).run Try.prog w1 = .ok (.int .i64 (lf t p k)) w1) := Lib.hid (fun k hk w1 => by have h1 := idx8 (T (lit8 (lf t p))) hk w1; rw [lit8_at _ hk] at h1; exact h1)
      go_wp2
      clear e0 e1 e2 e3 e4 e5 e6 e7 hA hB2 HX HL HM HZ
      go_loopw [7, 24] (fun o i wr => ∃ (k m : Nat) (A1 : Option Addr) (c1 : Nat), k ≤ 8 ∧ o = .slice A1 m c1 ∧ i = .int .i64 (k : Int) ∧ Hid (m = (dmTo t p k).length) ∧ m ≤ 8 ∧ Hid (Own wr w.heap.size A1 c1 (dmTo t p k)) ∧ Below w.heap.size w wr) (fun _ i _ => 8 - (intOf i).toNat)
      case atStart => exact ⟨0, 0, none, 0, by omega, rfl, rfl, Lib.hid rfl, by omega, Lib.hid (own_none _ _), BB⟩
      case round =>
        obtain ⟨k, m, A1, c1, hk, rfl, rfl, HN, hm, HO, hbr⟩ := hrel
        by_cases hlt : k < 8
        · have hi := HI8.out k hlt
          have hkk := dmTo_len t p k
          have hmk : m ≤ k := by rw [HN.out]; exact hkk
          have HYE : lf t p k = su t p → Hid (dmTo t p (k + 1) = dmTo t p k ++ [(k : Int)]) := fun h => Lib.hid (dmTo_yes h)
          have HNO : ¬ lf t p k = su t p → Hid (dmTo t p (k + 1) = dmTo t p k) := fun h => Lib.hid (dmTo_no h)
          have hk8 : (k : Int) < 8 := by omega
          have hk0 : (0 : Int) ≤ (k : Int) := by omega
          have hk1 : k + 1 ≤ 8 := hlt
          clear hkk hlt
          by_cases he : lf t p k = su t p
          · have HT := HYE he
            have hq : (lf t p k == su t p) = true := by simp [he]
            have HOL := Lib.hid (own_lit wr [(k : Int)] (by simp))
            have HOA : Hid (Own (wr.alloc (.cells #[.int .i64 (k : Int)] 3)) w.heap.size A1 c1 (dmTo t p k)) := Lib.hid (World.ownsRow.alloc HO.out _)
            have hbA := hbr.alloc hbr.size (.cells #[.int .i64 (k : Int)] 3)
            clear he HYE HNO HO
            go_wp2_with (at_builtin; refine wpList_append_any rfl _ _ 24 Try.underlying24 rfl w.heap.size A1 c1 (dmTo t p k) m HN.out.symm rfl HOA.out _ _ [(k : Int)] 1 rfl rfl HOL.out.rd (by omega) hbA.size ?_; intro A4 c4 w4 o4 g4)
            have B4 := Own.grownBelow0 hbA HOA.out hbA.size g4
            have HO4 : Hid (Own w4 w.heap.size A4 c4 (dmTo t p (k + 1))) := Lib.hid (by rw [HT.out]; exact o4)
            have HN4 : Hid (m + 1 = (dmTo t p (k + 1)).length) := Lib.hid (by rw [HT.out, List.length_append, ← HN.out]; rfl)
            go_wp2
            go_roundw
            case rel => exact ⟨k + 1, m + 1, A4, c4, hk1, rfl, by go_num, HN4, by omega, HO4, B4⟩
            case measure => simp [intOf]; omega
          · have HT := HNO he
            have hq : (lf t p k == su t p) = false := by simp [he]
            have HO' : Hid (Own wr w.heap.size A1 c1 (dmTo t p (k + 1))) := Lib.hid (by rw [HT.out]; exact HO.out)
            have HN' : Hid (m = (dmTo t p (k + 1)).length) := Lib.hid (by rw [HT.out]; exact HN.out)
            clear he HYE HNO HO HN
            go_wp2
            go_roundw
            case rel => exact ⟨k + 1, m, A1, c1, hk1, rfl, by go_num, HN', hm, HO', hbr⟩
            case measure => simp [intOf]; omega
        · obtain rfl : k = 8 := by omega
          have HN' : Hid (m = (dm t p).length) := HN
          go_wp2
          go_ret
          exact ⟨A1, c1, by rw [← HN'.out]; rfl, HO.out, hbr⟩

theorem dmB_len (t p : List Int) : (dmB t p).length ≤ 8 := by unfold dmB; split; exact dm_len t p; simp
theorem DemandAt_both (t p : List Int) (hl : t.length ≤ 1048576) (gl : p.length ≤ 1048576) : ∃ zs : List Int, zs.length ≤ 8 ∧
    (∀ A c B d w, Rd w A c t → Rd w B d p → Calls Try.prog 26 #[.slice A t.length c, .slice B p.length d] w (OwnIs w zs)) ∧
    (∀ A c B d w, Rd w A c t → Rd w B d p → Calls Try.prog 24 #[.slice A t.length c, .slice B p.length d] w (OwnIs w zs)) :=
  ⟨dmB t p, dmB_len t p, fun A c B d w h g => SDemandAt_any A B c d t p w h g (by omega) (by omega), fun A c B d w h g => DemandAt_any A B c d t p w h g (by omega)⟩

end Go.Proofs.Ytfjncipekjnbjaa
