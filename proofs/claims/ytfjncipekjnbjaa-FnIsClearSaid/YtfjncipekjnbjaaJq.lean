/-
  Chapter 6: the program's JoinTables.
-/
import Derived.Test.YtfjncipekjnbjaaJl
import Derived.Test.YtfjncipekjnbjaaGQ
namespace Go.Proofs.Ytfjncipekjnbjaa
open Go.RowKit

/-- What is handed back for the joined table l. -/
def JtIs (w : World) (l : List Int) (e : Ending) (w' : World) : Prop := Below w.heap.size w w' ∧ ((vt l = true ∧ ∃ M, e = .returned (.slice (some ⟨M, 0, none⟩) 8 8) ∧ w.heap.size ≤ M ∧ Arr w' M l) ∨ (vt l = false ∧ e = .returned (.slice none 0 0)))
set_option maxRecDepth 100000 in
set_option maxHeartbeats 1600000 in
theorem JoinTables_yes (A B : Option Addr) (c d : Nat) (a b : List Int) (w : World) (h : Rd w A c a) (g : Rd w B d b) (hva : VT a) (hvb : VT b) :
    Calls Try.prog 38 #[.slice A a.length c, .slice B b.length d] w fun e w' => JtIs w (tg (T a) (T b)) e w' := by
  have h8 := hva.1
  have g8 := hvb.1
  have HVA := Lib.hid (ValidTable_any A c a w h (by omega))
  have HVB := Lib.hid (fun w1 (g : Rd w1 B d b) => ValidTable_any B d b w1 g (by omega))
  rw [vt_true hva] at HVA
  rw [vt_true hvb] at HVB
  have HL0 := fun w1 => together_any (T a) (T b) 30 30 (fun s hs => hva.bd hs) (fun s hs => hvb.bd hs) (by omega) w1
  obtain ⟨J, hJ⟩ : ∃ J, J = tg (T a) (T b) := ⟨_, rfl⟩
  have HLJ : Hid (lit8 (T J) = J) := Lib.hid (lit8_T (by rw [hJ]; exact tg_len _ _))
  rw [← hJ] at HL0 ⊢
  unfold ag8 at HL0
  have HL := Lib.hid HL0
  obtain ⟨b1, off, rfl⟩ := h.some_ h8
  obtain ⟨b2, off2, rfl⟩ := g.some_ g8
  have hap := arr_ptr b1 off c
  have hap2 := arr_ptr b2 off2 d
  rw [h8] at HVA ⊢
  rw [g8] at HVB ⊢
  clear HL0 hva hvb hJ
  go_enter Try.func38, Try.ntmps38
  go_wp2_with fail
  refine HVA.out.mono ?_
  rintro e w1 ⟨rfl, hb1⟩
  go_wp2_with fail
  refine (HVB.out _ (g.below hb1)).mono ?_
  rintro e w2 ⟨rfl, hb2⟩
  have hb := below_then hb1 hb2
  have hbd : Below w2.heap.size w2 w2.drew := (Below.refl _ w2).drew
  have hba : Below w2.heap.size w2 (w2.alloc (.cells #[.int .i64 0, .int .i64 0, .int .i64 0, .int .i64 0, .int .i64 0, .int .i64 0, .int .i64 0, .int .i64 0] 65)) := (Below.refl _ w2).alloc (Nat.le_refl _) _
  have hA1 := Arr.new w2 (List.replicate 8 0) rfl
  obtain ⟨c0, c1, c2, c3, c4, c5, c6, c7⟩ := ((h.below hb).below hbd).eight h8
  obtain ⟨g0, g1, g2, g3, g4, g5, g6, g7⟩ := ((g.below hb).below hbd).eight g8
  obtain ⟨c0', c1', c2', c3', c4', c5', c6', c7'⟩ := ((h.below hb).below hba).eight h8
  obtain ⟨g0', g1', g2', g3', g4', g5', g6', g7'⟩ := ((g.below hb).below hba).eight g8
  go_wp2_with fail
  refine wp_alike (fun M => ⟨#[.slice (some ⟨b1, off, none⟩) 8 c, .slice (some ⟨b2, off2, none⟩) 8 d, undef, undef, .slice none 0 0, .pointer (some ⟨M, 0, none⟩), .slice (some ⟨b1, off, none⟩) 8 c, .bool true, .bool false, .bool false, .slice (some ⟨b2, off2, none⟩) 8 d, .bool true, .bool false, .bool false, .slice (some ⟨b1, off, none⟩) 8 c, .pointer (some ⟨b1, off, none⟩), .agg #[.int .i64 (T a 0), .int .i64 (T a 1), .int .i64 (T a 2), .int .i64 (T a 3), .int .i64 (T a 4), .int .i64 (T a 5), .int .i64 (T a 6), .int .i64 (T a 7)], .slice (some ⟨b2, off2, none⟩) 8 d, .pointer (some ⟨b2, off2, none⟩), .agg #[.int .i64 (T b 0), .int .i64 (T b 1), .int .i64 (T b 2), .int .i64 (T b 3), .int .i64 (T b 4), .int .i64 (T b 5), .int .i64 (T b 6), .int .i64 (T b 7)], .agg #[.int .i64 (T J 0), .int .i64 (T J 1), .int .i64 (T J 2), .int .i64 (T J 3), .int .i64 (T J 4), .int .i64 (T J 5), .int .i64 (T J 6), .int .i64 (T J 7)], undef, undef, undef, undef], []⟩) (PutAt w2 (lit8 (T J))) (fun K1 h1 => ?first) ?rest
  case first =>
    go_region_law (first
      | (go_simp; go_at_call 93; (with_reducible refine (HL.out (w2.alloc (.cells #[.int .i64 0, .int .i64 0, .int .i64 0, .int .i64 0, .int .i64 0, .int .i64 0, .int .i64 0, .int .i64 0] 65)).drew).mono ?_); rintro e w3 ⟨rfl, hb3⟩; have hA2 := hA1.keep (hb3.block _ hA1.lt); have hB2 := below_then hba.drew hb3; have hP := put8 hB2 hA2 (Nat.le_refl _) (T J); obtain ⟨e0, e1, e2, e3, e4, e5, e6, e7⟩ := hA2.all; have f0 := hA2.free 0; have f1 := hA2.free 1; have f2 := hA2.free 2; have f3 := hA2.free 3; have f4 := hA2.free 4; have f5 := hA2.free 5; have f6 := hA2.free 6; have f7 := hA2.free 7)
      | (go_simp; go_at_call 93; (with_reducible refine (HL.out w2.drew).mono ?_); rintro e w3 ⟨rfl, hb3⟩; have hB2 := below_then hbd hb3; have hP := put_new hB2 (T J)))
    all_goals with_reducible exact exit_normal (h1 _ _ hP)
  case rest =>
    rintro M w3 ⟨hM, hB2, hA⟩
    rw [HLJ.out] at hA
    clear hba hA1 c0 c1 c2 c3 c4 c5 c6 c7 g0 g1 g2 g3 g4 g5 g6 g7 c0' c1' c2' c3' c4' c5' c6' c7' g0' g1' g2' g3' g4' g5' g6' g7'
    have HVJ := Lib.hid (ValidTable_any (some ⟨M, 0, none⟩) 8 J w3 (hA.rd 8) (by rw [hA.1]; omega))
    rw [hA.1] at HVJ
    have BB := below_then hb hB2
    have hMM : w.heap.size ≤ M := Nat.le_trans hb.size hM
    rcases hvj : vt J with _ | _
    · rw [hvj] at HVJ
      have HE := Lib.hid hvj
      clear hvj
      go_wp2_with fail
      refine HVJ.out.mono ?_
      rintro e w4 ⟨rfl, hb4⟩
      go_wp2
      go_ret
      exact ⟨below_then BB hb4, .inr ⟨HE.out, rfl⟩⟩
    · rw [hvj] at HVJ
      have HE := Lib.hid hvj
      clear hvj
      go_wp2_with fail
      refine HVJ.out.mono ?_
      rintro e w4 ⟨rfl, hb4⟩
      have hA4 := hA.keep (hb4.block _ hA.lt)
      go_wp2
      go_ret
      exact ⟨below_then BB hb4, .inl ⟨HE.out, M, rfl, hMM, hA4⟩⟩

end Go.Proofs.Ytfjncipekjnbjaa
