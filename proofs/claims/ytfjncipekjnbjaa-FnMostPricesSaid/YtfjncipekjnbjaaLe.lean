/-
  Chapter 7: what things take when they are missing, by the model and by the program.
-/
import Derived.Test.YtfjncipekjnbjaaLa
import Derived.Test.YtfjncipekjnbjaaLd
import Derived.Test.YtfjncipekjnbjaaRw
import Derived.Test.YtfjncipekjnbjaaWj
import Derived.Test.YtfjncipekjnbjaaWm
import Derived.Deep.RegionLaw
namespace Go.Proofs.Ytfjncipekjnbjaa
open Go.RowKit

open Classical in
/-- What MostPrices tells. -/
noncomputable def mpL (ts : List (List Int)) : List Int := if VTs ts then vls (mpF ts) 3 else []
theorem mpL_len (ts : List (List Int)) : (mpL ts).length ≤ 3 := by
  unfold mpL; split
  · rw [vls_len]; omega
  · simp
theorem mpL_no {ts : List (List Int)} (h : vtsB ts = false) : mpL ts = [] := if_neg (fun hv => by rw [vtsB_true hv] at h; cases h)
theorem mpL_yes {ts : List (List Int)} (h : VTs ts) : mpL ts = vls (mpF ts) 3 := if_pos h

theorem Sall7_any (w : World) : Calls Try.prog 113 #[] w fun e w' => e = .returned (.int .i64 7) ∧ w = w' := by
  have HP : Hid (∀ w1, Calls Try.prog 88 #[.int .i64 3] w1 fun e w' => e = .returned (.int .i64 8) ∧ w1 = w') := Lib.hid (fun w1 => Spower_any 3 (by omega) w1)
  go_enter Try.func113, Try.ntmps113
  go_wp2_with (go_at_call 88; refine (HP.out _).mono ?_; rintro e w1 ⟨rfl, rfl⟩)
  go_ret
  exact ⟨rfl, rfl⟩

set_option maxRecDepth 100000 in
set_option maxHeartbeats 1600000 in
theorem SMostPrices_any (A : Option Addr) (c : Nat) (ts : List (List Int)) (w : World) (h : RdR w A c ts) (hl : ts.length ≤ 1099511627776) (hl2 : ∀ r ∈ ts, r.length ≤ 1099511627776) :
    Calls Try.prog 58 #[.slice A ts.length c] w (OwnIs w (mpL ts)) := by
  have HC := Lib.hid (SvalidTables_any A c ts w h hl hl2)
  rcases hb : vtsB ts with _ | _
  · rw [hb] at HC
    rw [mpL_no hb]
    clear hb hl2 hl h
    go_enter Try.func58, Try.ntmps58
    go_wp2_with fail
    refine HC.out.mono ?_
    rintro e w1 ⟨rfl, n, rfl⟩
    go_wp2
    go_ret
    exact ⟨none, 0, rfl, own_none _ _, below_drewN' (Below.refl _ _) _⟩
  have hv := vtsB_iff.1 hb
  rw [hb] at HC
  rw [mpL_yes hv]
  have h4 : ts.length ≤ 4 := hv.1.2
  obtain ⟨n, hn⟩ : ∃ n, n = ts.length := ⟨_, rfl⟩
  obtain ⟨f, hf⟩ : ∃ f, f = mpF ts := ⟨_, rfl⟩
  have HF := Lib.hid hf
  obtain ⟨V, hV⟩ : ∃ V, V = sv ts 7 := ⟨_, rfl⟩
  have hv0 := sv_nonneg ts 7
  have hv1 := sv_bd hv.2 7 (by omega)
  have HBD := Lib.hid (fun x (hx : x < 8) => And.intro (sv_nonneg ts x) (sv_bd hv.2 x hx))
  have HSV := Lib.hid (fun (x : Nat) (hx : x < 8) (W : World) (hW : Below w.heap.size w W) => SsplitValue_any ts A c x W (h.below hW) hv.2 h4 hx)
  have HS7 := Lib.hid (HSV.out 7 (by omega))
  rw [← hV] at hv0 hv1 HS7
  rw [← hn] at HC h4 hv1 HSV HS7 HBD
  rw [← hf, ← hn]
  have HVE := Lib.hid hV
  clear hv hl2 hl h hn hf hV hb
  go_enter Try.func58, Try.ntmps58
  go_wp2_with fail
  refine HC.out.mono ?_
  rintro e w1 ⟨rfl, m, rfl⟩
  have B1 : Below w.heap.size w (w.drewN m) := below_drewN' (Below.refl _ _) m
  have B2 := B1.alloc B1.size (.cells #[] 3)
  have HO2 : Hid (Own ((w.drewN m).alloc (.cells #[] 3)) w.heap.size (some ⟨w.heap.size, 0, none⟩) 0 (vls f 0)) := Lib.hid (own_new_ints (w.drewN m))
  go_wp2
  go_loopw [3, 4] (fun o i wr => ∃ (j g2 c2 : Nat), j ≤ 3 ∧ i = .int .i64 j ∧ o = .slice (some ⟨g2, 0, none⟩) j c2 ∧ Hid (Own wr w.heap.size (some ⟨g2, 0, none⟩) c2 (vls f j)) ∧ Below w.heap.size w wr) (fun _ i _ => 3 - (intOf i).toNat)
  case atStart => exact ⟨0, w.heap.size, 0, Nat.zero_le _, rfl, rfl, HO2, B2⟩
  case round =>
    obtain ⟨j, g2, c2, hj, rfl, rfl, HO, hb⟩ := hrel
    by_cases hlt : j < 3
    · obtain ⟨p1, p2, p3⟩ := pow_sub7 hlt
      have HPW := Lib.hid (fun w1 => Spower_any j (by omega) w1)
      obtain ⟨M, hM⟩ : ∃ M, M = sv ts (7 - 2 ^ j) := ⟨_, rfl⟩
      have hmb := HBD.out _ p3
      have HSP := Lib.hid (HSV.out _ p3)
      rw [← hM] at hmb HSP
      have HFE : Hid (V - M = f j) := Lib.hid (by rw [HF.out]; unfold mpF; rw [← HVE.out, hM])
      obtain ⟨P, hP⟩ : ∃ P, P = 2 ^ j := ⟨_, rfl⟩
      rw [← hP] at p2 p3 HPW HSP
      have e0 : IntKind.i64.wrap (7 - (P : Int)) = ((7 - P : Nat) : Int) := by rw [IntWalk.i64_in _ (by omega)]; omega
      have e1 : IntKind.i64.wrap (V - M) = V - M := IntWalk.i64_in _ (by omega)
      have hj3 : (j : Int) < 3 := by omega
      have hj1 : j + 1 ≤ 3 := hlt
      have hn63 : j + 1 ≤ 1099511627776 := by omega
      clear hM hP p1 hlt
      go_wp2_with fail
      refine (Sall7_any wr).mono ?_
      rintro e w3 ⟨rfl, rfl⟩
      go_wp2_with fail
      refine (HS7.out wr hb).mono ?_
      rintro e w4 ⟨rfl, n4, rfl⟩
      have B4 := below_drewN' hb n4
      have HO4 := Lib.hid (HO.out.drewN n4)
      go_wp2_with fail
      refine (Sall7_any _).mono ?_
      rintro e w5 ⟨rfl, rfl⟩
      go_wp2_with fail
      refine (HPW.out _).mono ?_
      rintro e w6 ⟨rfl, rfl⟩
      go_wp2_with fail
      refine (HSP.out _ B4).mono ?_
      rintro e w7 ⟨rfl, m7, rfl⟩
      have B7 : Below w.heap.size w (wr.drewN (n4 + m7)) := below_drewN' hb (n4 + m7)
      have hal := (Below.refl (wr.drewN (n4 + m7)).heap.size (wr.drewN (n4 + m7))).alloc (Nat.le_refl _) (.cells #[.int .i64 (V - M)] 3)
      have HO8 := Lib.hid ((HO.out.drewN (n4 + m7)).below hal)
      have B8 := B7.trans (hal.mono B7.size)
      have HX := Lib.hid (ints_one (wr.drewN (n4 + m7)) (V - M))
      have hS8 := B8.size
      clear hal HO HO4 B4
      go_wp2_with (at_builtin; refine wpList_append_any rfl _ _ 24 Try.underlying24 rfl w.heap.size (some ⟨g2, 0, none⟩) c2 (vls f j) j (vls_len _ _) rfl HO8.out (some ⟨wr.heap.size, 0, none⟩) 1 [V - M] 1 rfl rfl HX.out hn63 hS8 ?_; intro A9 c9 w9 o9 g9')
      obtain ⟨g9, rfl⟩ := own_some o9 (by simp)
      have B9 := Own.grownBelow0 B8 HO8.out B8.size g9'
      have HO9 : Hid (Own w9 w.heap.size (some ⟨g9, 0, none⟩) c9 (vls f (j + 1))) := Lib.hid (by rw [vls_more, ← HFE.out]; exact o9)
      clear o9 g9'
      go_wp2
      go_roundw
      case rel => exact ⟨j + 1, g9, c9, by omega, by go_num, rfl, HO9, B9⟩
      case measure => simp [intOf]; omega
    · obtain rfl : j = 3 := by omega
      have HOE := Lib.hid HO.out
      go_wp2
      go_ret
      exact ⟨some ⟨g2, 0, none⟩, c2, by rw [vls_len]; rfl, HOE.out, hb⟩

/-- The prices of the first k things, the others nought. -/
def mpS (f : Nat → Int) (k : Nat) : List Int := (List.range 3).map (fun i => if i < k then f i else 0)
theorem mpS_len (f : Nat → Int) (k : Nat) : (mpS f k).length = 3 := by simp [mpS]
theorem mpS_at (f : Nat → Int) (k : Nat) {i : Nat} (hi : i < 3) : T (mpS f k) i = if i < k then f i else 0 := by
  apply T_of
  simp [mpS, hi]
theorem mpS_zero (f : Nat → Int) : mpS f 0 = [0, 0, 0] := rfl
theorem mpS_step (f : Nat → Int) {k : Nat} (hk : k < 3) : mpS f (k + 1) = (mpS f k).set k (f k) := ext3 (mpS_len _ _) (by rw [List.length_set]; exact mpS_len _ _) (fun x hx => by
  rw [T_set (by rw [mpS_len]; exact hk), mpS_at _ _ hx, mpS_at _ _ hx]
  by_cases h1 : k = x
  · subst h1; rw [if_pos (by omega), if_pos rfl]
  · rw [if_neg h1]
    by_cases h2 : x < k
    · rw [if_pos (by omega), if_pos h2]
    · rw [if_neg (by omega), if_neg h2])
theorem mpS_end (f : Nat → Int) : mpS f 3 = vls f 3 := by simp [mpS, vls, List.range_succ]
theorem less_bits {j : Nat} (hj : j < 3) : bits .andNot .i64 7 ((2 ^ j : Nat) : Int) = ((7 - 2 ^ j : Nat) : Int) := by
  rcases nat3 hj with rfl | rfl | rfl <;> decide

/-- Where MostPrices' world stands. -/
def MpAt (w wr : World) (W f : Nat → Int) (k : Nat) : Prop := Below w.heap.size w wr ∧ Arr wr w.heap.size (lit8 W) ∧ Pr3 wr (w.heap.size + 1) (mpS f k)
theorem MpAt.put {w wr : World} {W f : Nat → Int} {k : Nat} (h : MpAt w wr W f k) (hk : k < 3) : MpAt w (wr.setCell ⟨w.heap.size + 1, k, none⟩ (.int .i64 (f k))) W f (k + 1) :=
  ⟨h.1.setCell (by show w.heap.size ≤ w.heap.size + 1; omega) _, h.2.1.keep (Below.heap_setCell wr ⟨w.heap.size + 1, k, none⟩ _ w.heap.size (by simp)), by rw [mpS_step f hk]; exact h.2.2.set_ (mpS_len _ _) hk _⟩
theorem MpAt.drew {w wr : World} {W f : Nat → Int} {k : Nat} (h : MpAt w wr W f k) : MpAt w wr.drew W f k := ⟨h.1.drew, h.2.1.keep rfl, h.2.2.keep rfl⟩
theorem mpAt_zero (w : World) (W f : Nat → Int) : MpAt w ((w.alloc (.cells #[.int .i64 (W 0), .int .i64 (W 1), .int .i64 (W 2), .int .i64 (W 3), .int .i64 (W 4), .int .i64 (W 5), .int .i64 (W 6), .int .i64 (W 7)] 65)).alloc (.cells #[.int .i64 0, .int .i64 0, .int .i64 0] 68)) W f 0 := by
  refine ⟨((Below.refl _ w).alloc (Nat.le_refl _) _).alloc (by simp) _, (Arr.new w (lit8 W) rfl).alloc _, ?_⟩
  have := Pr3.new (w.alloc (.cells #[.int .i64 (W 0), .int .i64 (W 1), .int .i64 (W 2), .int .i64 (W 3), .int .i64 (W 4), .int .i64 (W 5), .int .i64 (W 6), .int .i64 (W 7)] 65)) [0, 0, 0]
  rw [World.size_alloc] at this
  exact this

set_option maxRecDepth 100000 in
set_option maxHeartbeats 1600000 in
theorem MostPrices_any (A : Option Addr) (c : Nat) (ts : List (List Int)) (w : World) (h : RdR w A c ts) (hl2 : ∀ r ∈ ts, r.length ≤ 1099511627776) :
    Calls Try.prog 53 #[.slice A ts.length c] w (Own3Is w (mpL ts)) := by
  have HC := Lib.hid (areTables_any A c ts w h hl2)
  rcases hb : vtsB ts with _ | _
  · rw [hb] at HC
    rw [mpL_no hb]
    clear hb hl2 h
    go_enter Try.func53, Try.ntmps53
    go_wp2_with fail
    refine HC.out.mono ?_
    rintro e w1 ⟨rfl, b1⟩
    go_wp2
    go_ret
    exact ⟨none, 0, rfl, .inl (own_none _ _), b1⟩
  have hv := vtsB_iff.1 hb
  rw [hb] at HC
  rw [mpL_yes hv]
  have h4 : ts.length ≤ 4 := hv.1.2
  have hz : ∀ t ∈ ts, T t 0 = 0 := fun t ht => (hv.2 t ht).2.1
  have HJ0 := fun w1 (h : RdR w1 A c ts) => joinedOf_any A c ts w1 h hv
  obtain ⟨W, hW⟩ : ∃ W, W = T (jnAll ts) := ⟨_, rfl⟩
  rw [← hW] at HJ0
  unfold ag8 at HJ0
  have HJ := Lib.hid HJ0
  have HWV : Hid (∀ x, x < 8 → W x = sv ts x) := Lib.hid (fun x hx => by rw [hW]; exact jnAll_at hz hx)
  have HWB : Hid (∀ x, x < 8 → 0 ≤ W x ∧ W x ≤ 120) := Lib.hid (fun x hx => by have h1 := sv_nonneg ts x; have h2 := sv_bd hv.2 x hx; rw [HWV.out x hx]; omega)
  obtain ⟨f, hf⟩ : ∃ f, f = mpF ts := ⟨_, rfl⟩
  have HF : Hid (∀ j, j < 3 → f j = W 7 - W (7 - 2 ^ j)) := Lib.hid (fun j hj => by rw [hf, HWV.out 7 (by omega), HWV.out _ (pow_sub7 hj).2.2]; rfl)
  rw [← hf]
  have HI := Lib.hid (fun (k : Nat) (hk : k < 8) w1 => idx8 W hk w1)
  clear hv hl2 hf hW hb hz HJ0 HWV
  go_enter Try.func53, Try.ntmps53
  go_wp2_with fail
  refine HC.out.mono ?_
  rintro e w1 ⟨rfl, b1⟩
  go_wp2_with fail
  refine (HJ.out _ (h.below b1)).mono ?_
  rintro e w2 ⟨rfl, b2⟩
  have B2 := below_then b1 b2
  go_wp2_with fail
  have HS0 : Hid (MpAt w2 ((w2.alloc (.cells #[.int .i64 (W 0), .int .i64 (W 1), .int .i64 (W 2), .int .i64 (W 3), .int .i64 (W 4), .int .i64 (W 5), .int .i64 (W 6), .int .i64 (W 7)] 65)).alloc (.cells #[.int .i64 0, .int .i64 0, .int .i64 0] 68)) W f 0) := Lib.hid (mpAt_zero w2 W f)
  obtain ⟨w3, hw3⟩ : ∃ w3, w3 = ((w2.alloc (.cells #[.int .i64 (W 0), .int .i64 (W 1), .int .i64 (W 2), .int .i64 (W 3), .int .i64 (W 4), .int .i64 (W 5), .int .i64 (W 6), .int .i64 (W 7)] 65)).alloc (.cells #[.int .i64 0, .int .i64 0, .int .i64 0] 68)) := ⟨_, rfl⟩
  rw [← hw3] at HS0 ⊢
  clear hw3
  go_loopw [11] (fun iv wr => ∃ k : Nat, k ≤ 3 ∧ iv = .int .i64 (k : Int) ∧ Hid (MpAt w2 wr W f k)) (fun iv _ => 3 - (intOf iv).toNat)
  case atStart => exact ⟨0, by omega, rfl, HS0⟩
  case round =>
    obtain ⟨k, hk, rfl, HS⟩ := hrel
    by_cases hlt : k < 3
    · have c7 := HS.out.2.1.cell (k := 7) (by omega)
      rw [lit8_at _ (by omega)] at c7
      have h7b := HWB.out 7 (by omega)
      have hpc := HS.out.2.2.cell hlt
      have hpf := HS.out.2.2.free k
      rcases nat3 hlt with rfl | rfl | rfl
      · have e0 : bits .andNot .i64 7 (IntKind.i64.wrap 1) = 6 := by decide
        have cx := HS.out.2.1.cell (k := 6) (by omega)
        rw [lit8_at _ (by omega)] at cx
        have hxb := HWB.out 6 (by omega)
        have hfe := HF.out 0 (by omega)
        rw [show 7 - 2 ^ 0 = 6 from rfl] at hfe
        have HP : Hid (MpAt w2 wr W f 0 → MpAt w2 (wr.setCell ⟨w2.heap.size + 1, 0, none⟩ (.int .i64 (W 7 - W 6))) W f 1) := Lib.hid (fun h => by rw [← hfe]; exact h.put (by omega))
        have HQ := Lib.hid (HP.out HS.out)
        have e1 : IntKind.i64.wrap (W 7 - W 6) = W 7 - W 6 := IntWalk.i64_in _ (by omega)
        clear hxb hfe
        have HS' := HS.out.2.2
        go_wp2_with fail
        go_region_law (fail)
        all_goals (
          go_wp2
          go_roundw
          case rel => exact ⟨1, by omega, by go_num, Lib.hid HQ.out.drew⟩
          case measure => simp [intOf])
      · have e0 : bits .andNot .i64 7 (IntKind.i64.wrap 2) = 5 := by decide
        have cx := HS.out.2.1.cell (k := 5) (by omega)
        rw [lit8_at _ (by omega)] at cx
        have hxb := HWB.out 5 (by omega)
        have hfe := HF.out 1 (by omega)
        rw [show 7 - 2 ^ 1 = 5 from rfl] at hfe
        have HP : Hid (MpAt w2 wr W f 1 → MpAt w2 (wr.setCell ⟨w2.heap.size + 1, 1, none⟩ (.int .i64 (W 7 - W 5))) W f 2) := Lib.hid (fun h => by rw [← hfe]; exact h.put (by omega))
        have HQ := Lib.hid (HP.out HS.out)
        have e1 : IntKind.i64.wrap (W 7 - W 5) = W 7 - W 5 := IntWalk.i64_in _ (by omega)
        clear hxb hfe
        have HS' := HS.out.2.2
        go_wp2_with fail
        go_region_law (fail)
        all_goals (
          go_wp2
          go_roundw
          case rel => exact ⟨2, by omega, by go_num, Lib.hid HQ.out.drew⟩
          case measure => simp [intOf])
      · have e0 : bits .andNot .i64 7 (IntKind.i64.wrap 4) = 3 := by decide
        have cx := HS.out.2.1.cell (k := 3) (by omega)
        rw [lit8_at _ (by omega)] at cx
        have hxb := HWB.out 3 (by omega)
        have hfe := HF.out 2 (by omega)
        rw [show 7 - 2 ^ 2 = 3 from rfl] at hfe
        have HP : Hid (MpAt w2 wr W f 2 → MpAt w2 (wr.setCell ⟨w2.heap.size + 1, 2, none⟩ (.int .i64 (W 7 - W 3))) W f 3) := Lib.hid (fun h => by rw [← hfe]; exact h.put (by omega))
        have HQ := Lib.hid (HP.out HS.out)
        have e1 : IntKind.i64.wrap (W 7 - W 3) = W 7 - W 3 := IntWalk.i64_in _ (by omega)
        clear hxb hfe
        have HS' := HS.out.2.2
        go_wp2_with fail
        go_region_law (fail)
        all_goals (
          go_wp2
          go_roundw
          case rel => exact ⟨3, by omega, by go_num, Lib.hid HQ.out.drew⟩
          case measure => simp [intOf])
    · obtain rfl : k = 3 := by omega
      obtain ⟨hbl, _, hp⟩ := HS.out
      rw [mpS_end] at hp
      have hlen : (vls f 3).length = 3 := vls_len _ _
      go_wp2
      go_ret
      exact ⟨some ⟨w2.heap.size + 1, 0, none⟩, 3, by rw [hlen]; rfl, .inr ⟨w2.heap.size + 1, rfl, rfl, hlen, by have := B2.size; omega, hp⟩, below_then B2 hbl⟩

theorem MostPrices_both (rows : List (List Int)) : ∃ zs : List Int, zs.length ≤ 1000 ∧ (rows.length ≤ 1099511627776 → (∀ r ∈ rows, r.length ≤ 1099511627776) →
    (∀ A c w, RdR w A c rows → Calls Try.prog 58 #[.slice A rows.length c] w (OwnIs w zs)) ∧
    (∀ A c w, RdR w A c rows → Calls Try.prog 53 #[.slice A rows.length c] w (Own3Is w zs))) :=
  ⟨mpL rows, by have := mpL_len rows; omega, fun hl hl2 => ⟨fun A c w h => SMostPrices_any A c rows w h hl hl2, fun A c w h => MostPrices_any A c rows w h hl2⟩⟩

end Go.Proofs.Ytfjncipekjnbjaa
