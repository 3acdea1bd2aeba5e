/-
  Chapter 7: lists of three prices that are slices of arrays: marked, held, kept; rows marked, what else is there kept.
-/
import Derived.Test.YtccbjgajmjcpjabG32
import Derived.Test.YtccbjgajmjcpjabG34
import Derived.Test.YtccbjgajmjcpjabG24
import Derived.Test.YtccbjgajmjcpjabG17
import Derived.Test.YtccbjgajmjcpjabG10
import Derived.Test.YtccbjgajmjcpjabG07
import Derived.Test.YtccbjgajmjcpjabG08
import Derived.Deep.RegionLaw
namespace Go.Proofs.Ytccbjgajmjcpjab
open Go.RowKit

set_option maxHeartbeats 400000 in
theorem markPr3_any (M : Nat) (xs : List Int) (k : Int) (w : World) (h : Pr3 w M xs) (hl : xs.length = 3) (hk0 : 0 ≤ k) (hk1 : k ≤ 1099511627776) :
    Calls Try.prog 48 #[.slice (some ⟨M, 0, none⟩) xs.length 3, .int .i64 k] w fun e w' => e = .returned (.int .i64 (k + xs.length)) ∧ Pr3 w' M (upF k xs.length) ∧ w.grownBy w' (some M) := by
  go_enter Try.func48, Try.ntmps48
  go_wp2
  go_loopw [1, 5] (fun q i wr => ∃ j : Nat, j ≤ xs.length ∧ i = .int .i64 j ∧ q = .int .i64 (k + j) ∧ Hid (Pr3 wr M (markd k xs j) ∧ w.grownBy wr (some M)))
    (fun _ i _ => xs.length - (intOf i).toNat)
  case atStart => exact ⟨0, Nat.zero_le _, rfl, by simp, Lib.hid ⟨by rw [markd_zero]; exact h, World.grownBy.refl _ _⟩⟩
  case round =>
    obtain ⟨j, hj, rfl, rfl, HO⟩ := hrel
    by_cases hlt : j < xs.length
    · have hz := HO.out.1
      have hc := hz.cell (k := j) (by omega)
      have hf := hz.free j
      obtain ⟨x, hx⟩ : ∃ x, x = T (markd k xs j) j := ⟨_, rfl⟩
      rw [← hx] at hc
      have HS : Hid (Pr3 (wr.setCell ⟨M, j, none⟩ (.int .i64 (k + j))) M (markd k xs (j + 1)) ∧ w.grownBy (wr.setCell ⟨M, j, none⟩ (.int .i64 (k + j))) (some M)) := Lib.hid (by
        have h1 := hz.set_ (k := j) (by rw [markd_len k xs j (by omega)]; exact hl) (by omega) (k + j)
        rw [markd_set k xs j hlt] at h1
        exact ⟨h1, HO.out.2.trans (grown_set wr M j _)⟩)
      have hl8 : xs.length ≤ 8 := by omega
      clear hz hx h hl
      go_wp2
      go_roundw
      case rel => exact ⟨j + 1, by omega, by go_num, by go_num, HS⟩
      case measure => simp [intOf]; omega
    · obtain rfl : j = xs.length := by omega
      go_wp2
      go_ret
      exact ⟨rfl, by rw [← markd_all]; exact HO.out.1, HO.out.2⟩

theorem own_keepb {w w' : World} {B : Nat} {A : Option Addr} {c : Nat} {zs : List Int} (h : Own w B A c zs) (hb : ∀ g, ofA A = some g → w'.heap[g]? = w.heap[g]?) : Own w' B A c zs := by
  unfold Own at h ⊢
  refine ⟨h.1, ?_⟩
  rcases h.2 with h2 | ⟨g, cap, cur, hv, hB, hh, r⟩
  · exact .inl h2
  · refine .inr ⟨g, cap, cur, hv, hB, (hb g ?_).trans hh, r⟩
    injection hv with hA _ _
    rw [hA]
    rfl
/-- A slice of the call's own, or an array of prices of its own that is sliced. -/
def Own3 (w : World) (B : Nat) (A : Option Addr) (c : Nat) (zs : List Int) : Prop := Own w B A c zs ∨ ∃ M, A = some ⟨M, 0, none⟩ ∧ c = 3 ∧ zs.length = 3 ∧ B ≤ M ∧ Pr3 w M zs
theorem pr3_rd {w : World} {M : Nat} {zs : List Int} (h : Pr3 w M zs) (hl : zs.length = 3) (c : Nat) : Rd w (some ⟨M, 0, none⟩) c zs := .inr ⟨M, 0, rfl, fun k hk => by
  rw [Nat.zero_add, h.cell (by omega)]
  simp [T]⟩
theorem Own3.rd {w : World} {B : Nat} {A : Option Addr} {c : Nat} {zs : List Int} (h : Own3 w B A c zs) : Rd w A c zs := by
  rcases h with h | ⟨M, rfl, rfl, hl, _, h⟩
  · exact h.rd
  · exact pr3_rd h hl 3
theorem Own3.below {w w' : World} {B : Nat} {A : Option Addr} {c : Nat} {zs : List Int} (h : Own3 w B A c zs) (hb : Below w.heap.size w w') : Own3 w' B A c zs := by
  rcases h with h | ⟨M, rfl, rfl, hl, hB, h⟩
  · exact .inl (h.below hb)
  · exact .inr ⟨M, rfl, rfl, hl, hB, h.keep (hb.block _ h.lt)⟩
theorem Own3.drewN {w : World} {B : Nat} {A : Option Addr} {c : Nat} {zs : List Int} (h : Own3 w B A c zs) (n : Nat) : Own3 (w.drewN n) B A c zs := h
theorem Own3.blk {w : World} {B k : Nat} {A : Option Addr} {c : Nat} {xs : List Int} (h : Own3 w B A c xs) (hk : ofA A = some k) : B ≤ k ∧ k < w.heap.size := by
  rcases h with h | ⟨M, rfl, rfl, _, hM, h⟩
  · exact own_blk h hk
  · obtain rfl : M = k := by simpa [ofA] using hk
    exact ⟨hM, h.lt⟩
theorem Own3.keepb {w w' : World} {B : Nat} {A : Option Addr} {c : Nat} {zs : List Int} (h : Own3 w B A c zs) (hb : ∀ g, ofA A = some g → w'.heap[g]? = w.heap[g]?) : Own3 w' B A c zs := by
  rcases h with h | ⟨M, rfl, rfl, hl, hB, h⟩
  · exact .inl (own_keepb h hb)
  · exact .inr ⟨M, rfl, rfl, hl, hB, h.keep (hb M rfl)⟩
theorem Own3.grownBelow {w w' wa : World} {B B0 : Nat} {A0 : Option Addr} {c0 : Nat} {xs : List Int} (hb : Below B0 wa w) (ho : Own3 w B A0 c0 xs) (hs : B0 ≤ B) (hw : B0 ≤ w.heap.size) (hg : w.grownBy w' (ofA A0)) : Below B0 wa w' :=
  hb.grown hg hw (fun _ hk => Nat.le_trans hs (ho.blk hk).1)
theorem markIntS3_any (A : Option Addr) (c : Nat) (xs : List Int) (k : Int) (B : Nat) (w : World) (h : Own3 w B A c xs) (hl : xs.length ≤ 1099511627776) (hk0 : 0 ≤ k) (hk1 : k ≤ 1099511627776) :
    Calls Try.prog 48 #[.slice A xs.length c, .int .i64 k] w fun e w' => e = .returned (.int .i64 (k + xs.length)) ∧ Own3 w' B A c (upF k xs.length) ∧ w.grownBy w' (ofA A) := by
  rcases h with h | ⟨M, rfl, rfl, hl3, hM, h⟩
  · exact (markIntS_any A c xs k B w h hl hk0 hk1).mono fun e w' ⟨h1, h2, h3⟩ => ⟨h1, .inl h2, h3⟩
  · exact (markPr3_any M xs k w h hl3 hk0 hk1).mono fun e w' ⟨h1, h2, h3⟩ => ⟨h1, .inr ⟨M, rfl, rfl, by rw [upF_len]; exact hl3, hM, h2⟩, h3⟩
theorem apart3 {wa wb : World} {B1 B2 : Nat} {A1 A2 : Option Addr} {c1 c2 : Nat} {xs ys : List Int} (h1 : Own wa B1 A1 c1 xs) (h2 : Own3 wb B2 A2 c2 ys) (hlt : wa.heap.size ≤ B2) : ofA A1 = none ∨ ofA A1 ≠ ofA A2 := by
  rcases hA : ofA A1 with _ | k
  · exact .inl rfl
  · refine .inr (fun hh => ?_)
    have l1 := (own_blk h1 hA).2
    have l2 := (h2.blk hh.symm).1
    omega
def Own3Is (w : World) (zs : List Int) (e : Ending) (w' : World) : Prop := ∃ A c, e = .returned (.slice A zs.length c) ∧ Own3 w' w.heap.size A c zs ∧ Below w.heap.size w w'

set_option maxHeartbeats 2000000 in
theorem markIntSSV {B : Nat} {v : Value} {ps : List (Nat × Nat × List Int)} (k : Int) (w : World) (h : RowsU w B v ps) (hB : B ≤ w.heap.size) (hl : ps.length ≤ 1048576) (hs : numsU ps ≤ 1048576) (hk0 : 0 ≤ k) (hk1 : k ≤ 1000000) :
    Calls Try.prog 47 #[v, .int .i64 k] w fun e w' => e = .returned (.int .i64 (k + numsU ps)) ∧ RowsU w' B v (marksU k ps) ∧ Below B w w' ∧ (∀ M, M < w.heap.size → (∀ p ∈ ps, p.1 ≠ M) → w'.heap[M]? = w.heap[M]?) := by
  rcases h.shape with ⟨rfl, rfl⟩ | ⟨g, c, rfl, _⟩
  · go_enter Try.func47, Try.ntmps47
    go_wp2
    go_loopw [1, 5] (fun q i wr => q = .int .i64 k ∧ i = .int .i64 0 ∧ wr = w) (fun _ _ _ => 0)
    case atStart => exact ⟨rfl, rfl, rfl⟩
    case round =>
      obtain ⟨rfl, rfl, rfl⟩ := hrel
      go_wp2
      go_ret
      exact ⟨by simp [numsU], RowsU.base (RowsU.nil _ _) (Nat.le_refl _), Below.refl _ _, fun _ _ _ => rfl⟩
  · have HSM := Lib.hid hs
    clear hs
    go_enter Try.func47, Try.ntmps47
    go_wp2
    go_loopw [1, 5] (fun q i wr => ∃ (j : Nat) (m : Int), j ≤ ps.length ∧ i = .int .i64 j ∧ q = .int .i64 m ∧ Hid (m = k + numsU (ps.take j)) ∧ Hid (RowsU wr B (.slice (some ⟨g, 0, none⟩) ps.length c) (marksU k (ps.take j) ++ ps.drop j)) ∧ Below B w wr ∧ Hid (∀ M, M < w.heap.size → (∀ p ∈ ps, p.1 ≠ M) → wr.heap[M]? = w.heap[M]?)) (fun _ i _ => ps.length - (intOf i).toNat)
    case atStart => exact ⟨0, k, Nat.zero_le _, rfl, rfl, Lib.hid (by simp [numsU]), Lib.hid (by simpa [marksU] using h), Below.refl _ _, Lib.hid (fun _ _ _ => rfl)⟩
    case round =>
      obtain ⟨j, m, hj, rfl, rfl, HM, HR, hb, HKP⟩ := hrel
      by_cases hlt : j < ps.length
      · obtain ⟨p, hpj⟩ : ∃ p, ps[j]? = some p := ⟨_, List.getElem?_eq_getElem hlt⟩
        have hd : ps.drop j = p :: ps.drop (j + 1) := by
          obtain ⟨hj, rfl⟩ := List.getElem?_eq_some_iff.1 hpj
          exact List.drop_eq_getElem_cons hj
        have hR := HR.out
        rw [hd] at hR
        have hcp := hR.cell_at (k := j) (p := p) (by rw [List.getElem?_append_right (by rw [marksU_len, List.length_take]; omega), marksU_len, List.length_take, Nat.min_eq_left (by omega), Nat.sub_self]; rfl)
        have hsum : numsU (ps.take j) ≤ 1048576 := Nat.le_trans (numsU_take ps j) HSM.out
        have hm0 : 0 ≤ m := by have := HM.out; omega
        have hm1 : m ≤ 1099511627776 := by have := HM.out; omega
        have hpl : p.2.2.length ≤ 1048576 := Nat.le_trans (numsU_mem (List.mem_of_getElem? hpj)) HSM.out
        have HPM := Lib.hid (List.mem_of_getElem? hpj)
        have HO := Lib.hid (hR.each p (by simp))
        have HR2 := Lib.hid hR
        have HT := Lib.hid (takeU_up hpj)
        have hBs : B ≤ wr.heap.size := Nat.le_trans hB hb.size
        obtain ⟨pg, pc, pl⟩ := p
        simp only [slU] at hcp
        simp only at hpl
        clear hpj hd hR HR hsum
        go_wp2_with (go_at_call 48; refine (markIntS_any (some ⟨pg, 0, none⟩) pc pl m B wr HO.out (by omega) hm0 hm1).mono ?_; rintro e w2 ⟨rfl, o2, g2⟩)
        have R3 := Lib.hid (HR2.out.turn (upF_len _ _) o2 g2)
        go_roundw
        case rel =>
          refine ⟨j + 1, m + (pl.length : Int), by omega, by go_num, rfl, Lib.hid (by rw [HT.out, numsU_snoc, HM.out]; push_cast; omega), Lib.hid ?_, hb.grown g2 hBs (fun q e => by cases e; exact HO.out.ge), Lib.hid (fun M hM hne => (g2.block M (Nat.lt_of_lt_of_le hM hb.size) (fun e => hne _ HPM.out (Option.some.inj e).symm)).trans (HKP.out M hM hne))⟩
          rw [HT.out, marksU_snoc, ← HM.out, List.append_assoc]
          exact R3.out
        case measure => simp [intOf]; omega
      · obtain rfl : j = ps.length := by omega
        have hf : m = k + numsU ps ∧ RowsU wr B (.slice (some ⟨g, 0, none⟩) ps.length c) (marksU k ps) := by
          have h1 := HM.out
          have h2 := HR.out
          rw [List.take_length] at h1 h2
          rw [List.drop_length, List.append_nil] at h2
          exact ⟨h1, h2⟩
        have HF := Lib.hid hf
        clear hf
        go_wp2
        go_ret
        exact ⟨by rw [← HF.out.1]; rfl, HF.out.2, hb, HKP.out⟩

end Go.Proofs.Ytccbjgajmjcpjab

/-
  Chapter 7: what things take when they are missing, by the model and by the program.
-/
namespace Go.Proofs.Ytccbjgajmjcpjab
open Go.RowKit

open Classical in
/-- What MostPrices tells. -/
noncomputable def mpL (ts : List (List Int)) : List Int := if VTs ts then vls (mpF ts) 3 else []
theorem mpL_len (ts : List (List Int)) : (mpL ts).length ≤ 3 := by
  unfold mpL; split
  · rw [vls_len]; omega
  · simp
theorem mpL_no {ts : List (List Int)} (h : vtsB ts = false) : mpL ts = [] := if_neg (fun hv => by rw [vtsB_true hv] at h; cases h)
theorem mpL_yes {ts : List (List Int)} (h : VTs ts) : mpL ts = vls (mpF ts) 3 := if_pos h

theorem Sall7_any (w : World) : Calls Try.prog 113 #[] w fun e w' => e = .returned (.int .i64 7) ∧ w = w' := by
  have HP : Hid (∀ w1, Calls Try.prog 124 #[.int .i64 3] w1 fun e w' => e = .returned (.int .i64 8) ∧ w1 = w') := Lib.hid (fun w1 => Spower_any 3 (by omega) w1)
  go_enter Try.func113, Try.ntmps113
  go_wp2_with (go_at_call 124; refine (HP.out _).mono ?_; rintro e w1 ⟨rfl, rfl⟩)
  go_ret
  exact ⟨rfl, rfl⟩

set_option maxRecDepth 100000 in
set_option maxHeartbeats 1600000 in
theorem SMostPrices_any (A : Option Addr) (c : Nat) (ts : List (List Int)) (w : World) (h : RdR w A c ts) (hl : ts.length ≤ 1099511627776) (hl2 : ∀ r ∈ ts, r.length ≤ 1099511627776) :
    Calls Try.prog 81 #[.slice A ts.length c] w (OwnIs w (mpL ts)) := by
  have HC := Lib.hid (SvalidTables_any A c ts w h hl hl2)
  rcases hb : vtsB ts with _ | _
  · rw [hb] at HC
    rw [mpL_no hb]
    clear hb hl2 hl h
    go_enter Try.func81, Try.ntmps81
    go_wp2_with fail
    refine HC.out.mono ?_
    rintro e w1 ⟨rfl, n, rfl⟩
    go_wp2
    go_ret
    exact ⟨none, 0, rfl, own_none _ _, below_drewN' (Below.refl _ _) _⟩
  have hv := vtsB_iff.1 hb
  rw [hb] at HC
  rw [mpL_yes hv]
  have h4 : ts.length ≤ 4 := hv.1.2
  obtain ⟨n, hn⟩ : ∃ n, n = ts.length := ⟨_, rfl⟩
  obtain ⟨f, hf⟩ : ∃ f, f = mpF ts := ⟨_, rfl⟩
  have HF := Lib.hid hf
  obtain ⟨V, hV⟩ : ∃ V, V = sv ts 7 := ⟨_, rfl⟩
  have hv0 := sv_nonneg ts 7
  have hv1 := sv_bd hv.2 7 (by omega)
  have HBD := Lib.hid (fun x (hx : x < 8) => And.intro (sv_nonneg ts x) (sv_bd hv.2 x hx))
  have HSV := Lib.hid (fun (x : Nat) (hx : x < 8) (W : World) (hW : Below w.heap.size w W) => SsplitValue_any ts A c x W (h.below hW) hv.2 h4 hx)
  have HS7 := Lib.hid (HSV.out 7 (by omega))
  rw [← hV] at hv0 hv1 HS7
  rw [← hn] at HC h4 hv1 HSV HS7 HBD
  rw [← hf, ← hn]
  have HVE := Lib.hid hV
  clear hv hl2 hl h hn hf hV hb
  go_enter Try.func81, Try.ntmps81
  go_wp2_with fail
  refine HC.out.mono ?_
  rintro e w1 ⟨rfl, m, rfl⟩
  have B1 : Below w.heap.size w (w.drewN m) := below_drewN' (Below.refl _ _) m
  have B2 := B1.alloc B1.size (.cells #[] 3)
  have HO2 : Hid (Own ((w.drewN m).alloc (.cells #[] 3)) w.heap.size (some ⟨w.heap.size, 0, none⟩) 0 (vls f 0)) := Lib.hid (own_new_ints (w.drewN m))
  go_wp2
  go_loopw [3, 4] (fun o i wr => ∃ (j g2 c2 : Nat), j ≤ 3 ∧ i = .int .i64 j ∧ o = .slice (some ⟨g2, 0, none⟩) j c2 ∧ Hid (Own wr w.heap.size (some ⟨g2, 0, none⟩) c2 (vls f j)) ∧ Below w.heap.size w wr) (fun _ i _ => 3 - (intOf i).toNat)
  case atStart => exact ⟨0, w.heap.size, 0, Nat.zero_le _, rfl, rfl, HO2, B2⟩
  case round =>
    obtain ⟨j, g2, c2, hj, rfl, rfl, HO, hb⟩ := hrel
    by_cases hlt : j < 3
    · obtain ⟨p1, p2, p3⟩ := pow_sub7 hlt
      have HPW := Lib.hid (fun w1 => Spower_any j (by omega) w1)
      obtain ⟨M, hM⟩ : ∃ M, M = sv ts (7 - 2 ^ j) := ⟨_, rfl⟩
      have hmb := HBD.out _ p3
      have HSP := Lib.hid (HSV.out _ p3)
      rw [← hM] at hmb HSP
      have HFE : Hid (V - M = f j) := Lib.hid (by rw [HF.out]; unfold mpF; rw [← HVE.out, hM])
      obtain ⟨P, hP⟩ : ∃ P, P = 2 ^ j := ⟨_, rfl⟩
      rw [← hP] at p2 p3 HPW HSP
      have e0 : IntKind.i64.wrap (7 - (P : Int)) = ((7 - P : Nat) : Int) := by rw [IntWalk.i64_in _ (by omega)]; omega
      have e1 : IntKind.i64.wrap (V - M) = V - M := IntWalk.i64_in _ (by omega)
      have hj3 : (j : Int) < 3 := by omega
      have hj1 : j + 1 ≤ 3 := hlt
      have hn63 : j + 1 ≤ 1099511627776 := by omega
      clear hM hP p1 hlt
      go_wp2_with fail
      refine (Sall7_any wr).mono ?_
      rintro e w3 ⟨rfl, rfl⟩
      go_wp2_with fail
      refine (HS7.out wr hb).mono ?_
      rintro e w4 ⟨rfl, n4, rfl⟩
      have B4 := below_drewN' hb n4
      have HO4 := Lib.hid (HO.out.drewN n4)
      go_wp2_with fail
      refine (Sall7_any _).mono ?_
      rintro e w5 ⟨rfl, rfl⟩
      go_wp2_with fail
      refine (HPW.out _).mono ?_
      rintro e w6 ⟨rfl, rfl⟩
      go_wp2_with fail
      refine (HSP.out _ B4).mono ?_
      rintro e w7 ⟨rfl, m7, rfl⟩
      have B7 : Below w.heap.size w (wr.drewN (n4 + m7)) := below_drewN' hb (n4 + m7)
      have hal := (Below.refl (wr.drewN (n4 + m7)).heap.size (wr.drewN (n4 + m7))).alloc (Nat.le_refl _) (.cells #[.int .i64 (V - M)] 3)
      have HO8 := Lib.hid ((HO.out.drewN (n4 + m7)).below hal)
      have B8 := B7.trans (hal.mono B7.size)
      have HX := Lib.hid (ints_one (wr.drewN (n4 + m7)) (V - M))
      have hS8 := B8.size
      clear hal HO HO4 B4
      go_wp2_with (at_builtin; refine wpList_append_any rfl _ _ 26 Try.underlying26 rfl w.heap.size (some ⟨g2, 0, none⟩) c2 (vls f j) j (vls_len _ _) rfl HO8.out (some ⟨wr.heap.size, 0, none⟩) 1 [V - M] 1 rfl rfl HX.out hn63 hS8 ?_; intro A9 c9 w9 o9 g9')
      obtain ⟨g9, rfl⟩ := own_some o9 (by simp)
      have B9 := Own.grownBelow0 B8 HO8.out B8.size g9'
      have HO9 : Hid (Own w9 w.heap.size (some ⟨g9, 0, none⟩) c9 (vls f (j + 1))) := Lib.hid (by rw [vls_more, ← HFE.out]; exact o9)
      clear o9 g9'
      go_wp2
      go_roundw
      case rel => exact ⟨j + 1, g9, c9, by omega, by go_num, rfl, HO9, B9⟩
      case measure => simp [intOf]; omega
    · obtain rfl : j = 3 := by omega
      have HOE := Lib.hid HO.out
      go_wp2
      go_ret
      exact ⟨some ⟨g2, 0, none⟩, c2, by rw [vls_len]; rfl, HOE.out, hb⟩

/-- The prices of the first k things, the others nought. -/
def mpS (f : Nat → Int) (k : Nat) : List Int := (List.range 3).map (fun i => if i < k then f i else 0)
theorem mpS_len (f : Nat → Int) (k : Nat) : (mpS f k).length = 3 := by simp [mpS]
theorem mpS_at (f : Nat → Int) (k : Nat) {i : Nat} (hi : i < 3) : T (mpS f k) i = if i < k then f i else 0 := by
  apply T_of
  simp [mpS, hi]
theorem mpS_zero (f : Nat → Int) : mpS f 0 = [0, 0, 0] := rfl
theorem mpS_step (f : Nat → Int) {k : Nat} (hk : k < 3) : mpS f (k + 1) = (mpS f k).set k (f k) := ext3 (mpS_len _ _) (by rw [List.length_set]; exact mpS_len _ _) (fun x hx => by
  rw [T_set (by rw [mpS_len]; exact hk), mpS_at _ _ hx, mpS_at _ _ hx]
  by_cases h1 : k = x
  · subst h1; rw [if_pos (by omega), if_pos rfl]
  · rw [if_neg h1]
    by_cases h2 : x < k
    · rw [if_pos (by omega), if_pos h2]
    · rw [if_neg (by omega), if_neg h2])
theorem mpS_end (f : Nat → Int) : mpS f 3 = vls f 3 := by simp [mpS, vls, List.range_succ]
theorem less_bits {j : Nat} (hj : j < 3) : bits .andNot .i64 7 ((2 ^ j : Nat) : Int) = ((7 - 2 ^ j : Nat) : Int) := by
  rcases nat3 hj with rfl | rfl | rfl <;> decide

/-- Where MostPrices' world stands. -/
def MpAt (w wr : World) (W f : Nat → Int) (k : Nat) : Prop := Below w.heap.size w wr ∧ Arr wr w.heap.size (lit8 W) ∧ Pr3 wr (w.heap.size + 1) (mpS f k)
theorem MpAt.put {w wr : World} {W f : Nat → Int} {k : Nat} (h : MpAt w wr W f k) (hk : k < 3) : MpAt w (wr.setCell ⟨w.heap.size + 1, k, none⟩ (.int .i64 (f k))) W f (k + 1) :=
  ⟨h.1.setCell (by show w.heap.size ≤ w.heap.size + 1; omega) _, h.2.1.keep (Below.heap_setCell wr ⟨w.heap.size + 1, k, none⟩ _ w.heap.size (by simp)), by rw [mpS_step f hk]; exact h.2.2.set_ (mpS_len _ _) hk _⟩
theorem MpAt.drew {w wr : World} {W f : Nat → Int} {k : Nat} (h : MpAt w wr W f k) : MpAt w wr.drew W f k := ⟨h.1.drew, h.2.1.keep rfl, h.2.2.keep rfl⟩
theorem mpAt_zero (w : World) (W f : Nat → Int) : MpAt w ((w.alloc (.cells #[.int .i64 (W 0), .int .i64 (W 1), .int .i64 (W 2), .int .i64 (W 3), .int .i64 (W 4), .int .i64 (W 5), .int .i64 (W 6), .int .i64 (W 7)] 63)).alloc (.cells #[.int .i64 0, .int .i64 0, .int .i64 0] 68)) W f 0 := by
  refine ⟨((Below.refl _ w).alloc (Nat.le_refl _) _).alloc (by simp) _, (Arr.new w (lit8 W) rfl).alloc _, ?_⟩
  have := Pr3.new (w.alloc (.cells #[.int .i64 (W 0), .int .i64 (W 1), .int .i64 (W 2), .int .i64 (W 3), .int .i64 (W 4), .int .i64 (W 5), .int .i64 (W 6), .int .i64 (W 7)] 63)) [0, 0, 0]
  rw [World.size_alloc] at this
  exact this

end Go.Proofs.Ytccbjgajmjcpjab

/-
  Chapter 7, plain: raised prices, the steepest set, the climb.
-/
namespace Go.Proofs.Ytccbjgajmjcpjab

/-- Prices with 1 more for each thing of a set. -/
def rz (p : List Int) (s : Nat) : List Int := [T p 0 + ((s % 2 : Nat) : Int), T p 1 + ((s / 2 % 2 : Nat) : Int), T p 2 + ((s / 4 % 2 : Nat) : Int)]
theorem rz_len (p : List Int) (s : Nat) : (rz p s).length = 3 := rfl
theorem rz_T0 (p : List Int) (s : Nat) : T (rz p s) 0 = T p 0 + ((s % 2 : Nat) : Int) := rfl
theorem rz_T1 (p : List Int) (s : Nat) : T (rz p s) 1 = T p 1 + ((s / 2 % 2 : Nat) : Int) := rfl
theorem rz_T2 (p : List Int) (s : Nat) : T (rz p s) 2 = T p 2 + ((s / 4 % 2 : Nat) : Int) := rfl
theorem rz_zero {p : List Int} (h : p.length = 3) : rz p 0 = p := by
  match p, h with
  | [a, b, c], _ => simp [rz, T]
/-- Prices of at most 30. -/
def Lw (p : List Int) : Prop := p.length = 3 ∧ ∀ k, k < 3 → 0 ≤ T p k ∧ T p k ≤ 30
theorem Lw.vp {p : List Int} (h : Lw p) : VP p := ⟨h.1, fun k hk => ⟨(h.2 k hk).1, by have := (h.2 k hk).2; omega⟩⟩
theorem Lw.rz {p : List Int} (h : Lw p) (s : Nat) : VP (rz p s) := ⟨rfl, fun k hk => by
  have h0 := h.2 0 (by omega)
  have h1 := h.2 1 (by omega)
  have h2 := h.2 2 (by omega)
  rcases nat3 hk with rfl | rfl | rfl
  · rw [rz_T0]; omega
  · rw [rz_T1]; omega
  · rw [rz_T2]; omega⟩
theorem pr_rz (p : List Int) {s x : Nat} (hs : s < 8) (hx : x < 8) : pr (rz p s) x = pr p x + ((x &&& s) % 2 : Nat) + ((x &&& s) / 2 % 2 : Nat) + ((x &&& s) / 4 % 2 : Nat) := by
  obtain ⟨v0, v1, v2, v3, v4, v5, v6, v7⟩ := pr_vals p
  obtain ⟨r0, r1, r2, r3, r4, r5, r6, r7⟩ := pr_vals (rz p s)
  rw [rz_T0, rz_T1, rz_T2] at *
  rcases nat8 hs with rfl | rfl | rfl | rfl | rfl | rfl | rfl | rfl <;> rcases nat8 hx with rfl | rfl | rfl | rfl | rfl | rfl | rfl | rfl <;> simp at * <;> omega
/-- A thing at 30 is not missed: surpluses are as they were when it is 1 dearer. -/
theorem su_dear {t p : List Int} (ht : VT t) {s k : Nat} (hs : s < 8) (hk : k < 3) (hb : s / 2 ^ k % 2 = 1) (hd : 30 ≤ T p k) (h0 : ∀ j, j < 3 → 0 ≤ T p j) : su t (rz p (s - 2 ^ k)) ≤ su t (rz p s) := by
  obtain ⟨x, hx, he⟩ := su_got (t := t) (p := rz p (s - 2 ^ k)) ht.2.1
  rw [he]
  have hks : s - 2 ^ k < 8 := Nat.lt_of_le_of_lt (Nat.sub_le _ _) hs
  by_cases hxk : x / 2 ^ k % 2 = 1
  · have hx2 : x - 2 ^ k < 8 := Nat.lt_of_le_of_lt (Nat.sub_le _ _) hx
    refine Int.le_trans ?_ (su_le (t := t) (p := rz p s) hx2)
    unfold lf
    rw [pr_rz p hks hx, pr_rz p hs hx2]
    have b1 := ht.bd hx
    have b2 := ht.bd hx2
    obtain ⟨v0, v1, v2, v3, v4, v5, v6, v7⟩ := pr_vals p
    have a0 := h0 0 (by omega)
    have a1 := h0 1 (by omega)
    have a2 := h0 2 (by omega)
    rcases nat3 hk with rfl | rfl | rfl <;> rcases nat8 hs with rfl | rfl | rfl | rfl | rfl | rfl | rfl | rfl <;> rcases nat8 hx with rfl | rfl | rfl | rfl | rfl | rfl | rfl | rfl <;> first | (exfalso; revert hb; decide) | (exfalso; revert hxk; decide) | (simp at * ; omega)
  · refine Int.le_trans ?_ (su_le (t := t) (p := rz p s) hx)
    unfold lf
    rw [pr_rz p hks hx, pr_rz p hs hx]
    rcases nat3 hk with rfl | rfl | rfl <;> rcases nat8 hs with rfl | rfl | rfl | rfl | rfl | rfl | rfl | rfl <;> rcases nat8 hx with rfl | rfl | rfl | rfl | rfl | rfl | rfl | rfl <;> first | (exfalso; revert hb; decide) | (exfalso; revert hxk; decide) | (simp at * )
theorem suS_dear {p : List Int} {s k : Nat} (hs : s < 8) (hk : k < 3) (hb : s / 2 ^ k % 2 = 1) (hd : 30 ≤ T p k) (h0 : ∀ j, j < 3 → 0 ≤ T p j) : ∀ {ts : List (List Int)}, (∀ t ∈ ts, VT t) → suS ts (rz p (s - 2 ^ k)) ≤ suS ts (rz p s)
  | [], _ => Int.le_refl _
  | t :: ts, hv => by
    have h1 := su_dear (hv t (by simp)) hs hk hb hd h0
    have h2 := suS_dear hs hk hb hd h0 (ts := ts) (fun u hu => hv u (by simp [hu]))
    simp only [suS]
    omega
theorem lo_dear {ts : List (List Int)} {p : List Int} (hv : ∀ t ∈ ts, VT t) {s k : Nat} (hs : s < 8) (hk : k < 3) (hb : s / 2 ^ k % 2 = 1) (hd : 30 ≤ T p k) (h0 : ∀ j, j < 3 → 0 ≤ T p j) : lo ts (rz p (s - 2 ^ k)) < lo ts (rz p s) := by
  have h1 := suS_dear hs hk hb hd h0 hv
  have h2 : pr (rz p (s - 2 ^ k)) 7 + 1 = pr (rz p s) 7 := by
    have hks : s - 2 ^ k < 8 := Nat.lt_of_le_of_lt (Nat.sub_le _ _) hs
    rw [pr_rz p hks (by omega), pr_rz p hs (by omega)]
    rcases nat3 hk with rfl | rfl | rfl <;> rcases nat8 hs with rfl | rfl | rfl | rfl | rfl | rfl | rfl | rfl <;> first | (exfalso; revert hb; decide) | (simp at * ; try omega)
  unfold lo
  omega

/-- How many things a set has. -/
def sz (s : Nat) : Nat := s % 2 + s / 2 % 2 + s / 4 % 2
/-- The steepest set of those below k. -/
def stTo (g : Nat → Int) : Nat → Nat
  | 0 => 0
  | k + 1 => if g k < g (stTo g k) ∨ (g k = g (stTo g k) ∧ 0 < stTo g k ∧ sz k < sz (stTo g k)) then k else stTo g k
theorem stTo_lt (g : Nat → Int) : ∀ {k : Nat}, 1 ≤ k → stTo g k < k
  | 1, _ => by simp [stTo]
  | k + 2, _ => by
    have := stTo_lt g (k := k + 1) (by omega)
    rw [stTo]
    split <;> omega
theorem stTo_le (g : Nat → Int) : ∀ {k s : Nat}, s < k → g (stTo g k) ≤ g s
  | 0, s, h => absurd h (by omega)
  | k + 1, s, h => by
    rw [stTo]
    have ih : ∀ s, s < k → g (stTo g k) ≤ g s := fun s hs => stTo_le g hs
    split
    · rename_i hc
      rcases Nat.lt_or_ge s k with h1 | h1
      · have := ih s h1; omega
      · obtain rfl : s = k := by omega
        exact Int.le_refl _
    · rename_i hc
      rcases Nat.lt_or_ge s k with h1 | h1
      · exact ih s h1
      · obtain rfl : s = k := by omega
        rcases Nat.eq_zero_or_pos s with rfl | h2
        · exact Int.le_refl _
        · omega
/-- It lessens, if it is not none. -/
theorem stTo_down (g : Nat → Int) : ∀ {k : Nat}, stTo g k ≠ 0 → g (stTo g k) < g 0
  | 0, h => absurd rfl h
  | k + 1, h => by
    rw [stTo] at h ⊢
    split
    · rename_i hc
      rw [if_pos hc] at h
      rcases Nat.eq_zero_or_pos (stTo g k) with h1 | h1
      · rw [h1] at hc; omega
      · have := stTo_down g (k := k) (by omega)
        omega
    · rename_i hc
      rw [if_neg hc] at h
      exact stTo_down g h
/-- The set by which the load becomes least. -/
def st (ts : List (List Int)) (p : List Int) : Nat := stTo (fun s => lo ts (rz p s)) 8
theorem st_lt (ts : List (List Int)) (p : List Int) : st ts p < 8 := stTo_lt _ (by omega)
theorem st_down {ts : List (List Int)} {p : List Int} (hp : p.length = 3) (h : st ts p ≠ 0) : lo ts (rz p (st ts p)) < lo ts p := by
  have h1 := stTo_down (fun s => lo ts (rz p s)) (k := 8) h
  have h2 : lo ts (rz p (st ts p)) < lo ts (rz p 0) := h1
  rw [rz_zero hp] at h2
  exact h2
/-- No price climbs beyond 30. -/
theorem st_low {ts : List (List Int)} {p : List Int} (hv : ∀ t ∈ ts, VT t) (hp : Lw p) : Lw (rz p (st ts p)) := by
  have hs := st_lt ts p
  have hb : ∀ k, k < 3 → st ts p / 2 ^ k % 2 = 1 → T p k < 30 := fun k hk h1 => by
    rcases Int.lt_or_le (T p k) 30 with h | h
    · exact h
    · have h2 := lo_dear hv hs hk h1 h (fun j hj => (hp.2 j hj).1)
      have h3 : lo ts (rz p (st ts p)) ≤ lo ts (rz p (st ts p - 2 ^ k)) := stTo_le (fun s => lo ts (rz p s)) (k := 8) (Nat.lt_of_le_of_lt (Nat.sub_le _ _) hs)
      omega
  refine ⟨rfl, fun k hk => ?_⟩
  have b0 := hb 0 (by omega)
  have b1 := hb 1 (by omega)
  have b2 := hb 2 (by omega)
  have c0 := hp.2 0 (by omega)
  have c1 := hp.2 1 (by omega)
  have c2 := hp.2 2 (by omega)
  simp at b0 b1 b2
  rcases nat3 hk with rfl | rfl | rfl
  · rw [rz_T0]; omega
  · rw [rz_T1]; omega
  · rw [rz_T2]; omega

/-- Where the climb from prices ends, and after how many steps. -/
def cl (ts : List (List Int)) : Nat → List Int → List Int × Nat
  | 0, p => (p, 0)
  | f + 1, p => if st ts p = 0 then (p, 0) else ((cl ts f (rz p (st ts p))).1, (cl ts f (rz p (st ts p))).2 + 1)
theorem lo_nonneg {ts : List (List Int)} {p : List Int} (hv : ∀ t ∈ ts, VT t) (hp : VP p) : 0 ≤ lo ts p := by
  have h1 := (suS_bd hv hp).1
  have h2 := (hp.bd (s := 7) (by omega)).1
  unfold lo; omega
theorem st_zero {ts : List (List Int)} {p : List Int} (hv : ∀ t ∈ ts, VT t) (hp : Lw p) (h : lo ts p ≤ 0) : st ts p = 0 := by
  rcases Nat.eq_zero_or_pos (st ts p) with h1 | h1
  · exact h1
  · have h2 := st_down hp.1 (ts := ts) (by omega)
    have h3 := lo_nonneg hv (hp.rz (st ts p))
    omega
theorem cl_ext {ts : List (List Int)} (hv : ∀ t ∈ ts, VT t) : ∀ (f g : Nat) {p : List Int}, Lw p → lo ts p ≤ f → lo ts p ≤ g → cl ts f p = cl ts g p
  | 0, 0, _, _, _, _ => rfl
  | 0, g + 1, p, hp, h1, _ => by simp [cl, st_zero hv hp h1]
  | f + 1, 0, p, hp, _, h2 => by simp [cl, st_zero hv hp h2]
  | f + 1, g + 1, p, hp, h1, h2 => by
    rw [cl, cl]
    by_cases h : st ts p = 0
    · rw [if_pos h, if_pos h]
    · rw [if_neg h, if_neg h]
      have h3 := st_down hp.1 h
      rw [cl_ext hv f g (st_low hv hp) (by omega) (by omega)]
/-- The climb. -/
def clb (ts : List (List Int)) (p : List Int) : List Int × Nat := cl ts (lo ts p).toNat p
theorem clb_end {ts : List (List Int)} {p : List Int} (h : st ts p = 0) : clb ts p = (p, 0) := by
  unfold clb
  cases (lo ts p).toNat with
  | zero => rfl
  | succ f => simp [cl, h]
theorem clb_step {ts : List (List Int)} {p : List Int} (hv : ∀ t ∈ ts, VT t) (hp : Lw p) (h : st ts p ≠ 0) : clb ts p = ((clb ts (rz p (st ts p))).1, (clb ts (rz p (st ts p))).2 + 1) := by
  have h1 := st_down hp.1 h
  have h2 := lo_nonneg hv (hp.rz (st ts p))
  have h3 : lo ts p ≤ ((lo ts p).toNat - 1 + 1 : Nat) := by omega
  have h4 : clb ts p = cl ts ((lo ts p).toNat - 1 + 1) p := cl_ext hv _ _ hp (by omega) h3
  have h5 : clb ts (rz p (st ts p)) = cl ts ((lo ts p).toNat - 1) (rz p (st ts p)) := cl_ext hv _ _ (st_low hv hp) (by omega) (by omega)
  rw [h4, cl, if_neg h, h5]

end Go.Proofs.Ytccbjgajmjcpjab
