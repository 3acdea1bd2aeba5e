/-
  Chapter 7: lists of three prices that are slices of arrays: marked, held, kept; rows marked, what else is there kept.
-/
import Derived.Test.YtfjncipekjnbjabJr
import Derived.Test.YtfjncipekjnbjabJt
import Derived.Test.YtfjncipekjnbjabUy
namespace Go.Proofs.Ytfjncipekjnbjab
open Go.RowKit

set_option maxHeartbeats 400000 in
theorem markPr3_any (M : Nat) (xs : List Int) (k : Int) (w : World) (h : Pr3 w M xs) (hl : xs.length = 3) (hk0 : 0 ≤ k) (hk1 : k ≤ 1099511627776) :
    Calls Try.prog 58 #[.slice (some ⟨M, 0, none⟩) xs.length 3, .int .i64 k] w fun e w' => e = .returned (.int .i64 (k + xs.length)) ∧ Pr3 w' M (upF k xs.length) ∧ w.grownBy w' (some M) := by
  go_enter Try.func58, Try.ntmps58
  go_wp2
  go_loopw [1, 5] (fun q i wr => ∃ j : Nat, j ≤ xs.length ∧ i = .int .i64 j ∧ q = .int .i64 (k + j) ∧ Hid (Pr3 wr M (markd k xs j) ∧ w.grownBy wr (some M)))
    (fun _ i _ => xs.length - (intOf i).toNat)
  case atStart => exact ⟨0, Nat.zero_le _, rfl, by simp, Lib.hid ⟨by rw [markd_zero]; exact h, World.grownBy.refl _ _⟩⟩
  case round =>
    obtain ⟨j, hj, rfl, rfl, HO⟩ := hrel
    by_cases hlt : j < xs.length
    · have hz := HO.out.1
      have hc := hz.cell (k := j) (by omega)
      have hf := hz.free j
      obtain ⟨x, hx⟩ : ∃ x, x = T (markd k xs j) j := ⟨_, rfl⟩
      rw [← hx] at hc
      have HS : Hid (Pr3 (wr.setCell ⟨M, j, none⟩ (.int .i64 (k + j))) M (markd k xs (j + 1)) ∧ w.grownBy (wr.setCell ⟨M, j, none⟩ (.int .i64 (k + j))) (some M)) := Lib.hid (by
        have h1 := hz.set_ (k := j) (by rw [markd_len k xs j (by omega)]; exact hl) (by omega) (k + j)
        rw [markd_set k xs j hlt] at h1
        exact ⟨h1, HO.out.2.trans (grown_set wr M j _)⟩)
      have hl8 : xs.length ≤ 8 := by omega
      clear hz hx h hl
      go_wp2
      go_roundw
      case rel => exact ⟨j + 1, by omega, by go_num, by go_num, HS⟩
      case measure => simp [intOf]; omega
    · obtain rfl : j = xs.length := by omega
      go_wp2
      go_ret
      exact ⟨rfl, by rw [← markd_all]; exact HO.out.1, HO.out.2⟩

theorem own_keepb {w w' : World} {B : Nat} {A : Option Addr} {c : Nat} {zs : List Int} (h : Own w B A c zs) (hb : ∀ g, ofA A = some g → w'.heap[g]? = w.heap[g]?) : Own w' B A c zs := by
  unfold Own at h ⊢
  refine ⟨h.1, ?_⟩
  rcases h.2 with h2 | ⟨g, cap, cur, hv, hB, hh, r⟩
  · exact .inl h2
  · refine .inr ⟨g, cap, cur, hv, hB, (hb g ?_).trans hh, r⟩
    injection hv with hA _ _
    rw [hA]
    rfl
/-- A slice of the call's own, or an array of prices of its own that is sliced. -/
def Own3 (w : World) (B : Nat) (A : Option Addr) (c : Nat) (zs : List Int) : Prop := Own w B A c zs ∨ ∃ M, A = some ⟨M, 0, none⟩ ∧ c = 3 ∧ zs.length = 3 ∧ B ≤ M ∧ Pr3 w M zs
theorem pr3_rd {w : World} {M : Nat} {zs : List Int} (h : Pr3 w M zs) (hl : zs.length = 3) (c : Nat) : Rd w (some ⟨M, 0, none⟩) c zs := .inr ⟨M, 0, rfl, fun k hk => by
  rw [Nat.zero_add, h.cell (by omega)]
  simp [T]⟩
theorem Own3.rd {w : World} {B : Nat} {A : Option Addr} {c : Nat} {zs : List Int} (h : Own3 w B A c zs) : Rd w A c zs := by
  rcases h with h | ⟨M, rfl, rfl, hl, _, h⟩
  · exact h.rd
  · exact pr3_rd h hl 3
theorem Own3.below {w w' : World} {B : Nat} {A : Option Addr} {c : Nat} {zs : List Int} (h : Own3 w B A c zs) (hb : Below w.heap.size w w') : Own3 w' B A c zs := by
  rcases h with h | ⟨M, rfl, rfl, hl, hB, h⟩
  · exact .inl (h.below hb)
  · exact .inr ⟨M, rfl, rfl, hl, hB, h.keep (hb.block _ h.lt)⟩
theorem Own3.drewN {w : World} {B : Nat} {A : Option Addr} {c : Nat} {zs : List Int} (h : Own3 w B A c zs) (n : Nat) : Own3 (w.drewN n) B A c zs := h
theorem Own3.blk {w : World} {B k : Nat} {A : Option Addr} {c : Nat} {xs : List Int} (h : Own3 w B A c xs) (hk : ofA A = some k) : B ≤ k ∧ k < w.heap.size := by
  rcases h with h | ⟨M, rfl, rfl, _, hM, h⟩
  · exact own_blk h hk
  · obtain rfl : M = k := by simpa [ofA] using hk
    exact ⟨hM, h.lt⟩
theorem Own3.keepb {w w' : World} {B : Nat} {A : Option Addr} {c : Nat} {zs : List Int} (h : Own3 w B A c zs) (hb : ∀ g, ofA A = some g → w'.heap[g]? = w.heap[g]?) : Own3 w' B A c zs := by
  rcases h with h | ⟨M, rfl, rfl, hl, hB, h⟩
  · exact .inl (own_keepb h hb)
  · exact .inr ⟨M, rfl, rfl, hl, hB, h.keep (hb M rfl)⟩
theorem Own3.grownBelow {w w' wa : World} {B B0 : Nat} {A0 : Option Addr} {c0 : Nat} {xs : List Int} (hb : Below B0 wa w) (ho : Own3 w B A0 c0 xs) (hs : B0 ≤ B) (hw : B0 ≤ w.heap.size) (hg : w.grownBy w' (ofA A0)) : Below B0 wa w' :=
  hb.grown hg hw (fun _ hk => Nat.le_trans hs (ho.blk hk).1)
theorem markIntS3_any (A : Option Addr) (c : Nat) (xs : List Int) (k : Int) (B : Nat) (w : World) (h : Own3 w B A c xs) (hl : xs.length ≤ 1099511627776) (hk0 : 0 ≤ k) (hk1 : k ≤ 1099511627776) :
    Calls Try.prog 58 #[.slice A xs.length c, .int .i64 k] w fun e w' => e = .returned (.int .i64 (k + xs.length)) ∧ Own3 w' B A c (upF k xs.length) ∧ w.grownBy w' (ofA A) := by
  rcases h with h | ⟨M, rfl, rfl, hl3, hM, h⟩
  · exact (markIntS_any A c xs k B w h hl hk0 hk1).mono fun e w' ⟨h1, h2, h3⟩ => ⟨h1, .inl h2, h3⟩
  · exact (markPr3_any M xs k w h hl3 hk0 hk1).mono fun e w' ⟨h1, h2, h3⟩ => ⟨h1, .inr ⟨M, rfl, rfl, by rw [upF_len]; exact hl3, hM, h2⟩, h3⟩
theorem apart3 {wa wb : World} {B1 B2 : Nat} {A1 A2 : Option Addr} {c1 c2 : Nat} {xs ys : List Int} (h1 : Own wa B1 A1 c1 xs) (h2 : Own3 wb B2 A2 c2 ys) (hlt : wa.heap.size ≤ B2) : ofA A1 = none ∨ ofA A1 ≠ ofA A2 := by
  rcases hA : ofA A1 with _ | k
  · exact .inl rfl
  · refine .inr (fun hh => ?_)
    have l1 := (own_blk h1 hA).2
    have l2 := (h2.blk hh.symm).1
    omega
def Own3Is (w : World) (zs : List Int) (e : Ending) (w' : World) : Prop := ∃ A c, e = .returned (.slice A zs.length c) ∧ Own3 w' w.heap.size A c zs ∧ Below w.heap.size w w'

set_option maxHeartbeats 2000000 in
theorem markIntSSV {B : Nat} {v : Value} {ps : List (Nat × Nat × List Int)} (k : Int) (w : World) (h : RowsU w B v ps) (hB : B ≤ w.heap.size) (hl : ps.length ≤ 1048576) (hs : numsU ps ≤ 1048576) (hk0 : 0 ≤ k) (hk1 : k ≤ 1000000) :
    Calls Try.prog 57 #[v, .int .i64 k] w fun e w' => e = .returned (.int .i64 (k + numsU ps)) ∧ RowsU w' B v (marksU k ps) ∧ Below B w w' ∧ (∀ M, M < w.heap.size → (∀ p ∈ ps, p.1 ≠ M) → w'.heap[M]? = w.heap[M]?) := by
  rcases h.shape with ⟨rfl, rfl⟩ | ⟨g, c, rfl, _⟩
  · go_enter Try.func57, Try.ntmps57
    go_wp2
    go_loopw [1, 5] (fun q i wr => q = .int .i64 k ∧ i = .int .i64 0 ∧ wr = w) (fun _ _ _ => 0)
    case atStart => exact ⟨rfl, rfl, rfl⟩
    case round =>
      obtain ⟨rfl, rfl, rfl⟩ := hrel
      go_wp2
      go_ret
      exact ⟨by simp [numsU], RowsU.base (RowsU.nil _ _) (Nat.le_refl _), Below.refl _ _, fun _ _ _ => rfl⟩
  · have HSM := Lib.hid hs
    clear hs
    go_enter Try.func57, Try.ntmps57
    go_wp2
    go_loopw [1, 5] (fun q i wr => ∃ (j : Nat) (m : Int), j ≤ ps.length ∧ i = .int .i64 j ∧ q = .int .i64 m ∧ Hid (m = k + numsU (ps.take j)) ∧ Hid (RowsU wr B (.slice (some ⟨g, 0, none⟩) ps.length c) (marksU k (ps.take j) ++ ps.drop j)) ∧ Below B w wr ∧ Hid (∀ M, M < w.heap.size → (∀ p ∈ ps, p.1 ≠ M) → wr.heap[M]? = w.heap[M]?)) (fun _ i _ => ps.length - (intOf i).toNat)
    case atStart => exact ⟨0, k, Nat.zero_le _, rfl, rfl, Lib.hid (by simp [numsU]), Lib.hid (by simpa [marksU] using h), Below.refl _ _, Lib.hid (fun _ _ _ => rfl)⟩
    case round =>
      obtain ⟨j, m, hj, rfl, rfl, HM, HR, hb, HKP⟩ := hrel
      by_cases hlt : j < ps.length
      · obtain ⟨p, hpj⟩ : ∃ p, ps[j]? = some p := ⟨_, List.getElem?_eq_getElem hlt⟩
        have hd : ps.drop j = p :: ps.drop (j + 1) := by
          obtain ⟨hj, rfl⟩ := List.getElem?_eq_some_iff.1 hpj
          exact List.drop_eq_getElem_cons hj
        have hR := HR.out
        rw [hd] at hR
        have hcp := hR.cell_at (k := j) (p := p) (by rw [List.getElem?_append_right (by rw [marksU_len, List.length_take]; omega), marksU_len, List.length_take, Nat.min_eq_left (by omega), Nat.sub_self]; rfl)
        have hsum : numsU (ps.take j) ≤ 1048576 := Nat.le_trans (numsU_take ps j) HSM.out
        have hm0 : 0 ≤ m := by have := HM.out; omega
        have hm1 : m ≤ 1099511627776 := by have := HM.out; omega
        have hpl : p.2.2.length ≤ 1048576 := Nat.le_trans (numsU_mem (List.mem_of_getElem? hpj)) HSM.out
        have HPM := Lib.hid (List.mem_of_getElem? hpj)
        have HO := Lib.hid (hR.each p (by simp))
        have HR2 := Lib.hid hR
        have HT := Lib.hid (takeU_up hpj)
        have hBs : B ≤ wr.heap.size := Nat.le_trans hB hb.size
        obtain ⟨pg, pc, pl⟩ := p
        simp only [slU] at hcp
        simp only at hpl
        clear hpj hd hR HR hsum
        go_wp2_with (go_at_call 58; refine (markIntS_any (some ⟨pg, 0, none⟩) pc pl m B wr HO.out (by omega) hm0 hm1).mono ?_; rintro e w2 ⟨rfl, o2, g2⟩)
        have R3 := Lib.hid (HR2.out.turn (upF_len _ _) o2 g2)
        go_roundw
        case rel =>
          refine ⟨j + 1, m + (pl.length : Int), by omega, by go_num, rfl, Lib.hid (by rw [HT.out, numsU_snoc, HM.out]; push_cast; omega), Lib.hid ?_, hb.grown g2 hBs (fun q e => by cases e; exact HO.out.ge), Lib.hid (fun M hM hne => (g2.block M (Nat.lt_of_lt_of_le hM hb.size) (fun e => hne _ HPM.out (Option.some.inj e).symm)).trans (HKP.out M hM hne))⟩
          rw [HT.out, marksU_snoc, ← HM.out, List.append_assoc]
          exact R3.out
        case measure => simp [intOf]; omega
      · obtain rfl : j = ps.length := by omega
        have hf : m = k + numsU ps ∧ RowsU wr B (.slice (some ⟨g, 0, none⟩) ps.length c) (marksU k ps) := by
          have h1 := HM.out
          have h2 := HR.out
          rw [List.take_length] at h1 h2
          rw [List.drop_length, List.append_nil] at h2
          exact ⟨h1, h2⟩
        have HF := Lib.hid hf
        clear hf
        go_wp2
        go_ret
        exact ⟨by rw [← HF.out.1]; rfl, HF.out.2, hb, HKP.out⟩

end Go.Proofs.Ytfjncipekjnbjab
