/-
  Chapter 6: the program's dearerOf and sameIn.
-/
import Derived.Test.YtpildecpabeanabJk
import Derived.Test.YtpildecpabeanabG35
import Derived.Test.YtpildecpabeanabG03
import Derived.Test.YtpildecpabeanabG24
namespace Go.Proofs.Ytpildecpabeanab
open Go.RowKit

/-- The greater prices of the first k things, the others as they were. -/
def mxP (p q : List Int) (k : Nat) : List Int := (List.range 3).map (fun i => if i < k then (if T p i < T q i then T q i else T p i) else T p i)
theorem mxP_len (p q : List Int) (k : Nat) : (mxP p q k).length = 3 := by simp [mxP]
theorem mxP_at (p q : List Int) (k : Nat) {i : Nat} (hi : i < 3) : T (mxP p q k) i = if i < k then (if T p i < T q i then T q i else T p i) else T p i := by
  apply T_of
  simp [mxP, hi]
theorem ext3 {l m : List Int} (hl : l.length = 3) (hm : m.length = 3) (h : ∀ x, x < 3 → T l x = T m x) : l = m := by
  apply List.ext_getElem (by omega)
  intro i h1 h2
  have := h i (by omega)
  rw [T_of (List.getElem?_eq_getElem h1), T_of (List.getElem?_eq_getElem h2)] at this
  exact this
theorem mxP_zero {p : List Int} (q : List Int) (hp : p.length = 3) : mxP p q 0 = p := ext3 (mxP_len _ _ _) hp (fun x hx => by rw [mxP_at _ _ _ hx, if_neg (by omega)])
theorem mxP_step (p q : List Int) {k : Nat} (hk : k < 3) : mxP p q (k + 1) = (mxP p q k).set k (if T p k < T q k then T q k else T p k) := ext3 (mxP_len _ _ _) (by rw [List.length_set]; exact mxP_len _ _ _) (fun x hx => by
  rw [T_set (by rw [mxP_len]; exact hk), mxP_at _ _ _ hx, mxP_at _ _ _ hx]
  by_cases h1 : k = x
  · subst h1; rw [if_pos (by omega), if_pos rfl]
  · rw [if_neg h1]
    by_cases h2 : x < k
    · rw [if_pos (by omega), if_pos h2]
    · rw [if_neg (by omega), if_neg h2])
theorem mxP_end (p q : List Int) {i : Nat} (hi : i < 3) : T (mxP p q 3) i = if T p i < T q i then T q i else T p i := by rw [mxP_at _ _ _ hi, if_pos hi]
end Go.Proofs.Ytpildecpabeanab

/-
  Chapter 7: lists of three prices that are slices of arrays: marked, held, kept; rows marked, what else is there kept.
-/
namespace Go.Proofs.Ytpildecpabeanab
open Go.RowKit

theorem own_keepb {w w' : World} {B : Nat} {A : Option Addr} {c : Nat} {zs : List Int} (h : Own w B A c zs) (hb : ∀ g, ofA A = some g → w'.heap[g]? = w.heap[g]?) : Own w' B A c zs := by
  unfold Own at h ⊢
  refine ⟨h.1, ?_⟩
  rcases h.2 with h2 | ⟨g, cap, cur, hv, hB, hh, r⟩
  · exact .inl h2
  · refine .inr ⟨g, cap, cur, hv, hB, (hb g ?_).trans hh, r⟩
    injection hv with hA _ _
    rw [hA]
    rfl
set_option maxHeartbeats 2000000 in
theorem markIntSSV {B : Nat} {v : Value} {ps : List (Nat × Nat × List Int)} (k : Int) (w : World) (h : RowsU w B v ps) (hB : B ≤ w.heap.size) (hl : ps.length ≤ 1048576) (hs : numsU ps ≤ 1048576) (hk0 : 0 ≤ k) (hk1 : k ≤ 1000000) :
    Calls Try.prog 24 #[v, .int .i64 k] w fun e w' => e = .returned (.int .i64 (k + numsU ps)) ∧ RowsU w' B v (marksU k ps) ∧ Below B w w' ∧ (∀ M, M < w.heap.size → (∀ p ∈ ps, p.1 ≠ M) → w'.heap[M]? = w.heap[M]?) := by
  rcases h.shape with ⟨rfl, rfl⟩ | ⟨g, c, rfl, _⟩
  · go_enter Try.func24, Try.ntmps24
    go_wp2
    go_loopw [1, 5] (fun q i wr => q = .int .i64 k ∧ i = .int .i64 0 ∧ wr = w) (fun _ _ _ => 0)
    case atStart => exact ⟨rfl, rfl, rfl⟩
    case round =>
      obtain ⟨rfl, rfl, rfl⟩ := hrel
      go_wp2
      go_ret
      exact ⟨by simp [numsU], RowsU.base (RowsU.nil _ _) (Nat.le_refl _), Below.refl _ _, fun _ _ _ => rfl⟩
  · have HSM := Lib.hid hs
    clear hs
    go_enter Try.func24, Try.ntmps24
    go_wp2
    go_loopw [1, 5] (fun q i wr => ∃ (j : Nat) (m : Int), j ≤ ps.length ∧ i = .int .i64 j ∧ q = .int .i64 m ∧ Hid (m = k + numsU (ps.take j)) ∧ Hid (RowsU wr B (.slice (some ⟨g, 0, none⟩) ps.length c) (marksU k (ps.take j) ++ ps.drop j)) ∧ Below B w wr ∧ Hid (∀ M, M < w.heap.size → (∀ p ∈ ps, p.1 ≠ M) → wr.heap[M]? = w.heap[M]?)) (fun _ i _ => ps.length - (intOf i).toNat)
    case atStart => exact ⟨0, k, Nat.zero_le _, rfl, rfl, Lib.hid (by simp [numsU]), Lib.hid (by simpa [marksU] using h), Below.refl _ _, Lib.hid (fun _ _ _ => rfl)⟩
    case round =>
      obtain ⟨j, m, hj, rfl, rfl, HM, HR, hb, HKP⟩ := hrel
      by_cases hlt : j < ps.length
      · obtain ⟨p, hpj⟩ : ∃ p, ps[j]? = some p := ⟨_, List.getElem?_eq_getElem hlt⟩
        have hd : ps.drop j = p :: ps.drop (j + 1) := by
          obtain ⟨hj, rfl⟩ := List.getElem?_eq_some_iff.1 hpj
          exact List.drop_eq_getElem_cons hj
        have hR := HR.out
        rw [hd] at hR
        have hcp := hR.cell_at (k := j) (p := p) (by rw [List.getElem?_append_right (by rw [marksU_len, List.length_take]; omega), marksU_len, List.length_take, Nat.min_eq_left (by omega), Nat.sub_self]; rfl)
        have hsum : numsU (ps.take j) ≤ 1048576 := Nat.le_trans (numsU_take ps j) HSM.out
        have hm0 : 0 ≤ m := by have := HM.out; omega
        have hm1 : m ≤ 1099511627776 := by have := HM.out; omega
        have hpl : p.2.2.length ≤ 1048576 := Nat.le_trans (numsU_mem (List.mem_of_getElem? hpj)) HSM.out
        have HPM := Lib.hid (List.mem_of_getElem? hpj)
        have HO := Lib.hid (hR.each p (by simp))
        have HR2 := Lib.hid hR
        have HT := Lib.hid (takeU_up hpj)
        have hBs : B ≤ wr.heap.size := Nat.le_trans hB hb.size
        obtain ⟨pg, pc, pl⟩ := p
        simp only [slU] at hcp
        simp only at hpl
        clear hpj hd hR HR hsum
        go_wp2_with (go_at_call 25; refine (markIntS_any (some ⟨pg, 0, none⟩) pc pl m B wr HO.out (by omega) hm0 hm1).mono ?_; rintro e w2 ⟨rfl, o2, g2⟩)
        have R3 := Lib.hid (HR2.out.turn (upF_len _ _) o2 g2)
        go_roundw
        case rel =>
          refine ⟨j + 1, m + (pl.length : Int), by omega, by go_num, rfl, Lib.hid (by rw [HT.out, numsU_snoc, HM.out]; push_cast; omega), Lib.hid ?_, hb.grown g2 hBs (fun q e => by cases e; exact HO.out.ge), Lib.hid (fun M hM hne => (g2.block M (Nat.lt_of_lt_of_le hM hb.size) (fun e => hne _ HPM.out (Option.some.inj e).symm)).trans (HKP.out M hM hne))⟩
          rw [HT.out, marksU_snoc, ← HM.out, List.append_assoc]
          exact R3.out
        case measure => simp [intOf]; omega
      · obtain rfl : j = ps.length := by omega
        have hf : m = k + numsU ps ∧ RowsU wr B (.slice (some ⟨g, 0, none⟩) ps.length c) (marksU k ps) := by
          have h1 := HM.out
          have h2 := HR.out
          rw [List.take_length] at h1 h2
          rw [List.drop_length, List.append_nil] at h2
          exact ⟨h1, h2⟩
        have HF := Lib.hid hf
        clear hf
        go_wp2
        go_ret
        exact ⟨by rw [← HF.out.1]; rfl, HF.out.2, hb, HKP.out⟩

end Go.Proofs.Ytpildecpabeanab

/-
  Chapter 9, the program: LeastCore.
-/
namespace Go.Proofs.Ytpildecpabeanab
open Go.RowKit

/-- What LeastCore hands back: payments that lie in a block of five cells, and their sum. -/
def LcIs (w : World) (ts : List (List Int)) (e : Ending) (w' : World) : Prop :=
  Below w.heap.size w w' ∧ (((VTs ts ∧ ts.length ≤ 3) ∧ ∃ M b, e = .returned (.tuple #[.slice (some ⟨M, 0, none⟩) ts.length 4, .int .i64 (sm4 b)]) ∧ Pm w' M (pmL b) ∧ w.heap.size ≤ M ∧ IsLC ts b) ∨
    (¬ (VTs ts ∧ ts.length ≤ 3) ∧ e = .returned (.tuple #[.slice none 0 0, .int .i64 (-1)])))

set_option maxRecDepth 100000 in
set_option maxHeartbeats 1000000 in
theorem LeastCore_any (A : Option Addr) (c : Nat) (ts : List (List Int)) (w : World) (h : RdR w A c ts) (hl2 : ∀ r ∈ ts, r.length ≤ 1099511627776) :
    Calls Try.prog 22 #[.slice A ts.length c] w (LcIs w ts) := by
  have HC := Lib.hid (areTables_any A c ts w h hl2)
  rcases hb : vtsB ts with _ | _
  · have HE : Hid (¬ (VTs ts ∧ ts.length ≤ 3)) := Lib.hid (fun h => by rw [vtsB_true h.1] at hb; cases hb)
    rw [hb] at HC
    clear hb
    go_enter Try.func22, Try.ntmps22
    go_wp2_with (go_at_call 48; refine HC.out.mono ?_; rintro e w1 ⟨rfl, hb⟩)
    go_ret2
    exact ⟨hb, .inr ⟨HE.out, rfl⟩⟩
  · rw [hb] at HC
    have hv := vtsB_iff.1 hb
    clear hb
    by_cases h3 : ts.length ≤ 3
    · have h4 := hv.1.2
      have HYES := Lib.hid (And.intro hv h3)
      have HCO := Lib.hid (fun (w1 : World) (hb : Below w.heap.size w w1) => coreOf_yes A c ts.length ts w1 rfl (h.below hb) hl2 hv)
      have HSU := Lib.hid (owL_sum h4)
      have HLP := Lib.hid (fun (g : Nat) (w1 : World) (h1 : Rd w1 (some ⟨g, 0, none⟩) (2 ^ ts.length) (leL ts)) => leastPayments_any (at0 (owL ts)) (some ⟨g, 0, none⟩) (2 ^ ts.length) (2 ^ ts.length) (leL ts) w1 h1 (leL_len ts) (pow_len h4).2 (owO30 hv.2) (own_core hv.2 h4))
      have HLC := Lib.hid (fun (b : Nat → Int) (h1 : InO (at0 (owL ts)) b) (h2 : HasP (at0 (owL ts)) b (leL ts) (2 ^ ts.length)) (h3 : ∀ q, InO (at0 (owL ts)) q → HasP (at0 (owL ts)) q (leL ts) (2 ^ ts.length) → MF b ≤ MF q) => least_lc h4 h1 h2 h3)
      rw [← HSU.out] at HLP
      have hn3 : decide (3 < (ts.length : Int)) = false := by simp; omega
      have hn0 : (0 : Int) ≤ (ts.length : Int) := by omega
      have hn4 : (ts.length : Int) ≤ 4 := by omega
      clear hv HSU
      go_enter Try.func22, Try.ntmps22
      go_wp2_with fail
      refine HC.out.mono ?_
      rintro e w1 ⟨rfl, b1⟩
      have HB1 := Lib.hid b1
      clear b1
      go_wp2_with fail
      refine (HCO.out w1 HB1.out).mono ?_
      rintro e w2 ⟨g, rfl, o2, b2⟩
      have HR2 := Lib.hid o2.rd
      have HB2 := Lib.hid (HB1.out.trans (b2.mono HB1.out.size))
      clear o2 b2
      go_wp2_with fail
      refine (HLP.out g w2 HR2.out).mono ?_
      rintro e w3 ⟨⟨b, rfl, i1, i2, i3⟩, b3⟩
      have HB3 := Lib.hid (HB2.out.trans (b3.mono HB2.out.size))
      have HL := Lib.hid (HLC.out b i1 i2 i3)
      clear i1 i2 i3 b3 HLC
      unfold pmV
      have HPM : Hid (Pm (w3.alloc (.cells #[.int .i64 (b 0), .int .i64 (b 1), .int .i64 (b 2), .int .i64 (b 3), .int .i64 (sm4 b)] 56)) w3.heap.size (pmL b)) := Lib.hid (Pm.new w3 (pmL b) rfl)
      have HBA := Lib.hid (HB3.out.alloc HB3.out.size (.cells #[.int .i64 (b 0), .int .i64 (b 1), .int .i64 (b 2), .int .i64 (b 3), .int .i64 (sm4 b)] 56))
      go_wp2_with fail
      obtain ⟨W4, hW4⟩ : ∃ W4, W4 = w3.alloc (.cells #[.int .i64 (b 0), .int .i64 (b 1), .int .i64 (b 2), .int .i64 (b 3), .int .i64 (sm4 b)] 56) := ⟨_, rfl⟩
      rw [← hW4] at HPM HBA ⊢
      clear hW4
      have c4 : W4.cell? ⟨w3.heap.size, 4, none⟩ = some (.int .i64 (sm4 b)) := HPM.out.all.2.2.2.2
      go_quiet (fail)
      go_wp2_with fail
      go_ret2
      exact ⟨below_drewN' HBA.out _, .inl ⟨HYES.out, w3.heap.size, b, rfl, HPM.out.keep rfl, HB3.out.size, HL.out⟩⟩
    · have HE : Hid (¬ (VTs ts ∧ ts.length ≤ 3)) := Lib.hid (fun h => h3 h.2)
      have hn3 : decide (3 < (ts.length : Int)) = true := by simp; omega
      clear hv h3
      go_enter Try.func22, Try.ntmps22
      go_wp2_with (go_at_call 48; refine HC.out.mono ?_; rintro e w1 ⟨rfl, hb⟩)
      go_ret2
      exact ⟨hb, .inr ⟨HE.out, rfl⟩⟩

end Go.Proofs.Ytpildecpabeanab
