/-
  Chapter 8, the program: what is left of worths at prices, and the greatest of numbers.
-/
import Derived.Test.YtpildecpabeanabG08
import Derived.Test.YtpildecpabeanabOc
namespace Go.Proofs.Ytpildecpabeanab
open Go.RowKit

/-- What is left of the first k things, and the worths behind them. -/
def lfK (r p : List Int) (k : Nat) : List Int := (List.range (r.length + 1)).map (fun j => if j < k then r.getD j 0 - p.getD j 0 else r.getD j 0)
theorem lfK_len (r p : List Int) (k : Nat) : (lfK r p k).length = r.length + 1 := by simp [lfK]
theorem lfK_at {r p : List Int} {k j : Nat} (hj : j < r.length + 1) : (lfK r p k)[j]? = some (if j < k then r.getD j 0 - p.getD j 0 else r.getD j 0) := by simp [lfK, hj]
theorem lfK_zero (r p : List Int) : lfK r p 0 = r ++ [0] := by
  apply List.ext_getElem?; intro j
  rcases Nat.lt_or_ge j (r.length + 1) with h | h
  · rw [lfK_at h, if_neg (by omega), List.getD_eq_getElem?_getD]
    rcases Nat.lt_or_ge j r.length with h1 | h1
    · rw [List.getElem?_append_left h1, List.getElem?_eq_getElem h1]; rfl
    · rw [List.getElem?_append_right h1, List.getElem?_eq_none h1, show j - r.length = 0 by omega]; rfl
  · rw [List.getElem?_eq_none (by rw [lfK_len]; exact h), List.getElem?_eq_none (by simpa using h)]
theorem lfK_set {r p : List Int} {k : Nat} (hk : k < r.length + 1) : (lfK r p k).set k (r.getD k 0 - p.getD k 0) = lfK r p (k + 1) := by
  apply List.ext_getElem?; intro j
  rcases Nat.lt_or_ge j (r.length + 1) with h | h
  · by_cases e : j = k
    · subst e
      rw [List.getElem?_set_self (by rw [lfK_len]; exact h), lfK_at h, if_pos (by omega)]
    · rw [List.getElem?_set_ne (fun e' => e e'.symm), lfK_at h, lfK_at h]
      by_cases hj : j < k
      · rw [if_pos hj, if_pos (by omega)]
      · rw [if_neg hj, if_neg (by omega)]
  · rw [List.getElem?_eq_none (by rw [List.length_set, lfK_len]; exact h), List.getElem?_eq_none (by rw [lfK_len]; exact h)]
/-- What is left, none behind. -/
def lfL (r p : List Int) : List Int := lfK r p r.length
theorem lfL_at {r p : List Int} {m j : Nat} (hm : r.length = m) (hp : p.length = m) (hj : j ≤ m) : (lfL r p)[j]? = some (r.getD j 0 - P1 p j) := by
  rw [lfL, lfK_at (by omega)]
  unfold P1
  split
  · rfl
  · have h1 : r.getD j 0 = 0 := by rw [List.getD_eq_getElem?_getD, List.getElem?_eq_none (by omega)]; rfl
    have h2 : p.getD j 0 = 0 := by rw [List.getD_eq_getElem?_getD, List.getElem?_eq_none (by omega)]; rfl
    rw [h1, h2]; simp
/-- The greatest of what is left. -/
theorem lfL_top {r p : List Int} {m : Nat} (hm : r.length = m) (hp : p.length = m) {v : Int} (hv : v ∈ lfL r p) (hv2 : ∀ y ∈ lfL r p, y ≤ v) : v = bo m r 0 (P1 p) := by
  have hl : (lfL r p).length = m + 1 := by rw [lfL, lfK_len, hm]
  have hmem : ∀ j, j ≤ m → r.getD j 0 - P1 p j ≤ v := fun j hj => hv2 _ (List.mem_of_getElem? (lfL_at hm hp hj))
  have z1 : r.getD m 0 = 0 := by rw [List.getD_eq_getElem?_getD, List.getElem?_eq_none (by omega)]; rfl
  have z2 : P1 p m = 0 := by unfold P1; rw [List.getD_eq_getElem?_getD, List.getElem?_eq_none (by omega)]; rfl
  have h0 := hmem m (Nat.le_refl _)
  rw [z1, z2] at h0
  have hge : bo m r 0 (P1 p) ≤ v := by
    rcases bo_at m r 0 (P1 p) with e | ⟨j, hj, _, e⟩
    · omega
    · have := hmem j (Nat.le_of_lt hj); omega
  obtain ⟨j, hj, hjv⟩ := List.getElem_of_mem hv
  have e := lfL_at (r := r) (p := p) hm hp (j := j) (by omega)
  rw [List.getElem?_eq_getElem hj, hjv] at e
  have e := Option.some.inj e
  rcases Nat.lt_or_ge j m with h | h
  · have := bo_ge r (P1 p) h (tk_zero m j)
    omega
  · have : j = m := by omega
    subst this
    have := bo_nonneg j r 0 (P1 p)
    omega

set_option maxHeartbeats 400000 in
theorem MaxOf_any (A : Option Addr) (c n : Nat) (xs : List Int) (w : World) (hn : xs.length = n) (h : Rd w A c xs) (h1 : 1 ≤ n) (hl : n ≤ 1048576) :
    Calls Try.prog 61 #[.slice A n c] w fun e w' => ∃ v, e = .returned (.int .i64 v) ∧ (v ∈ xs ∧ ∀ y ∈ xs, y ≤ v) ∧ w = w' := by
  subst hn
  obtain ⟨b, off, x0, rfl, _, hx0, hc0⟩ := h.at_ (k := 0) (by omega)
  rw [Nat.add_zero] at hc0
  have HX0 : Hid (x0 ∈ xs ∧ ∀ j y, j < 1 → xs[j]? = some y → y ≤ x0) := Lib.hid ⟨List.mem_of_getElem? hx0.out, fun j y hj hy => by
    obtain rfl : j = 0 := by omega
    rw [hx0.out] at hy; cases hy; exact Int.le_refl _⟩
  have hl1 : decide ((xs.length : Int) < 1) = false := by simp; omega
  clear hx0
  go_enter Try.func61, Try.ntmps61
  go_wp2
  go_loop [3, 4] (fun m i => ∃ k : Nat, 1 ≤ k ∧ k ≤ xs.length ∧ i = .int .i64 k ∧ ∃ v, m = .int .i64 v ∧ Hid (v ∈ xs ∧ ∀ j y, j < k → xs[j]? = some y → y ≤ v)) (fun _ i => xs.length - (intOf i).toNat)
  case atStart => exact ⟨1, Nat.le_refl _, h1, rfl, x0, rfl, HX0⟩
  case round =>
    obtain ⟨k, hk1, hk, rfl, v, rfl, HV⟩ := hrel
    by_cases hlt : k < xs.length
    · obtain ⟨b2, off2, x, hA, _, hx, hc⟩ := h.at_ hlt
      cases hA
      have HV' : Hid ((if v < x then x else v) ∈ xs ∧ ∀ j y, j < k + 1 → xs[j]? = some y → y ≤ (if v < x then x else v)) := Lib.hid (by
        constructor
        · split
          · exact List.mem_of_getElem? hx.out
          · exact HV.out.1
        · intro j y hj hy
          rcases Nat.lt_or_ge j k with hjk | hjk
          · have := HV.out.2 j y hjk hy; split <;> omega
          · obtain rfl : j = k := by omega
            rw [hx.out] at hy; cases hy; split <;> omega)
      clear hx
      go_wp2
      go_round
      case rel => exact ⟨k + 1, by omega, by omega, by go_num, _, rfl, HV'⟩
      case measure => simp [intOf]; omega
    · obtain rfl : k = xs.length := by omega
      have HE := Lib.hid (fun y (hy : y ∈ xs) => (by
        obtain ⟨j, hj, e⟩ := List.getElem_of_mem hy
        exact HV.out.2 j y hj (by rw [List.getElem?_eq_getElem hj, e]) : y ≤ v))
      go_wp2
      go_ret
      exact ⟨v, rfl, ⟨HV.out.1, HE.out⟩, rfl⟩

theorem own_some4 {w : World} {B : Nat} {A : Option Addr} {c : Nat} {zs : List Int} (h : Own w B A c zs) (hz : 1 ≤ zs.length) : ∃ g, A = some ⟨g, 0, none⟩ := by
  rcases h.2 with ⟨hv, hn⟩ | ⟨g, cap, cur, hv, _⟩
  · omega
  · injection hv with hA _ _; exact ⟨g, hA⟩
set_option maxHeartbeats 400000 in
theorem leftBy_any (A B : Option Addr) (c d m : Nat) (r p : List Int) (w : World) (hR : Rd w A c r) (hP : Rd w B d p) (hm : r.length = m) (hp : p.length = m) (h1 : 1 ≤ m) (h4 : m ≤ 4) (hc : m ≤ c) (hrb : ∀ j, 0 ≤ r.getD j 0 ∧ r.getD j 0 ≤ 12) (hpb : ∀ j, 0 ≤ p.getD j 0 ∧ p.getD j 0 ≤ 100) :
    Calls Try.prog 60 #[.slice A m c, .slice B m d] w (NewL w (lfL r p)) := by
  have hwn : Calls Try.prog 57 #[.slice A m c] w fun e w' => ∃ A1 c1, e = .returned (.slice A1 (m + 1) c1) ∧ Own w' w.heap.size A1 c1 (lfK r p 0) ∧ Below w.heap.size w w' := by
    have := withNone_any A c r w hR (by omega) (by omega) (by omega)
    rw [hm] at this
    refine this.mono ?_
    rintro e w' ⟨A1, c1, he, o, b⟩
    exact ⟨A1, c1, by rw [he]; simp [hm], by rw [lfK_zero]; exact o, b⟩
  have HWN := Lib.hid hwn
  have HPR := Lib.hid hP
  have HRB := Lib.hid hrb
  have HPB := Lib.hid hpb
  have HRM := Lib.hid hm
  have HPM := Lib.hid hp
  have HLL : Hid ((lfL r p).length = m + 1) := Lib.hid (by rw [lfL, lfK_len, hm])
  clear hwn hR hP hrb hpb hm hp
  go_enter Try.func60, Try.ntmps60
  go_wp2_with fail
  refine HWN.out.mono ?_
  rintro e w1 ⟨A1, c1, rfl, o1, b1⟩
  have HO1 := Lib.hid o1
  have HB1 := Lib.hid b1
  obtain ⟨g, rfl⟩ := own_some4 o1 (by rw [lfK_len]; omega)
  clear o1 b1 HWN
  have hm1 : (m : Int) + 1 ≤ 100 := by omega
  go_wp2_with fail
  go_loopw [12] (fun i wr => ∃ k : Nat, k ≤ m ∧ i = .int .i64 k ∧ Hid (Own wr w.heap.size (some ⟨g, 0, none⟩) c1 (lfK r p k)) ∧ Hid (Below w.heap.size w wr)) (fun i _ => m - (intOf i).toNat)
  case atStart => exact ⟨0, Nat.zero_le _, rfl, HO1, HB1⟩
  case round =>
    obtain ⟨k, hk, rfl, HO, HB⟩ := hrel
    by_cases hlt : k < m
    · obtain ⟨b2, o2, y, hB, _, hy, hcy⟩ := (HPR.out.below HB.out).at_ (k := k) (by rw [HPM.out]; exact hlt)
      subst hB
      have hyp : p.getD k 0 = y := by rw [List.getD_eq_getElem?_getD, hy.out]; rfl
      obtain ⟨x, hx⟩ : ∃ x, x = r.getD k 0 := ⟨_, rfl⟩
      have hrb := HRB.out k
      have hpb := HPB.out k
      rw [hyp] at hpb
      rw [← hx] at hrb
      have hat : (lfK r p k)[k]? = some x := by rw [lfK_at (by rw [HRM.out]; omega), if_neg (by omega), hx]
      have hcg := HO.out.cell hat
      have hfr := HO.out.free k
      have hw1 : IntKind.i64.wrap (x - y) = x - y := IntWalk.i64_in _ (by omega)
      have HO' : Hid (Own (wr.setCell ⟨g, k, none⟩ (.int .i64 (x - y))) w.heap.size (some ⟨g, 0, none⟩) c1 (lfK r p (k + 1))) := Lib.hid (by
        have h9 := HO.out.set_ k (x - y)
        have h8 := lfK_set (r := r) (p := p) (k := k) (by rw [HRM.out]; omega)
        rw [hyp, ← hx] at h8
        rwa [h8] at h9)
      have HB' := Lib.hid (HB.out.setCell (p := ⟨g, k, none⟩) HO.out.ge (.int .i64 (x - y)))
      have hlt2 : (k : Int) < (m : Int) + 1 := by omega
      clear hx hat hyp hy hrb hpb
      go_wp2
      go_roundw
      case rel => exact ⟨k + 1, hlt, by go_num, HO', HB'⟩
      case measure => simp [intOf]; omega
    · obtain rfl : k = m := by omega
      have HOE : Hid (Own wr w.heap.size (some ⟨g, 0, none⟩) c1 (lfL r p)) := Lib.hid (by rw [lfL, HRM.out]; exact HO.out)
      go_wp2
      go_ret
      exact ⟨some ⟨g, 0, none⟩, c1, by rw [HLL.out]; rfl, HOE.out, HB.out⟩
end Go.Proofs.Ytpildecpabeanab
