/-
  Chapter 8, the program: what is left of worths at prices, and the greatest of numbers.
-/
import Derived.Test.YtpildecpabeanaaG04
import Derived.Test.YtpildecpabeanaaOc
import Derived.Test.YtpildecpabeanaaG09
import Derived.Test.YtpildecpabeanaaG20
import Derived.Test.YtpildecpabeanaaG26
import Derived.Test.YtpildecpabeanaaG03
namespace Go.Proofs.Ytpildecpabeanaa
open Go.RowKit

/-- What is left of the first k things, and the worths behind them. -/
def lfK (r p : List Int) (k : Nat) : List Int := (List.range (r.length + 1)).map (fun j => if j < k then r.getD j 0 - p.getD j 0 else r.getD j 0)
theorem lfK_len (r p : List Int) (k : Nat) : (lfK r p k).length = r.length + 1 := by simp [lfK]
theorem lfK_at {r p : List Int} {k j : Nat} (hj : j < r.length + 1) : (lfK r p k)[j]? = some (if j < k then r.getD j 0 - p.getD j 0 else r.getD j 0) := by simp [lfK, hj]
theorem lfK_zero (r p : List Int) : lfK r p 0 = r ++ [0] := by
  apply List.ext_getElem?; intro j
  rcases Nat.lt_or_ge j (r.length + 1) with h | h
  · rw [lfK_at h, if_neg (by omega), List.getD_eq_getElem?_getD]
    rcases Nat.lt_or_ge j r.length with h1 | h1
    · rw [List.getElem?_append_left h1, List.getElem?_eq_getElem h1]; rfl
    · rw [List.getElem?_append_right h1, List.getElem?_eq_none h1, show j - r.length = 0 by omega]; rfl
  · rw [List.getElem?_eq_none (by rw [lfK_len]; exact h), List.getElem?_eq_none (by simpa using h)]
theorem lfK_set {r p : List Int} {k : Nat} (hk : k < r.length + 1) : (lfK r p k).set k (r.getD k 0 - p.getD k 0) = lfK r p (k + 1) := by
  apply List.ext_getElem?; intro j
  rcases Nat.lt_or_ge j (r.length + 1) with h | h
  · by_cases e : j = k
    · subst e
      rw [List.getElem?_set_self (by rw [lfK_len]; exact h), lfK_at h, if_pos (by omega)]
    · rw [List.getElem?_set_ne (fun e' => e e'.symm), lfK_at h, lfK_at h]
      by_cases hj : j < k
      · rw [if_pos hj, if_pos (by omega)]
      · rw [if_neg hj, if_neg (by omega)]
  · rw [List.getElem?_eq_none (by rw [List.length_set, lfK_len]; exact h), List.getElem?_eq_none (by rw [lfK_len]; exact h)]
/-- What is left, none behind. -/
def lfL (r p : List Int) : List Int := lfK r p r.length
theorem lfL_at {r p : List Int} {m j : Nat} (hm : r.length = m) (hp : p.length = m) (hj : j ≤ m) : (lfL r p)[j]? = some (r.getD j 0 - P1 p j) := by
  rw [lfL, lfK_at (by omega)]
  unfold P1
  split
  · rfl
  · have h1 : r.getD j 0 = 0 := by rw [List.getD_eq_getElem?_getD, List.getElem?_eq_none (by omega)]; rfl
    have h2 : p.getD j 0 = 0 := by rw [List.getD_eq_getElem?_getD, List.getElem?_eq_none (by omega)]; rfl
    rw [h1, h2]; simp
/-- The greatest of what is left. -/
theorem lfL_top {r p : List Int} {m : Nat} (hm : r.length = m) (hp : p.length = m) {v : Int} (hv : v ∈ lfL r p) (hv2 : ∀ y ∈ lfL r p, y ≤ v) : v = bo m r 0 (P1 p) := by
  have hl : (lfL r p).length = m + 1 := by rw [lfL, lfK_len, hm]
  have hmem : ∀ j, j ≤ m → r.getD j 0 - P1 p j ≤ v := fun j hj => hv2 _ (List.mem_of_getElem? (lfL_at hm hp hj))
  have z1 : r.getD m 0 = 0 := by rw [List.getD_eq_getElem?_getD, List.getElem?_eq_none (by omega)]; rfl
  have z2 : P1 p m = 0 := by unfold P1; rw [List.getD_eq_getElem?_getD, List.getElem?_eq_none (by omega)]; rfl
  have h0 := hmem m (Nat.le_refl _)
  rw [z1, z2] at h0
  have hge : bo m r 0 (P1 p) ≤ v := by
    rcases bo_at m r 0 (P1 p) with e | ⟨j, hj, _, e⟩
    · omega
    · have := hmem j (Nat.le_of_lt hj); omega
  obtain ⟨j, hj, hjv⟩ := List.getElem_of_mem hv
  have e := lfL_at (r := r) (p := p) hm hp (j := j) (by omega)
  rw [List.getElem?_eq_getElem hj, hjv] at e
  have e := Option.some.inj e
  rcases Nat.lt_or_ge j m with h | h
  · have := bo_ge r (P1 p) h (tk_zero m j)
    omega
  · have : j = m := by omega
    subst this
    have := bo_nonneg j r 0 (P1 p)
    omega

set_option maxHeartbeats 400000 in
theorem MaxOf_any (A : Option Addr) (c n : Nat) (xs : List Int) (w : World) (hn : xs.length = n) (h : Rd w A c xs) (h1 : 1 ≤ n) (hl : n ≤ 1048576) :
    Calls Try.prog 97 #[.slice A n c] w fun e w' => ∃ v, e = .returned (.int .i64 v) ∧ (v ∈ xs ∧ ∀ y ∈ xs, y ≤ v) ∧ w = w' := by
  subst hn
  obtain ⟨b, off, x0, rfl, _, hx0, hc0⟩ := h.at_ (k := 0) (by omega)
  rw [Nat.add_zero] at hc0
  have HX0 : Hid (x0 ∈ xs ∧ ∀ j y, j < 1 → xs[j]? = some y → y ≤ x0) := Lib.hid ⟨List.mem_of_getElem? hx0.out, fun j y hj hy => by
    obtain rfl : j = 0 := by omega
    rw [hx0.out] at hy; cases hy; exact Int.le_refl _⟩
  have hl1 : decide ((xs.length : Int) < 1) = false := by simp; omega
  clear hx0
  go_enter Try.func97, Try.ntmps97
  go_wp2
  go_loop [3, 4] (fun m i => ∃ k : Nat, 1 ≤ k ∧ k ≤ xs.length ∧ i = .int .i64 k ∧ ∃ v, m = .int .i64 v ∧ Hid (v ∈ xs ∧ ∀ j y, j < k → xs[j]? = some y → y ≤ v)) (fun _ i => xs.length - (intOf i).toNat)
  case atStart => exact ⟨1, Nat.le_refl _, h1, rfl, x0, rfl, HX0⟩
  case round =>
    obtain ⟨k, hk1, hk, rfl, v, rfl, HV⟩ := hrel
    by_cases hlt : k < xs.length
    · obtain ⟨b2, off2, x, hA, _, hx, hc⟩ := h.at_ hlt
      cases hA
      have HV' : Hid ((if v < x then x else v) ∈ xs ∧ ∀ j y, j < k + 1 → xs[j]? = some y → y ≤ (if v < x then x else v)) := Lib.hid (by
        constructor
        · split
          · exact List.mem_of_getElem? hx.out
          · exact HV.out.1
        · intro j y hj hy
          rcases Nat.lt_or_ge j k with hjk | hjk
          · have := HV.out.2 j y hjk hy; split <;> omega
          · obtain rfl : j = k := by omega
            rw [hx.out] at hy; cases hy; split <;> omega)
      clear hx
      go_wp2
      go_round
      case rel => exact ⟨k + 1, by omega, by omega, by go_num, _, rfl, HV'⟩
      case measure => simp [intOf]; omega
    · obtain rfl : k = xs.length := by omega
      have HE := Lib.hid (fun y (hy : y ∈ xs) => (by
        obtain ⟨j, hj, e⟩ := List.getElem_of_mem hy
        exact HV.out.2 j y hj (by rw [List.getElem?_eq_getElem hj, e]) : y ≤ v))
      go_wp2
      go_ret
      exact ⟨v, rfl, ⟨HV.out.1, HE.out⟩, rfl⟩

theorem own_some4 {w : World} {B : Nat} {A : Option Addr} {c : Nat} {zs : List Int} (h : Own w B A c zs) (hz : 1 ≤ zs.length) : ∃ g, A = some ⟨g, 0, none⟩ := by
  rcases h.2 with ⟨hv, hn⟩ | ⟨g, cap, cur, hv, _⟩
  · omega
  · injection hv with hA _ _; exact ⟨g, hA⟩
set_option maxHeartbeats 400000 in
theorem leftBy_any (A B : Option Addr) (c d m : Nat) (r p : List Int) (w : World) (hR : Rd w A c r) (hP : Rd w B d p) (hm : r.length = m) (hp : p.length = m) (h1 : 1 ≤ m) (h4 : m ≤ 4) (hc : m ≤ c) (hrb : ∀ j, 0 ≤ r.getD j 0 ∧ r.getD j 0 ≤ 12) (hpb : ∀ j, 0 ≤ p.getD j 0 ∧ p.getD j 0 ≤ 100) :
    Calls Try.prog 109 #[.slice A m c, .slice B m d] w (NewL w (lfL r p)) := by
  have hwn : Calls Try.prog 108 #[.slice A m c] w fun e w' => ∃ A1 c1, e = .returned (.slice A1 (m + 1) c1) ∧ Own w' w.heap.size A1 c1 (lfK r p 0) ∧ Below w.heap.size w w' := by
    have := withNone_any A c r w hR (by omega) (by omega) (by omega)
    rw [hm] at this
    refine this.mono ?_
    rintro e w' ⟨A1, c1, he, o, b⟩
    exact ⟨A1, c1, by rw [he]; simp [hm], by rw [lfK_zero]; exact o, b⟩
  have HWN := Lib.hid hwn
  have HPR := Lib.hid hP
  have HRB := Lib.hid hrb
  have HPB := Lib.hid hpb
  have HRM := Lib.hid hm
  have HPM := Lib.hid hp
  have HLL : Hid ((lfL r p).length = m + 1) := Lib.hid (by rw [lfL, lfK_len, hm])
  clear hwn hR hP hrb hpb hm hp
  go_enter Try.func109, Try.ntmps109
  go_wp2_with fail
  refine HWN.out.mono ?_
  rintro e w1 ⟨A1, c1, rfl, o1, b1⟩
  have HO1 := Lib.hid o1
  have HB1 := Lib.hid b1
  obtain ⟨g, rfl⟩ := own_some4 o1 (by rw [lfK_len]; omega)
  clear o1 b1 HWN
  have hm1 : (m : Int) + 1 ≤ 100 := by omega
  go_wp2_with fail
  go_loopw [12] (fun i wr => ∃ k : Nat, k ≤ m ∧ i = .int .i64 k ∧ Hid (Own wr w.heap.size (some ⟨g, 0, none⟩) c1 (lfK r p k)) ∧ Hid (Below w.heap.size w wr)) (fun i _ => m - (intOf i).toNat)
  case atStart => exact ⟨0, Nat.zero_le _, rfl, HO1, HB1⟩
  case round =>
    obtain ⟨k, hk, rfl, HO, HB⟩ := hrel
    by_cases hlt : k < m
    · obtain ⟨b2, o2, y, hB, _, hy, hcy⟩ := (HPR.out.below HB.out).at_ (k := k) (by rw [HPM.out]; exact hlt)
      subst hB
      have hyp : p.getD k 0 = y := by rw [List.getD_eq_getElem?_getD, hy.out]; rfl
      obtain ⟨x, hx⟩ : ∃ x, x = r.getD k 0 := ⟨_, rfl⟩
      have hrb := HRB.out k
      have hpb := HPB.out k
      rw [hyp] at hpb
      rw [← hx] at hrb
      have hat : (lfK r p k)[k]? = some x := by rw [lfK_at (by rw [HRM.out]; omega), if_neg (by omega), hx]
      have hcg := HO.out.cell hat
      have hfr := HO.out.free k
      have hw1 : IntKind.i64.wrap (x - y) = x - y := IntWalk.i64_in _ (by omega)
      have HO' : Hid (Own (wr.setCell ⟨g, k, none⟩ (.int .i64 (x - y))) w.heap.size (some ⟨g, 0, none⟩) c1 (lfK r p (k + 1))) := Lib.hid (by
        have h9 := HO.out.set_ k (x - y)
        have h8 := lfK_set (r := r) (p := p) (k := k) (by rw [HRM.out]; omega)
        rw [hyp, ← hx] at h8
        rwa [h8] at h9)
      have HB' := Lib.hid (HB.out.setCell (p := ⟨g, k, none⟩) HO.out.ge (.int .i64 (x - y)))
      have hlt2 : (k : Int) < (m : Int) + 1 := by omega
      clear hx hat hyp hy hrb hpb
      go_wp2
      go_roundw
      case rel => exact ⟨k + 1, hlt, by go_num, HO', HB'⟩
      case measure => simp [intOf]; omega
    · obtain rfl : k = m := by omega
      have HOE : Hid (Own wr w.heap.size (some ⟨g, 0, none⟩) c1 (lfL r p)) := Lib.hid (by rw [lfL, HRM.out]; exact HO.out)
      go_wp2
      go_ret
      exact ⟨some ⟨g, 0, none⟩, c1, by rw [HLL.out]; rfl, HOE.out, HB.out⟩
end Go.Proofs.Ytpildecpabeanaa

/-
  Chapter 8, the program: whether prices go with pairs.
-/
namespace Go.Proofs.Ytpildecpabeanaa
open Go.RowKit

/-- What is unsold when k bidders have theirs: its price; 0 for what is sold, and for none. -/
def unF (m : Nat) (p : List Int) (js : List Nat) (k : Nat) : List Int := (List.range (m + 1)).map (fun q => if q ∈ js.take k then 0 else P1 p q)
theorem unF_len (m : Nat) (p : List Int) (js : List Nat) (k : Nat) : (unF m p js k).length = m + 1 := by simp [unF]
theorem unF_at {m : Nat} {p : List Int} {js : List Nat} {k q : Nat} (hq : q < m + 1) : (unF m p js k)[q]? = some (if q ∈ js.take k then 0 else P1 p q) := by simp [unF, hq]
theorem unF_zero {m : Nat} {p : List Int} {js : List Nat} (hp : p.length = m) : unF m p js 0 = p ++ [0] := by
  apply List.ext_getElem?
  intro q
  rcases Nat.lt_or_ge q (m + 1) with h | h
  · rw [unF_at h]
    simp only [List.take_zero, List.not_mem_nil, if_false]
    unfold P1
    rcases Nat.lt_or_ge q m with h2 | h2
    · rw [List.getElem?_append_left (by omega), List.getD_eq_getElem?_getD, List.getElem?_eq_getElem (by omega)]; rfl
    · obtain rfl : q = m := by omega
      rw [List.getElem?_append_right (by omega), List.getD_eq_getElem?_getD, List.getElem?_eq_none (by omega), hp]
      simp
  · rw [List.getElem?_eq_none (by rw [unF_len]; exact h), List.getElem?_eq_none (by simp; omega)]
theorem unF_set {m : Nat} {p : List Int} {js : List Nat} {k j : Nat} (hj : js[k]? = some j) : (unF m p js k).set j 0 = unF m p js (k + 1) := by
  apply List.ext_getElem?
  intro q
  rcases Nat.lt_or_ge q (m + 1) with h | h
  · rw [unF_at h, List.take_add_one, hj]
    simp only [Option.toList_some, List.mem_append, List.mem_singleton]
    by_cases hqj : q = j
    · subst hqj
      rw [List.getElem?_set_self (by rw [unF_len]; exact h)]
      simp
    · rw [List.getElem?_set_ne (fun e => hqj e.symm), unF_at h]
      simp [hqj]
  · rw [List.getElem?_eq_none (by rw [List.length_set, unF_len]; exact h), List.getElem?_eq_none (by rw [unF_len]; exact h)]
/-- Nothing is unsold but at 0. -/
theorem unF_max {m : Nat} (hm : m ≤ 4) {rows : List (List Int)} {p : List Int} {js : List Nat} (hM : Mt m rows 0 js) (hp : p.length = m) (hpb : ∀ j, 0 ≤ p.getD j 0) {v : Int} (hv : v ∈ unF m p js js.length) (hv2 : ∀ y ∈ unF m p js js.length, y ≤ v) :
    v = 0 ↔ ∀ j, j < m → isTk m (endU m 0 js) j = false → P1 p j = 0 := by
  have hE := (end_tk hm 0 js (by omega) hM).2
  have hz : ∀ k, isTk m 0 k = false := fun k => by simp [isTk]
  have hge : ∀ q, 0 ≤ P1 p q := fun q => hpb q
  have hv0 : 0 ≤ v := by
    have h1 := hv2 _ (List.mem_of_getElem? (unF_at (js := js) (k := js.length) (p := p) (Nat.lt_succ_self m)))
    have : P1 p m = 0 := by unfold P1; rw [List.getD_eq_getElem?_getD, List.getElem?_eq_none (by omega)]; rfl
    rw [this] at h1
    split at h1 <;> omega
  constructor
  · rintro rfl j hj hf
    have h1 := hv2 _ (List.mem_of_getElem? (unF_at (js := js) (k := js.length) (p := p) (show j < m + 1 by omega)))
    rw [hE, hz] at hf
    simp only [Bool.false_or, decide_eq_false_iff_not] at hf
    rw [List.take_length, if_neg (fun hmem => hf ⟨hj, hmem⟩)] at h1
    have := hge j
    omega
  · intro h
    obtain ⟨q, hq, hqv⟩ := List.getElem_of_mem hv
    rw [unF_len] at hq
    have e := unF_at (js := js) (k := js.length) (p := p) hq
    rw [List.getElem?_eq_getElem (by rw [unF_len]; exact hq), hqv] at e
    have e := Option.some.inj e
    rw [List.take_length] at e
    by_cases hmem : q ∈ js
    · rw [if_pos hmem] at e; exact e
    · rw [if_neg hmem] at e
      rcases Nat.lt_or_ge q m with h2 | h2
      · rw [e]
        refine h q h2 ?_
        rw [hE, hz]
        simp [hmem]
      · have : P1 p q = 0 := by unfold P1; rw [List.getD_eq_getElem?_getD, List.getElem?_eq_none (by omega)]; rfl
        omega

/-- All blocks but one below N are as they were. -/
def KeepN (N g : Nat) (w w' : World) : Prop := N ≤ w'.heap.size ∧ ∀ q, q < N → q ≠ g → w'.heap[q]? = w.heap[q]?
theorem KeepN.cell {N g : Nat} {w w' : World} (h : KeepN N g w w') {p : Addr} {u : Value} (hp : p.block < N) (hg : p.block ≠ g) (hc : w.cell? p = some u) : w'.cell? p = some u := by
  rw [← hc]; unfold World.cell?; rw [h.2 _ hp hg]
theorem KeepN.below {N g : Nat} {w w' w2 : World} (h : KeepN N g w w') (hb : Below w'.heap.size w' w2) : KeepN N g w w2 :=
  ⟨Nat.le_trans h.1 hb.size, fun q hq hg => (hb.block q (by have := h.1; omega)).trans (h.2 q hq hg)⟩
theorem KeepN.drewN {N g : Nat} {w w' : World} (h : KeepN N g w w') (n : Nat) : KeepN N g w (w'.drewN n) := h
theorem KeepN.setCell {N g : Nat} {w w' : World} (h : KeepN N g w w') (k : Nat) (u : Value) : KeepN N g w (w'.setCell ⟨g, k, none⟩ u) :=
  ⟨by rw [show (w'.setCell ⟨g, k, none⟩ u).heap.size = w'.heap.size by simp]; exact h.1, fun q hq hg => (Below.heap_setCell w' _ u q (by simpa using hg)).trans (h.2 q hq hg)⟩

set_option maxRecDepth 100000 in
set_option maxHeartbeats 4000000 in
theorem GoWithPairs_yes (A B : Option Addr) (c d m : Nat) (rows : List (List Int)) (p : List Int) (w : World) (v : Bool) (h : RdR w A c rows) (hP : Rd w B d p) (hv : VR rows) (hm : m = (RW rows 0).length) (hp : p.length = m) (hpd : m ≤ d) (hpb : ∀ x ∈ p, 0 ≤ x ∧ x ≤ 40) (hl2 : ∀ r ∈ rows, r.length ≤ 1099511627776)
    (hgv : v = true ↔ goW m rows (P1 p) (pb rows 0).2) :
    Calls Try.prog 48 #[.slice A rows.length c, .slice B m d] w fun e w' => e = .returned (.bool v) ∧ Below w.heap.size w w' := by
  have HV := Lib.hid (ValidRows_any A c rows w h (by have := hv.1; omega) hl2)
  rw [vr_true hv] at HV
  obtain ⟨hk, h12, hm1, hm4⟩ := hv.rk
  rw [← hm] at hk hm1 hm4
  have hpg : ∀ j, 0 ≤ p.getD j 0 ∧ p.getD j 0 ≤ 40 := fun j => by
    rw [List.getD_eq_getElem?_getD]
    rcases Nat.lt_or_ge j p.length with h1 | h1
    · rw [List.getElem?_eq_getElem h1]; exact hpb _ (List.getElem_mem h1)
    · rw [List.getElem?_eq_none h1]; simp
  have hgb : gB p = true := by
    unfold gB
    rw [Bool.and_eq_true, inR_true, List.all_eq_true]
    exact ⟨by omega, fun x hx => inR_true.2 (hpb x hx)⟩
  have HGO : Hid (∀ w1, Below w.heap.size w w1 → Calls Try.prog 78 #[.slice B m d, .int .i64 4, .func (.func 107) #[] #[]] w1 fun e w' => e = .returned (.bool true) ∧ w1 = w') := Lib.hid (fun w1 hb => by
    have := areGoods_any B d p w1 (hP.below hb) (by omega)
    rwa [hgb, hp] at this)
  have HWN : Hid (∀ w1, Below w.heap.size w w1 → Calls Try.prog 108 #[.slice B m d] w1 fun e w' => ∃ A1 c1, e = .returned (.slice A1 (m + 1) c1) ∧ Own w' w1.heap.size A1 c1 (p ++ [0]) ∧ Below w1.heap.size w1 w') := Lib.hid (fun w1 hb => by
    have := withNone_any B d p w1 (hP.below hb) (by omega) (by omega) (by omega)
    rw [hp] at this
    refine this.mono ?_
    rintro e w' ⟨A1, c1, he, o, b⟩
    exact ⟨A1, c1, by rw [he]; simp [hp], o, b⟩)
  have HBF := Lib.hid (fun w1 (b : Below w.heap.size w w1) => bestFrom2_any _ hm4 hm1 rows hk h12 hv.1.2 A c 0 w1 (Nat.two_pow_pos _) (h.below b))
  have hpl := pb_len hk 0
  have HMT := Lib.hid (pb_mt hk 0).1
  have HMT9 := Lib.hid (mt_at hm4 0 _ (by omega) (pb_mt hk 0).1)
  have HROW := Lib.hid (fun w1 (b : Below w.heap.size w w1) => row_head (h.below b) hv)
  rw [← hm] at HROW
  have HPB := Lib.hid hpg
  have HGV := Lib.hid hgv
  have HRK := Lib.hid hk
  have H12 := Lib.hid h12
  have HR := Lib.hid h
  have HPP := Lib.hid hP
  have HPM := Lib.hid hp
  have hn4 := hv.1
  have HJL := Lib.hid hpl
  have HTL := Lib.hid (prs_len rows _ hpl)
  have HTA := Lib.hid (prs_at rows (pb rows 0).2)
  generalize prs rows (pb rows 0).2 = ts at *
  generalize (pb rows 0).2 = js at *
  clear h hP hv hm hp hpb hpg hgb hgv hk h12 hpl
  obtain ⟨b0, off0, A0, c0, rfl, hc0⟩ := HROW.out w (Below.refl _ _)
  go_enter Try.func48, Try.ntmps48
  go_wp2_with fail
  refine HV.out.mono ?_
  rintro e w1 ⟨rfl, b1⟩
  have hc01 := (b1.cell (p := ⟨b0, off0, none⟩) (World.block_lt_of_cell? w _ hc0)).trans hc0
  go_wp2_with fail
  refine (HGO.out w1 b1).mono ?_
  rintro e w2 ⟨rfl, rfl⟩
  go_wp2_with fail
  refine (HWN.out w1 b1).mono ?_
  rintro e w2 ⟨A1, c1, rfl, o2, b2⟩
  have HB2 := Lib.hid (b1.trans (b2.mono b1.size))
  obtain ⟨g, rfl⟩ := own_some4 o2 (by simp)
  have hg1 : w.heap.size ≤ g := Nat.le_trans b1.size o2.ge
  have hg2 : g < w2.heap.size := o2.lt
  have HO2 := Lib.hid o2
  clear hc01 b1 b2 o2 hc0
  go_wp2_with fail
  refine (HBF.out w2 HB2.out).mono ?_
  rintro e w3 ⟨v3, rfl, hp3, b3⟩
  have HO3 := Lib.hid (HO2.out.below b3)
  have HB3 := Lib.hid (HB2.out.trans (b3.mono HB2.out.size))
  have hs23 := b3.size
  have HP3 := Lib.hid hp3
  clear hp3 b3 HO2 HB2
  go_wp2_with fail
  refine (listed2_any w2.heap.size w3 ts v3 w3 HP3.out (Below.refl _ _) (by rw [HTL.out]; omega)).mono ?_
  rintro e w4 ⟨v4, vs, rfl, hr4, hpv, b4⟩
  obtain ⟨A4, c4, rfl⟩ := row_shape hr4
  rw [HTL.out] at hr4 hpv
  rw [HTL.out]
  have hq : ∃ q, A4 = some ⟨q, 0, none⟩ ∧ w3.heap.size ≤ q := by
    rcases hr4.2 with ⟨hv, h0⟩ | ⟨g', cap, cur, hv, hg', _⟩
    · omega
    · injection hv with h1 h2 h3
      exact ⟨g', h1, hg'⟩
  obtain ⟨q, rfl, hq3⟩ := hq
  have HR4 := Lib.hid hr4
  have HPV := Lib.hid hpv
  have HO4 : Hid (Own w4 w1.heap.size (some ⟨g, 0, none⟩) c1 (unF m p js 0)) := Lib.hid (by rw [unF_zero HPM.out]; exact HO3.out.below b4)
  have HB4 := Lib.hid (HB3.out.trans (b4.mono HB3.out.size))
  have HK4 : Hid (KeepN w3.heap.size g w3 w4) := Lib.hid ⟨b4.size, fun k hk _ => b4.block k hk⟩
  clear hr4 hpv b4
  go_wp2_with fail
  go_loopw [32] (fun i wr => ∃ k : Nat, k ≤ rows.length ∧ i = .int .i64 k ∧ Hid (Own wr w1.heap.size (some ⟨g, 0, none⟩) c1 (unF m p js k)) ∧ Hid (wr.ownsRow w3.heap.size 88 1 (.slice (some ⟨q, 0, none⟩) rows.length c4) rows.length vs) ∧ Hid (Below w.heap.size w wr) ∧ Hid (KeepN w3.heap.size g w3 wr) ∧ Hid (fitK m rows (P1 p) js k)) (fun i _ => rows.length - (intOf i).toNat)
  case atStart => exact ⟨0, Nat.zero_le _, rfl, HO4, HR4, HB4, HK4, Lib.hid (fun i hi => absurd hi (by omega))⟩
  case round =>
    obtain ⟨k, hk, rfl, HO, HL, HB, HK, HF⟩ := hrel
    by_cases hlt : k < rows.length
    · obtain ⟨b5, o5, r, A5, c5, hA5, hr5, hc5, hcap5, hrd5⟩ := (HR.out.below HB.out).at_ hlt
      cases hA5
      have hrm := List.mem_of_getElem? hr5.out
      have hrl := (HRK.out r hrm).1
      have hrg : rows.getD k [] = r := by rw [List.getD_eq_getElem?_getD, hr5.out]; rfl
      have ht : ts[k]? = some (ts[k]'(by rw [HTL.out]; exact hlt)) := List.getElem?_eq_getElem _
      generalize ts[k]'(by rw [HTL.out]; exact hlt) = t at ht
      obtain ⟨t1, t2⟩ := t
      obtain ⟨b, hb0, hNb, hb1, _⟩ := HPV.out.2 k _ hlt ht
      have hjs : js[k]? = some (js[k]'(by rw [HJL.out]; exact hlt)) := List.getElem?_eq_getElem _
      generalize js[k]'(by rw [HJL.out]; exact hlt) = j at hjs
      obtain rfl : t1 = (j : Int) := by
        have h1 := (HTA.out k _ ht).1
        simp only [nl, List.getElem?_map, hjs, Option.map_some] at h1
        exact (Option.some.inj h1).symm
      obtain ⟨hjm, _⟩ := HMT9.out k j hjs
      have hjg : js.getD k 0 = j := by rw [List.getD_eq_getElem?_getD, hjs]; rfl
      have hce := World.ownsRow.cellAt HL.out k (by omega)
      rw [hb0] at hce
      have hcb := HK.out.cell (World.block_lt_of_cell? w3 _ hb1) (show b ≠ g by omega) hb1
      have HLF : Hid (Calls Try.prog 109 #[.slice A5 m c5, .slice B m d] wr fun e w' => ∃ A1 c1, e = .returned (.slice A1 (m + 1) c1) ∧ Own w' wr.heap.size A1 c1 (lfL r p) ∧ Below wr.heap.size wr w') := Lib.hid (by
        have := leftBy_any A5 B c5 d m r p wr hrd5.out (HPP.out.below HB.out) hrl HPM.out hm1 hm4 (by have := hcap5.out; omega) (fun j => ⟨(HRK.out r hrm).2 j, H12.out r hrm j⟩) (fun j => ⟨(HPB.out j).1, by have := (HPB.out j).2; omega⟩)
        unfold NewL at this
        rwa [show (lfL r p).length = m + 1 by rw [lfL, lfK_len, hrl]] at this)
      have HMX := Lib.hid (fun (A1 : Option Addr) (c1 : Nat) (w1 : World) (h : Rd w1 A1 c1 (lfL r p)) => MaxOf_any A1 c1 (m + 1) (lfL r p) w1 (by rw [lfL, lfK_len, hrl]) h (by omega) (by omega))
      have HTOP := Lib.hid (fun v (h : v ∈ lfL r p ∧ ∀ y ∈ lfL r p, y ≤ v) => lfL_top hrl HPM.out h.1 h.2)
      have hat := lfL_at (r := r) (p := p) hrl HPM.out hjm
      have HSPT : Hid (v = true → r.getD j 0 - P1 p j = bo m r 0 (P1 p)) := Lib.hid (fun hv => by
        have h1 := spt_at rows js k (HJL.out) (HGV.out.1 hv).1 hlt
        rwa [hrg, hjg] at h1)
      have HFS : Hid (r.getD j 0 - P1 p j = bo m r 0 (P1 p) → fitK m rows (P1 p) js (k + 1)) := Lib.hid (fun h1 => fit_step HF.out (by rw [hrg, hjg]; exact h1))
      obtain ⟨x, hx⟩ : ∃ x, x = r.getD j 0 - P1 p j := ⟨_, rfl⟩
      rw [← hx] at hat HSPT HFS
      have HX := Lib.hid hat
      have HJS := Lib.hid hjs
      rw [hrl] at hc5
      clear hat hjs hjg ht hb0 hb1 hrg hrm hr5 hrd5 hcap5
      go_wp2_with fail
      refine HLF.out.mono ?_
      rintro e w5 ⟨A6, c6, rfl, o6, b6⟩
      obtain ⟨g6, rfl⟩ := own_some4 o6 (by rw [lfL, lfK_len, hrl]; omega)
      have HO5 := Lib.hid (HO.out.below b6)
      have HB5 := Lib.hid (HB.out.trans (b6.mono HB.out.size))
      have HK5 := Lib.hid (HK.out.below b6)
      have HL5 : Hid (w5.ownsRow w3.heap.size 88 1 (.slice (some ⟨q, 0, none⟩) rows.length c4) rows.length vs) := Lib.hid (own_len HL.out b6)
      have hcb5 := (b6.cell (p := ⟨b, 0, none⟩) (World.block_lt_of_cell? wr _ hcb)).trans hcb
      have hcx := o6.cell HX.out
      obtain ⟨M, hM⟩ : ∃ M, M = bo m r 0 (P1 p) := ⟨_, rfl⟩
      have HMQ := Lib.hid (fun (n : Nat) => ((HMX.out (some ⟨g6, 0, none⟩) c6 (w5.drewN n) (o6.drewN n).rd).mono (R' := fun e w' => e = .returned (.int .i64 M) ∧ ∃ k, w' = w5.drewN k) (fun e w' h => (by
        obtain ⟨v, rfl, h1, rfl⟩ := h
        exact ⟨by rw [HTOP.out v h1, hM], n, rfl⟩))))
      have hxM : x ≤ M := by
        rw [hx, hM]
        rcases Nat.lt_or_ge j m with h1 | h1
        · exact bo_ge r (P1 p) h1 (tk_zero m j)
        · have h0 := bo_nonneg m r 0 (P1 p)
          have z1 : r.getD j 0 = 0 := by rw [List.getD_eq_getElem?_getD, List.getElem?_eq_none (by omega)]; rfl
          have z2 : P1 p j = 0 := by have := HPM.out; unfold P1; rw [List.getD_eq_getElem?_getD, List.getElem?_eq_none (by omega)]; rfl
          omega
      rw [← hM] at HSPT HFS
      have hjm1 : j < m + 1 := by omega
      clear HLF HMX HTOP hM hx hrl hcb hce hc5 o6 b6 HO HB HK HL
      by_cases he : x = M
      · have hd : decide (x < M) = false := decide_eq_false (by omega)
        have HF' := Lib.hid (HFS.out he)
        have HO' : ∀ n, Hid (Own ((w5.drewN n).setCell ⟨g, j, none⟩ (.int .i64 0)) w1.heap.size (some ⟨g, 0, none⟩) c1 (unF m p js (k + 1))) := fun n => Lib.hid (by have := (HO5.out.drewN n).set_ j 0; rwa [unF_set HJS.out] at this)
        have hfr := HO5.out.free j
        have hcg := HO5.out.cell (unF_at (m := m) (p := p) (js := js) (k := k) hjm1)
        go_wp2_with fail
        go_quiet ((go_at_call 97; exact HMQ.out _))
        go_wp2
        go_roundw
        case rel => exact ⟨k + 1, hlt, by go_num, HO' _, Lib.hid (row_set (w := w5.drewN _) HL5.out _ (by intro e; injection e with e; simp only at e; omega)), Lib.hid ((below_drewN' HB5.out _).setCell (p := ⟨g, j, none⟩) hg1 (.int .i64 0)), Lib.hid ((HK5.out.drewN _).setCell j (.int .i64 0)), HF'⟩
        case measure => simp [intOf]; omega
      · have hd : decide (x < M) = true := decide_eq_true (by omega)
        have hvf : v = false := by
          cases v with
          | false => rfl
          | true => exact absurd (HSPT.out rfl) he
        clear he HSPT HFS
        go_wp2_with fail
        go_quiet ((go_at_call 97; exact HMQ.out _))
        go_wp2
        go_ret
        exact ⟨by rw [hvf]; rfl, below_drewN' HB5.out _⟩
    · obtain rfl : k = rows.length := by omega
      have HMX := Lib.hid (MaxOf_any (some ⟨g, 0, none⟩) c1 (m + 1) (unF m p js rows.length) wr (unF_len _ _ _ _) HO.out.rd (by omega) (by omega))
      have HEND : Hid (∀ x, (x ∈ unF m p js rows.length ∧ ∀ y ∈ unF m p js rows.length, y ≤ x) → v = (x == 0)) := Lib.hid (fun x hx => by
        have h1 := unF_max hm4 HMT.out HPM.out (fun j => (HPB.out j).1) (v := x) (by rw [HJL.out]; exact hx.1) (by rw [HJL.out]; exact hx.2)
        rw [Bool.eq_iff_iff, HGV.out, beq_iff_eq, h1]
        exact ⟨fun h => h.2, fun h => ⟨fit_spt rows js HJL.out HF.out, h⟩⟩)
      go_wp2_with fail
      refine HMX.out.mono ?_
      rintro e w5 ⟨x, rfl, hx, rfl⟩
      have hve := HEND.out x hx
      clear hx
      go_wp2
      go_ret
      exact ⟨by rw [hve]; rfl, HB.out⟩

end Go.Proofs.Ytpildecpabeanaa
