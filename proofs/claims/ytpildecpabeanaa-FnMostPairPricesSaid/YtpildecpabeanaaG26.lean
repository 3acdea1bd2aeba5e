/-
  Chapter 8: whether numbers are prices of a market, of the model.
-/
import Derived.Test.YtpildecpabeanaaG25
import Derived.Test.YtpildecpabeanaaOg
import Derived.Test.YtpildecpabeanaaOc
import Derived.Test.YtpildecpabeanaaG23
namespace Go.Proofs.Ytpildecpabeanaa
open Go.RowKit

/-- Whether numbers are prices of a market. -/
noncomputable def vgB (rows : List (List Int)) (p : List Int) : Bool := p.all (fun x => inR x 0 40) && (vrB rows && decide (p.length = (RW rows 0).length))
theorem vg_bad {rows : List (List Int)} {p : List Int} (h : p.all (fun x => inR x 0 40) = false) : vgB rows p = false := by simp only [vgB, h, Bool.false_and]
theorem vg_all {rows : List (List Int)} {p : List Int} (h : (p.take p.length).all (fun x => inR x 0 40) = true) : vgB rows p = (vrB rows && decide (p.length = (RW rows 0).length)) := by
  rw [List.take_length] at h; simp only [vgB, h, Bool.true_and]

set_option maxHeartbeats 800000 in
theorem validGoods_any (A B : Option Addr) (c d : Nat) (rows : List (List Int)) (p : List Int) (w : World) (h : RdR w A c rows) (hP : Rd w B d p) (hl : rows.length ≤ 1099511627776) (hl2 : ∀ r ∈ rows, r.length ≤ 1099511627776) (hpl : p.length ≤ 1099511627776) :
    Calls Try.prog 110 #[.slice A rows.length c, .slice B p.length d] w fun e w' => e = .returned (.bool (vgB rows p)) ∧ ∃ n, w' = w.drewN n := by
  have HV : Hid (∀ n, Calls Try.prog 105 #[.slice A rows.length c] (w.drewN n) fun e w' => e = .returned (.bool (vrB rows)) ∧ ∃ m, w' = (w.drewN n).drewN m) := Lib.hid (fun n => validRows_any A c rows _ (h.below (below_drewN' (Below.refl w.heap.size w) n)) hl hl2)
  have HR := Lib.hid h
  have HP := Lib.hid hP
  clear h hP
  go_enter Try.func110, Try.ntmps110
  go_wp2
  go_loopw [5] (fun i wr => ∃ j m : Nat, j ≤ p.length ∧ i = .int .i64 j ∧ wr = w.drewN m ∧ Hid ((p.take j).all (fun x => inR x 0 40) = true)) (fun i _ => p.length - (intOf i).toNat)
  case atStart => exact ⟨0, 0, Nat.zero_le _, rfl, rfl, Lib.hid rfl⟩
  case round =>
    obtain ⟨j, m, hj, rfl, rfl, HJ⟩ := hrel
    by_cases hjl : j < p.length
    · obtain ⟨b2, o2, x, rfl, _, hx, hcx⟩ := HP.out.at_ hjl
      cases hb : inR x 0 40 with
      | true =>
        have HB : Hid (∀ w1, Calls Try.prog 69 #[.int .i64 x, .int .i64 0, .int .i64 40] w1 fun e w' => e = .returned (.bool true) ∧ w1 = w') := Lib.hid (fun w1 => by have := inRange_any x 0 40 w1; rwa [hb] at this)
        have HT' := Lib.hid (all_step hx.out hb HJ.out)
        clear hb
        go_wp2_with (go_at_call 69; refine (HB.out _).mono ?_; rintro e w1 ⟨rfl, rfl⟩)
        go_roundw
        case rel => exact ⟨j + 1, _, by omega, by go_num, rfl, HT'⟩
        case measure => simp [intOf]; omega
      | false =>
        have HB : Hid (∀ w1, Calls Try.prog 69 #[.int .i64 x, .int .i64 0, .int .i64 40] w1 fun e w' => e = .returned (.bool false) ∧ w1 = w') := Lib.hid (fun w1 => by have := inRange_any x 0 40 w1; rwa [hb] at this)
        have HE := Lib.hid (vg_bad (rows := rows) (all_at (p := fun x => inR x 0 40) hx.out hb))
        clear hb
        go_wp2_with (go_at_call 69; refine (HB.out _).mono ?_; rintro e w1 ⟨rfl, rfl⟩)
        go_ret
        exact ⟨by rw [HE.out]; rfl, _, rfl⟩
    · obtain rfl : j = p.length := by omega
      have HE := Lib.hid (vg_all (rows := rows) HJ.out)
      have HVm := HV.out m
      clear HV
      by_cases hv : VR rows
      · obtain ⟨b, off, A', c', rfl, hc⟩ := row_head HR.out hv
        rw [vr_true hv] at HVm HE
        have h1 := hv.1.1
        have HVH := Lib.hid HVm
        clear hv HVm
        by_cases he : p.length = (RW rows 0).length
        · have HE2 : Hid (vgB rows p = true) := Lib.hid (by rw [HE.out]; simp [he])
          have he' : (p.length : Int) = ((RW rows 0).length : Int) := by omega
          clear HE he
          go_wp2_with (go_at_call 105; refine HVH.out.mono ?_; rintro e w1 ⟨rfl, n, rfl⟩)
          go_ret
          exact ⟨by rw [HE2.out]; first | rfl | (simp [he']; done) | (fail "HERE"), _, rfl⟩
        · have HE2 : Hid (vgB rows p = false) := Lib.hid (by rw [HE.out]; simp [he])
          have he' : ¬ (p.length : Int) = ((RW rows 0).length : Int) := by omega
          clear HE he
          go_wp2_with (go_at_call 105; refine HVH.out.mono ?_; rintro e w1 ⟨rfl, n, rfl⟩)
          go_ret
          exact ⟨by rw [HE2.out]; first | rfl | (simp [he']; done) | (fail "HERE"), _, rfl⟩
      · rw [vr_false hv] at HVm HE
        have HE2 : Hid (vgB rows p = false) := Lib.hid (by rw [HE.out]; rfl)
        have HVH := Lib.hid HVm
        clear hv HVm HE
        go_wp2_with (go_at_call 105; refine HVH.out.mono ?_; rintro e w1 ⟨rfl, n, rfl⟩)
        go_ret
        exact ⟨by rw [HE2.out]; rfl, _, rfl⟩

end Go.Proofs.Ytpildecpabeanaa

/-
  Chapter 8, the model: what is left of the best thing, what is wanted, and how many bits there are.
-/
namespace Go.Proofs.Ytpildecpabeanaa
open Go.RowKit

theorem boTo_step {m : Nat} {r : List Int} {p : Nat → Int} {k : Nat} : boTo m r 0 p (k + 1) = max (boTo m r 0 p k) (r.getD k 0 - p k) := by
  rw [boTo, if_neg (by simp [tk_zero])]
theorem boTo_bd {m : Nat} {r : List Int} {p : Nat → Int} (hr : ∀ j, 0 ≤ r.getD j 0 ∧ r.getD j 0 ≤ 12) (hp : ∀ j, 0 ≤ p j) (k : Nat) : 0 ≤ boTo m r 0 p k ∧ boTo m r 0 p k ≤ 12 := by
  induction k with
  | zero => simp [boTo]
  | succ k ih => rw [boTo_step]; have := hr k; have := hp k; omega

set_option maxHeartbeats 400000 in
theorem bestOf_any (A B : Option Addr) (c d m : Nat) (r p : List Int) (w : World) (hR : Rd w A c r) (hP : Rd w B d p) (hm : r.length = m) (hp : p.length = m) (h4 : m ≤ 4) (hrb : ∀ j, 0 ≤ r.getD j 0 ∧ r.getD j 0 ≤ 12) (hpb : ∀ j, 0 ≤ p.getD j 0 ∧ p.getD j 0 ≤ 100) :
    Calls Try.prog 154 #[.slice A m c, .slice B m d] w fun e w' => e = .returned (.int .i64 (bo m r 0 (P1 p))) ∧ ∃ n, w' = w.drewN n := by
  have HRB := Lib.hid hrb
  have HPB := Lib.hid hpb
  have HBD := Lib.hid (fun k => boTo_bd (m := m) (p := P1 p) hrb (fun j => (hpb j).1) k)
  have HR := Lib.hid hR
  have HP := Lib.hid hP
  have HRM := Lib.hid hm
  have HPM := Lib.hid hp
  clear hR hP hrb hpb hm hp
  go_enter Try.func154, Try.ntmps154
  go_wp2
  go_loopw [5, 6] (fun o i wr => ∃ (k n : Nat) (z : Int), k ≤ m ∧ i = .int .i64 k ∧ wr = w.drewN n ∧ o = .int .i64 z ∧ Hid (z = boTo m r 0 (P1 p) k)) (fun _ i _ => m - (intOf i).toNat)
  case atStart => exact ⟨0, 0, 0, Nat.zero_le _, rfl, rfl, rfl, Lib.hid rfl⟩
  case round =>
    obtain ⟨k, n, z, hk, rfl, rfl, rfl, HZ⟩ := hrel
    by_cases hlt : k < m
    · obtain ⟨b1, o1, x, rfl, _, hx, hcx⟩ := HR.out.at_ (k := k) (by rw [HRM.out]; exact hlt)
      obtain ⟨b2, o2, y, rfl, _, hy, hcy⟩ := HP.out.at_ (k := k) (by rw [HPM.out]; exact hlt)
      have hxr : r.getD k 0 = x := by rw [List.getD_eq_getElem?_getD, hx.out]; rfl
      have hyp : p.getD k 0 = y := by rw [List.getD_eq_getElem?_getD, hy.out]; rfl
      have hrb := HRB.out k
      have hpb := HPB.out k
      rw [hxr] at hrb
      rw [hyp] at hpb
      have hz := HBD.out k
      rw [← HZ.out] at hz
      have HZ' : Hid ((if z < x - y then x - y else z) = boTo m r 0 (P1 p) (k + 1)) := Lib.hid (by
        rw [boTo_step, ← HZ.out, hxr, show P1 p k = y from hyp]
        split <;> omega)
      have hw1 : IntKind.i64.wrap (x - y) = x - y := IntWalk.i64_in _ (by omega)
      clear hx hy hxr hyp
      go_wp2_with fail
      go_quiet (fail)
      go_wp2
      go_roundw
      case rel => exact ⟨k + 1, _, _, hlt, by go_num, rfl, rfl, HZ'⟩
      case measure => simp [intOf]; omega
    · obtain rfl : k = m := by omega
      have HE : Hid (z = bo k r 0 (P1 p)) := HZ
      go_wp2
      go_ret
      exact ⟨by rw [← HE.out]; rfl, n, rfl⟩

/-- The set of the first k things at which the most is left. -/
def wnTo (r : List Int) (p : Nat → Int) (b : Int) : Nat → Nat
  | 0 => 0
  | k + 1 => if r.getD k 0 - p k = b then wnTo r p b k + 2 ^ k else wnTo r p b k
theorem wnTo_lt (r : List Int) (p : Nat → Int) (b : Int) (k : Nat) : wnTo r p b k < 2 ^ k := by
  induction k with
  | zero => simp [wnTo]
  | succ k ih => unfold wnTo; rw [Nat.pow_succ]; split <;> omega
theorem bit_more {a k j : Nat} (hk : k < 5) (hj : j < 5) (ha : a < 2 ^ k) : ((a + 2 ^ k) / 2 ^ j % 2 = 1 ↔ (j = k ∨ a / 2 ^ j % 2 = 1)) := by
  have key : ∀ (k j : Fin 5) (a : Fin 16), a.1 < 2 ^ k.1 → ((a.1 + 2 ^ k.1) / 2 ^ j.1 % 2 = 1 ↔ (j.1 = k.1 ∨ a.1 / 2 ^ j.1 % 2 = 1)) := by decide
  have h := Nat.pow_le_pow_right (n := 2) (by omega) (show k ≤ 4 by omega)
  exact key ⟨k, hk⟩ ⟨j, hj⟩ ⟨a, by omega⟩ ha
theorem wnTo_bit {r : List Int} {p : Nat → Int} {b : Int} {j : Nat} (hj : j < 5) (k : Nat) (hk : k ≤ 5) : wnTo r p b k / 2 ^ j % 2 = 1 ↔ (j < k ∧ r.getD j 0 - p j = b) := by
  induction k with
  | zero => simp [wnTo]
  | succ k ih =>
    have i1 := ih (by omega)
    unfold wnTo
    split
    · rename_i h
      rw [bit_more (by omega) hj (wnTo_lt r p b k), i1]
      constructor
      · rintro (rfl | ⟨h1, h2⟩)
        · exact ⟨by omega, h⟩
        · exact ⟨by omega, h2⟩
      · rintro ⟨h1, h2⟩
        rcases Nat.lt_or_ge j k with h3 | h3
        · exact .inr ⟨h3, h2⟩
        · exact .inl (by omega)
    · rename_i h
      rw [i1]
      constructor
      · rintro ⟨h1, h2⟩; exact ⟨by omega, h2⟩
      · rintro ⟨h1, h2⟩
        rcases Nat.lt_or_ge j k with h3 | h3
        · exact ⟨h3, h2⟩
        · have : j = k := by omega
          subst this; exact absurd h2 h

set_option maxHeartbeats 800000 in
theorem wants_any (A B : Option Addr) (c d m : Nat) (r p : List Int) (w : World) (hR : Rd w A c r) (hP : Rd w B d p) (hm : r.length = m) (hp : p.length = m) (h4 : m ≤ 4) (hrb : ∀ j, 0 ≤ r.getD j 0 ∧ r.getD j 0 ≤ 12) (hpb : ∀ j, 0 ≤ p.getD j 0 ∧ p.getD j 0 ≤ 100) :
    Calls Try.prog 165 #[.slice A m c, .slice B m d] w fun e w' => e = .returned (.tuple #[.int .i64 ((wnTo r (P1 p) (bo m r 0 (P1 p)) m : Nat) : Int), .bool (bo m r 0 (P1 p) == 0)]) ∧ ∃ n, w' = w.drewN n := by
  have HBO := Lib.hid (bestOf_any A B c d m r p w hR hP hm hp h4 hrb hpb)
  have HBB := boTo_bd (m := m) (p := P1 p) hrb (fun j => (hpb j).1) m
  have HRB := Lib.hid hrb
  have HPB := Lib.hid hpb
  have HR := Lib.hid hR
  have HP := Lib.hid hP
  have HRM := Lib.hid hm
  have HPM := Lib.hid hp
  obtain ⟨b, hb⟩ : ∃ b, b = bo m r 0 (P1 p) := ⟨_, rfl⟩
  rw [← hb] at HBO ⊢
  have HBV := Lib.hid HBB
  clear hR hP hrb hpb hm hp HBB hb
  go_enter Try.func165, Try.ntmps165
  go_wp2_with fail
  refine HBO.out.mono ?_
  rintro e w1 ⟨rfl, n1, rfl⟩
  clear HBO
  go_wp2_with fail
  go_loopw [7, 8] (fun o i wr => ∃ (k n z : Nat), k ≤ m ∧ i = .int .i64 k ∧ wr = w.drewN n ∧ o = .int .i64 (z : Int) ∧ Hid (z = wnTo r (P1 p) b k)) (fun _ i _ => m - (intOf i).toNat)
  case atStart => exact ⟨0, n1, 0, Nat.zero_le _, rfl, rfl, rfl, Lib.hid rfl⟩
  case round =>
    obtain ⟨k, n, z, hk, rfl, rfl, rfl, HZ⟩ := hrel
    by_cases hlt : k < m
    · obtain ⟨b1, o1, x, rfl, _, hx, hcx⟩ := HR.out.at_ (k := k) (by rw [HRM.out]; exact hlt)
      obtain ⟨b2, o2, y, rfl, _, hy, hcy⟩ := HP.out.at_ (k := k) (by rw [HPM.out]; exact hlt)
      have hxr : r.getD k 0 = x := by rw [List.getD_eq_getElem?_getD, hx.out]; rfl
      have hyp : p.getD k 0 = y := by rw [List.getD_eq_getElem?_getD, hy.out]; rfl
      have hrb := HRB.out k
      have hpb := HPB.out k
      rw [hxr] at hrb
      rw [hyp] at hpb
      have hzl := wnTo_lt r (P1 p) b k
      rw [← HZ.out] at hzl
      have hw1 : IntKind.i64.wrap (x - y) = x - y := IntWalk.i64_in _ (by omega)
      have HPW := Lib.hid (fun w1 => Spow4_any k (by omega) w1)
      have hp16 : 2 ^ k ≤ 2 ^ 4 := Nat.pow_le_pow_right (by omega) (by omega)
      have hstep : wnTo r (P1 p) b (k + 1) = if x - y = b then z + 2 ^ k else z := by
        rw [wnTo, hxr, show P1 p k = y from hyp, ← HZ.out]
      obtain ⟨q, hq⟩ : ∃ q, q = 2 ^ k := ⟨_, rfl⟩
      rw [← hq] at HPW hp16 hstep hzl
      by_cases he : x - y = b
      · rw [if_pos he] at hstep
        have HST := Lib.hid hstep
        have heb : (x - y == b) = true := by simpa using he
        have hzz : IntKind.i64.wrap ((z : Int) + (q : Int)) = ((z + q : Nat) : Int) := by rw [IntWalk.i64_in _ (by omega)]; omega
        clear hstep he hx hy hxr hyp hq
        go_wp2_with fail
        go_quiet (fail)
        go_wp2_with fail
        refine (HPW.out _).mono ?_
        rintro e w4 ⟨rfl, rfl⟩
        go_wp2
        go_roundw
        case rel => exact ⟨k + 1, _, z + q, hlt, by go_num, rfl, by go_num, Lib.hid HST.out.symm⟩
        case measure => simp [intOf]; omega
      · rw [if_neg he] at hstep
        have HST := Lib.hid hstep
        have heb : (x - y == b) = false := by simpa using he
        clear hstep he hx hy hxr hyp hq
        go_wp2_with fail
        go_quiet (fail)
        go_wp2
        go_roundw
        case rel => exact ⟨k + 1, _, z, hlt, by go_num, rfl, rfl, Lib.hid HST.out.symm⟩
        case measure => simp [intOf]; omega
    · obtain rfl : k = m := by omega
      go_wp2
      go_ret2
      exact ⟨by rw [← HZ.out]; rfl, n, rfl⟩
end Go.Proofs.Ytpildecpabeanaa

/-
  Chapter 8: whether prices go with pairs, of the model.
-/
namespace Go.Proofs.Ytpildecpabeanaa
open Go.RowKit

theorem end_snoc (m : Nat) (a : List Nat) (j : Nat) : ∀ u, endU m u (a ++ [j]) = nxU m (endU m u a) j := by
  induction a with
  | nil => intro u; rfl
  | cons x xs ih => intro u; exact ih _
theorem mt_at {m : Nat} (hm : m ≤ 4) {rows : List (List Int)} : ∀ (u : Nat) (js : List Nat), u < 16 → Mt m rows u js → ∀ k j, js[k]? = some j → j ≤ m ∧ isTk m (endU m u (js.take k)) j = false ∧ endU m u (js.take k) < 16 := by
  induction rows with
  | nil => intro u js _ h k j hj; rw [Mt] at h; simp [h] at hj
  | cons r rs ih =>
    intro u js hu h k j hj
    obtain ⟨j0, js', rfl, h0, hf, h'⟩ := h
    cases k with
    | zero => simp at hj; subst hj; exact ⟨h0, hf, hu⟩
    | succ k => exact ih _ js' (nx_tk hm hu h0 hf).1 h' k j (by simpa using hj)
theorem or_tk {m u j : Nat} (hm : m ≤ 4) (hu : u < 16) (hj : j < m) (hf : isTk m u j = false) : bits .or .i64 (u : Int) ((2 ^ j : Nat) : Int) = ((u + 2 ^ j : Nat) : Int) := by
  have key : ∀ (j : Fin 4) (u : Fin 16), ¬ u.1 / 2 ^ j.1 % 2 = 1 → bits .or .i64 (u.1 : Int) ((2 ^ j.1 : Nat) : Int) = ((u.1 + 2 ^ j.1 : Nat) : Int) := by decide
  refine key ⟨j, by omega⟩ ⟨u, hu⟩ ?_
  simpa [isTk, hj] using hf
/-- The first k bidders have what is best. -/
def fitK (m : Nat) (rows : List (List Int)) (p : Nat → Int) (js : List Nat) (k : Nat) : Prop := ∀ i, i < k → (rows.getD i []).getD (js.getD i 0) 0 - p (js.getD i 0) = bo m (rows.getD i []) 0 p
theorem fit_spt {m : Nat} {p : Nat → Int} : ∀ (rows : List (List Int)) (js : List Nat), js.length = rows.length → fitK m rows p js rows.length → sptW m rows p js := by
  intro rows
  induction rows with
  | nil => intro js _ _; cases js <;> trivial
  | cons r rs ih =>
    intro js hl h
    cases js with
    | nil => simp at hl
    | cons j js => exact ⟨h 0 (by simp), ih js (by simpa using hl) (fun i hi => h (i + 1) (by simpa using hi))⟩
theorem fit_step {m : Nat} {rows : List (List Int)} {p : Nat → Int} {js : List Nat} {k : Nat} (h : fitK m rows p js k) (h1 : (rows.getD k []).getD (js.getD k 0) 0 - p (js.getD k 0) = bo m (rows.getD k []) 0 p) : fitK m rows p js (k + 1) := by
  intro i hi
  rcases Nat.lt_or_ge i k with h2 | h2
  · exact h i h2
  · obtain rfl : i = k := by omega
    exact h1
theorem Rd.bl {w w' : World} {A : Option Addr} {c : Nat} {xs : List Int} (h : Rd w A c xs) (hb : Below w.heap.size w w') : Rd w' A c xs := h.below hb

set_option maxRecDepth 100000 in
set_option maxHeartbeats 2000000 in
theorem supports_any (A B C : Option Addr) (c d e m : Nat) (rows : List (List Int)) (p : List Int) (js : List Nat) (w : World) (v : Bool) (h : RdR w A c rows) (hP : Rd w B d p) (hL : Rd w C e (nl js)) (hk : Rk m rows) (h12 : R12 rows) (h4 : m ≤ 4) (hn : rows.length ≤ 4) (hp : p.length = m) (hpb : ∀ j, 0 ≤ p.getD j 0 ∧ p.getD j 0 ≤ 40) (hM : Mt m rows 0 js) (hv : v = true ↔ goW m rows (P1 p) js) :
    Calls Try.prog 112 #[.slice A rows.length c, .slice B m d, .slice C rows.length e] w fun e w' => e = .returned (.bool v) ∧ ∃ n, w' = w.drewN n := by
  have hjl := mt_len 0 js hM
  have hjn : (nl js).length = rows.length := by rw [nl_len, hjl]
  have HEU := Lib.hid (end_tk h4 0 js (by omega) hM).1
  have HMT := Lib.hid (mt_at h4 0 js (by omega) hM)
  have HPN : Hid (∀ j, m ≤ j → P1 p j = 0) := Lib.hid (fun j hj => by unfold P1; rw [List.getD_eq_getElem?_getD, List.getElem?_eq_none (by omega)]; rfl)
  have HV := Lib.hid hv
  have HPB := Lib.hid hpb
  have HR := Lib.hid h
  have HP := Lib.hid hP
  have HL := Lib.hid hL
  have HRK := Lib.hid hk
  have H12 := Lib.hid h12
  have HPM := Lib.hid hp
  have HJN := Lib.hid hjn
  have HJL := Lib.hid hjl
  clear h hP hL hk h12 hp hpb hM hv hjl hjn
  go_enter Try.func112, Try.ntmps112
  go_wp2
  go_loopw [7, 8] (fun o i wr => ∃ (k n s : Nat), k ≤ rows.length ∧ i = .int .i64 k ∧ wr = w.drewN n ∧ o = .int .i64 (s : Int) ∧ Hid (s = endU m 0 (js.take k)) ∧ Hid (fitK m rows (P1 p) js k)) (fun _ i _ => rows.length - (intOf i).toNat)
  case atStart => exact ⟨0, 0, 0, Nat.zero_le _, rfl, rfl, rfl, Lib.hid rfl, Lib.hid (fun i hi => absurd hi (by omega))⟩
  case round =>
    obtain ⟨k, n, s, hkl, rfl, rfl, rfl, HS, HF⟩ := hrel
    by_cases hlt : k < rows.length
    · obtain ⟨b, off, r, A', c', rfl, hr, hc, hcap, hrd⟩ := HR.out.at_ hlt
      obtain ⟨b2, o2, z, rfl, _, hz, hcz⟩ := HL.out.at_ (k := k) (by rw [HJN.out]; exact hlt)
      have hkj : k < js.length := by rw [HJL.out]; exact hlt
      obtain ⟨j, hj⟩ : ∃ j, j = js[k] := ⟨_, rfl⟩
      have hjk : js[k]? = some j := by rw [hj]; exact List.getElem?_eq_getElem hkj
      have hzj : z = (j : Int) := by
        have := hz.out
        rw [nl, List.getElem?_map, hjk] at this
        simpa using this.symm
      subst hzj
      obtain ⟨hjm, hjf, hs16⟩ := HMT.out k j hjk
      rw [← HS.out] at hjf hs16
      have hrm := List.mem_of_getElem? hr.out
      have hrl := (HRK.out r hrm).1
      have hrb : ∀ j, 0 ≤ r.getD j 0 ∧ r.getD j 0 ≤ 12 := fun j => ⟨(HRK.out r hrm).2 j, H12.out r hrm j⟩
      have hrg : rows.getD k [] = r := by rw [List.getD_eq_getElem?_getD, hr.out]; rfl
      have hjg : js.getD k 0 = j := by rw [List.getD_eq_getElem?_getD, hjk]; rfl
      have hst : endU m 0 (js.take (k + 1)) = nxU m s j := by
        rw [List.take_add_one, hjk, Option.toList_some, end_snoc, ← HS.out]
      have HBO : Hid (∀ n, Calls Try.prog 154 #[.slice A' m c', .slice B m d] (w.drewN n) fun e w' => e = .returned (.int .i64 (bo m r 0 (P1 p))) ∧ ∃ n', w' = (w.drewN n).drewN n') := Lib.hid (fun n => bestOf_any A' B c' d m r p _ (hrd.out.below (below_drewN' (Below.refl w.heap.size w) n)) (HP.out.below (below_drewN' (Below.refl w.heap.size w) n)) hrl HPM.out h4 hrb (fun j => by have := HPB.out j; omega))
      have hbd := boTo_bd (m := m) (p := P1 p) hrb (fun j => (HPB.out j).1) m
      obtain ⟨t, ht⟩ : ∃ t, t = bo m r 0 (P1 p) := ⟨_, rfl⟩
      have hFS : r.getD j 0 - P1 p j = t → fitK m rows (P1 p) js (k + 1) := fun he => fit_step HF.out (by rw [hrg, hjg, ← ht]; exact he)
      have hFN : ¬ r.getD j 0 - P1 p j = t → v = false := fun he => by
        cases hvv : v with
        | false => rfl
        | true =>
          refine absurd (spt_at rows js k HJL.out (HV.out.1 hvv).1 hlt) ?_
          rw [hrg, hjg, ← ht]; exact he
      rw [← ht] at HBO
      rw [hrl] at hc
      by_cases hjlt : j < m
      · obtain ⟨b3, o3, x, rfl, _, hx, hcx⟩ := hrd.out.at_ (k := j) (by rw [hrl]; exact hjlt)
        obtain ⟨b4, o4, y, rfl, _, hy, hcy⟩ := HP.out.at_ (k := j) (by rw [HPM.out]; exact hjlt)
        have hxr : r.getD j 0 = x := by rw [List.getD_eq_getElem?_getD, hx.out]; rfl
        have hyp : P1 p j = y := by unfold P1; rw [List.getD_eq_getElem?_getD, hy.out]; rfl
        have hx2 := hrb j
        have hy2 := HPB.out j
        rw [hxr] at hx2
        rw [show p.getD j 0 = y from hyp] at hy2
        rw [hxr, hyp] at hFS hFN
        have hw1 : IntKind.i64.wrap (x - y) = x - y := IntWalk.i64_in _ (by omega)
        have hor := or_tk h4 hs16 hjlt hjf
        have HPW := Lib.hid (fun w1 => Spow4_any j (by omega) w1)
        have hst2 : endU m 0 (js.take (k + 1)) = s + 2 ^ j := by rw [hst, nxU, if_pos hjlt]
        obtain ⟨q, hq⟩ : ∃ q, q = 2 ^ j := ⟨_, rfl⟩
        rw [← hq] at HPW hor hst2
        have HST := Lib.hid hst2
        clear hst hst2 hz hx hy hr hxr hyp hq hj hjk hjf hrb hrg hjg hrl hrm hbd ht hrd hkj
        by_cases he : x - y = t
        · have HFK := Lib.hid (hFS he)
          have heb : (x - y == t) = true := by simpa using he
          clear hFS hFN
          go_wp2_with fail
          go_quiet (fail)
          go_wp2_with (first | (go_at_call 113; refine (HPW.out _).mono ?_; rintro e w4 ⟨rfl, rfl⟩) | (go_at_call 154; refine (HBO.out _).mono ?_; rintro e w4 ⟨rfl, n4, rfl⟩))
          go_roundw
          case rel => exact ⟨k + 1, _, s + q, hlt, by go_num, rfl, by go_num, Lib.hid HST.out.symm, HFK⟩
          case measure => simp [intOf]; omega
        · have HNV := Lib.hid (hFN he)
          have heb : (x - y == t) = false := by simpa using he
          clear hFS hFN
          go_wp2_with fail
          go_quiet (fail)
          go_wp2_with (first | (go_at_call 113; refine (HPW.out _).mono ?_; rintro e w4 ⟨rfl, rfl⟩) | (go_at_call 154; refine (HBO.out _).mono ?_; rintro e w4 ⟨rfl, n4, rfl⟩))
          go_ret
          exact ⟨by rw [HNV.out]; rfl, _, rfl⟩
      · obtain rfl : j = m := by omega
        have hx0 : r.getD j 0 = 0 := by rw [List.getD_eq_getElem?_getD, List.getElem?_eq_none (by omega)]; rfl
        have hy0 := HPN.out j (Nat.le_refl _)
        rw [hx0, hy0] at hFS hFN
        have HST : Hid (s = endU j 0 (js.take (k + 1))) := Lib.hid (by rw [hst, nxU, if_neg (by omega)])
        clear hst hz hr hj hjk hjf hrb hrg hjg hrl hrm hbd ht hrd hkj hx0 hy0
        by_cases he : (0 : Int) = t
        · have HFK := Lib.hid (hFS (by omega))
          have heb : ((0 : Int) == t) = true := by simpa using he
          clear hFS hFN
          go_wp2_with (go_at_call 154; refine (HBO.out _).mono ?_; rintro e w4 ⟨rfl, n4, rfl⟩)
          go_roundw
          case rel => exact ⟨k + 1, _, s, hlt, by go_num, rfl, rfl, HST, HFK⟩
          case measure => simp [intOf]; omega
        · have HNV := Lib.hid (hFN (by omega))
          have heb : ((0 : Int) == t) = false := by simpa using he
          clear hFS hFN
          go_wp2_with (go_at_call 154; refine (HBO.out _).mono ?_; rintro e w4 ⟨rfl, n4, rfl⟩)
          go_ret
          exact ⟨by rw [HNV.out]; rfl, _, rfl⟩
    · obtain rfl : k = rows.length := by omega
      have hspt := fit_spt rows js HJL.out HF.out
      have hjt : js.take rows.length = js := List.take_of_length_le (by rw [HJL.out]; exact Nat.le_refl _)
      have hse : s = endU m 0 js := by rw [HS.out, hjt]
      have HG : Hid (v = true ↔ ∀ j, j < m → isTk m s j = false → P1 p j = 0) := Lib.hid (by rw [HV.out, hse]; exact ⟨fun h => h.2, fun h => ⟨hspt, h⟩⟩)
      have hs16 : s < 16 := by rw [hse]; exact HEU.out
      clear hspt hjt hse HS HF HMT
      go_wp2
      go_loopw [10] (fun i wr => ∃ (j n : Nat), j ≤ m ∧ i = .int .i64 j ∧ wr = w.drewN n ∧ Hid (∀ j', j' < j → isTk m s j' = false → P1 p j' = 0)) (fun i _ => m - (intOf i).toNat)
      case atStart => exact ⟨0, n, Nat.zero_le _, rfl, rfl, Lib.hid (fun j' h => absurd h (by omega))⟩
      case round =>
        obtain ⟨j, n2, hjm, rfl, rfl, HJ⟩ := hrel
        by_cases hjlt : j < m
        · obtain ⟨b4, o4, y, rfl, _, hy, hcy⟩ := HP.out.at_ (k := j) (by rw [HPM.out]; exact hjlt)
          have hyp : P1 p j = y := by unfold P1; rw [List.getD_eq_getElem?_getD, hy.out]; rfl
          have hy2 := HPB.out j
          rw [show p.getD j 0 = y from hyp] at hy2
          have HBT := Lib.hid (fun w1 => Sbit4_any s j hs16 (by omega) w1)
          have htk : isTk m s j = decide (s / 2 ^ j % 2 = 1) := by simp [isTk, hjlt]
          obtain ⟨q, hq⟩ : ∃ q, q = s / 2 ^ j % 2 := ⟨_, rfl⟩
          have hq2 : q < 2 := by rw [hq]; exact Nat.mod_lt _ (by omega)
          rw [← hq] at HBT htk
          by_cases hq0 : q = 0
          · by_cases hy0 : y = 0
            · have HJ' : Hid (∀ j', j' < j + 1 → isTk m s j' = false → P1 p j' = 0) := Lib.hid (fun j' h1 h2 => by
                rcases Nat.lt_or_ge j' j with h3 | h3
                · exact HJ.out j' h3 h2
                · obtain rfl : j' = j := by omega
                  rw [hyp, hy0])
              clear hq htk hy hyp
              subst hq0 hy0
              go_wp2_with (go_at_call 139; refine (HBT.out _).mono ?_; rintro e w4 ⟨rfl, rfl⟩)
              go_roundw
              case rel => exact ⟨j + 1, _, hjlt, by go_num, rfl, HJ'⟩
              case measure => simp [intOf]; omega
            · have HNV : Hid (v = false) := Lib.hid (by
                cases hvv : v with
                | false => rfl
                | true => exact absurd (HG.out.1 hvv j hjlt (by rw [htk, hq0]; rfl)) (by rw [hyp]; exact hy0))
              have hyg : 0 < y := by omega
              clear hq htk hy hyp
              subst hq0
              go_wp2_with (go_at_call 139; refine (HBT.out _).mono ?_; rintro e w4 ⟨rfl, rfl⟩)
              go_ret
              exact ⟨by rw [HNV.out]; rfl, _, rfl⟩
          · obtain rfl : q = 1 := by omega
            have HJ' : Hid (∀ j', j' < j + 1 → isTk m s j' = false → P1 p j' = 0) := Lib.hid (fun j' h1 h2 => by
                rcases Nat.lt_or_ge j' j with h3 | h3
                · exact HJ.out j' h3 h2
                · obtain rfl : j' = j := by omega
                  rw [htk] at h2; simp at h2)
            clear hq htk hy hyp
            go_wp2_with (go_at_call 139; refine (HBT.out _).mono ?_; rintro e w4 ⟨rfl, rfl⟩)
            go_roundw
            case rel => exact ⟨j + 1, _, hjlt, by go_num, rfl, HJ'⟩
            case measure => simp [intOf]; omega
        · obtain rfl : j = m := by omega
          have HYV : Hid (v = true) := Lib.hid (HG.out.2 HJ.out)
          go_wp2
          go_ret
          exact ⟨by rw [HYV.out]; rfl, _, rfl⟩

end Go.Proofs.Ytpildecpabeanaa
