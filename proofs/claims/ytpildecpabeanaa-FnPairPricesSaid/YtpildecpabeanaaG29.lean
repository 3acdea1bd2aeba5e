/-
  Chapter 8, the program: what is wanted at prices, and how many want it within a set.
-/
import Derived.Test.YtpildecpabeanaaG27
import Derived.Test.YtpildecpabeanaaG28
import Derived.Test.YtpildecpabeanaaOj
namespace Go.Proofs.Ytpildecpabeanaa
open Go.RowKit

theorem andNot32 {a s : Nat} (ha : a < 32) (hs : s < 16) : (bits .andNot .i64 (a : Int) (s : Int) == 0) = decide (∀ j : Fin 5, a / 2 ^ j.1 % 2 = 1 → s / 2 ^ j.1 % 2 = 1) := by
  have key : ∀ (a : Fin 32) (s : Fin 16), (bits .andNot .i64 ((a.1 : Nat) : Int) ((s.1 : Nat) : Int) == 0) = decide (∀ j : Fin 5, a.1 / 2 ^ j.1 % 2 = 1 → s.1 / 2 ^ j.1 % 2 = 1) := by decide +kernel
  exact key ⟨a, ha⟩ ⟨s, hs⟩
/-- What a bidder wants, none among it as the number of things. -/
def wbS (m : Nat) (r p : List Int) : Nat := wnTo r (P1 p) (bo m r 0 (P1 p)) (m + 1)
theorem wbS_lt {m : Nat} (hm : m ≤ 4) (r p : List Int) : wbS m r p < 32 := by
  have h := wnTo_lt r (P1 p) (bo m r 0 (P1 p)) (m + 1)
  have h2 := Nat.pow_le_pow_right (n := 2) (by omega) (show m + 1 ≤ 5 by omega)
  unfold wbS; omega
theorem inS_many {m : Nat} (hm : m ≤ 4) {r p : List Int} (hr : r.length = m) (hp : p.length = m) {S : Nat} (hS : S < 2 ^ m) : inS m r (P1 p) S = (bits .andNot .i64 ((wbS m r p : Nat) : Int) (S : Int) == 0) := by
  have h16 := Nat.pow_le_pow_right (n := 2) (by omega) hm
  rw [andNot32 (wbS_lt hm r p) (by omega)]
  have hn := bo_nonneg m r 0 (P1 p)
  have z1 : r.getD m 0 = 0 := by rw [List.getD_eq_getElem?_getD, List.getElem?_eq_none (by omega)]; rfl
  have z2 : P1 p m = 0 := by unfold P1; rw [List.getD_eq_getElem?_getD, List.getElem?_eq_none (by omega)]; rfl
  have hSm : S / 2 ^ m % 2 = 0 := by rw [Nat.div_eq_of_lt hS]
  rw [Bool.eq_iff_iff]
  simp only [inS, decide_eq_true_eq, wbS]
  constructor
  · rintro ⟨h0, h1⟩
    refine decide_eq_true (fun j hj => ?_)
    obtain ⟨a, b⟩ := (wnTo_bit j.2 (m + 1) (by omega)).1 hj
    rcases Nat.lt_or_ge j.1 m with h | h
    · exact h1 j.1 h b
    · have : j.1 = m := by omega
      rw [this, z1, z2] at b; omega
  · intro h
    have h := of_decide_eq_true h
    refine ⟨?_, fun j hj he => h ⟨j, by omega⟩ ((wnTo_bit (j := j) (show j < 5 by omega) (m + 1) (by omega)).2 ⟨show j < m + 1 by omega, he⟩)⟩
    refine Classical.byContradiction (fun hb => ?_)
    have := h ⟨m, by omega⟩ ((wnTo_bit (j := m) (show m < 5 by omega) (m + 1) (by omega)).2 ⟨show m < m + 1 by omega, by rw [z1, z2]; omega⟩)
    simp only at this
    omega

theorem nat_add_in {z q : Nat} (h : z + q ≤ 1000) : IntKind.i64.wrap ((z : Int) + (q : Int)) = ((z + q : Nat) : Int) := by rw [IntWalk.i64_in _ (by omega)]; omega
set_option maxHeartbeats 800000 in
theorem wantedBy_any (A B : Option Addr) (c d m : Nat) (r p : List Int) (w : World) (hR : Rd w A c r) (hP : Rd w B d p) (hm : r.length = m) (hp : p.length = m) (h1 : 1 ≤ m) (h4 : m ≤ 4) (hc : m ≤ c) (hrb : ∀ j, 0 ≤ r.getD j 0 ∧ r.getD j 0 ≤ 12) (hpb : ∀ j, 0 ≤ p.getD j 0 ∧ p.getD j 0 ≤ 100) :
    Calls Try.prog 150 #[.slice A m c, .slice B m d] w fun e w' => e = .returned (.int .i64 ((wbS m r p : Nat) : Int)) ∧ Below w.heap.size w w' := by
  have hll : (lfL r p).length = m + 1 := by rw [lfL, lfK_len, hm]
  have hlf : Calls Try.prog 109 #[.slice A m c, .slice B m d] w fun e w' => ∃ A1 c1, e = .returned (.slice A1 (m + 1) c1) ∧ Own w' w.heap.size A1 c1 (lfL r p) ∧ Below w.heap.size w w' := by
    have := leftBy_any A B c d m r p w hR hP hm hp h1 h4 hc hrb hpb
    unfold NewL at this
    rwa [hll] at this
  have HLF := Lib.hid hlf
  have HMX := Lib.hid (fun (A1 : Option Addr) (c1 : Nat) (w1 : World) (h : Rd w1 A1 c1 (lfL r p)) => MaxOf_any A1 c1 (m + 1) (lfL r p) w1 hll h (by omega) (by omega))
  have HTOP := Lib.hid (fun v (h : v ∈ lfL r p ∧ ∀ y ∈ lfL r p, y ≤ v) => lfL_top hm hp h.1 h.2)
  have HAT := Lib.hid (fun j (hj : j ≤ m) => lfL_at (r := r) (p := p) hm hp hj)
  have HLL := Lib.hid hll
  clear hlf hll hR hP hrb hpb hm hp
  go_enter Try.func150, Try.ntmps150
  go_wp2_with fail
  refine HLF.out.mono ?_
  rintro e w1 ⟨A1, c1, rfl, o1, b1⟩
  go_wp2_with fail
  refine (HMX.out A1 c1 w1 o1.rd).mono ?_
  rintro e w2 ⟨v, rfl, hv, rfl⟩
  have HV := Lib.hid (HTOP.out v hv)
  have HO := Lib.hid o1
  have HB := Lib.hid b1
  have HEND : Hid (wbS m r p = wnTo r (P1 p) v (m + 1)) := Lib.hid (by unfold wbS; rw [HV.out])
  clear hv o1 b1 HLF HMX HTOP
  go_wp2_with fail
  go_loopw [7, 17] (fun o i wr => ∃ (k z : Nat), k ≤ m + 1 ∧ i = .int .i64 (k : Int) ∧ wr = w1 ∧ o = .int .i64 (z : Int) ∧ Hid (z = wnTo r (P1 p) v k)) (fun _ i _ => m + 1 - (intOf i).toNat)
  case atStart => exact ⟨0, 0, Nat.zero_le _, rfl, rfl, rfl, Lib.hid rfl⟩
  case round =>
    obtain ⟨k, z, hk, rfl, rfl, rfl, HZ⟩ := hrel
    by_cases hlt : k < m + 1
    · obtain ⟨b1, o1, x, rfl, _, hx, hcx⟩ := HO.out.rd.at_ (k := k) (by rw [HLL.out]; exact hlt)
      have hxe : r.getD k 0 - P1 p k = x := by have h1 := HAT.out k (by omega); rw [hx.out] at h1; exact (Option.some.inj h1).symm
      have hzl := wnTo_lt r (P1 p) v k
      rw [← HZ.out] at hzl
      have hp16 : 2 ^ k ≤ 2 ^ 4 := Nat.pow_le_pow_right (by omega) (by omega)
      have hsh := sh_pow (k := k) (by omega)
      have hstep : wnTo r (P1 p) v (k + 1) = if x = v then z + 2 ^ k else z := by rw [wnTo, hxe, ← HZ.out]
      obtain ⟨q, hq⟩ : ∃ q, q = 2 ^ k := ⟨_, rfl⟩
      rw [← hq] at hsh hp16 hstep hzl
      have HZQ : Hid (z + q ≤ 1000) := Lib.hid (by clear hsh hstep; omega)
      have hkI : (k : Int) < (m : Int) + 1 := by omega
      by_cases he : x = v
      · rw [if_pos he] at hstep
        have HST := Lib.hid hstep
        have heb : (x == v) = true := by simpa using he
        have hzz := nat_add_in HZQ.out
        clear hstep he hx hxe hq
        go_wp2
        go_roundw
        case rel => exact ⟨k + 1, z + q, hlt, by go_num, trivial, by go_num, Lib.hid HST.out.symm⟩
        case measure => simp [intOf]; omega
      · rw [if_neg he] at hstep
        have HST := Lib.hid hstep
        have heb : (x == v) = false := by simpa using he
        clear hstep he hx hxe hq
        go_wp2
        go_roundw
        case rel => exact ⟨k + 1, z, hlt, by go_num, trivial, rfl, Lib.hid HST.out.symm⟩
        case measure => simp [intOf]; omega
    · obtain rfl : k = m + 1 := by omega
      go_wp2
      go_ret
      exact ⟨by rw [HEND.out, ← HZ.out]; rfl, HB.out⟩

/-- How many of the sets lie in a set. -/
def mwF (ws : List Int) (S : Nat) : Nat := match ws with
  | [] => 0
  | x :: xs => (if (bits .andNot .i64 x (S : Int) == 0) = true then 1 else 0) + mwF xs S
theorem mwF_take {ws : List Int} {S k : Nat} {x : Int} (h : ws[k]? = some x) : mwF (ws.take (k + 1)) S = mwF (ws.take k) S + (if (bits .andNot .i64 x (S : Int) == 0) = true then 1 else 0) := by
  have key : ∀ (a : List Int), mwF (a ++ [x]) S = mwF a S + (if (bits .andNot .i64 x (S : Int) == 0) = true then 1 else 0) := by
    intro a
    induction a with
    | nil => simp [mwF]
    | cons y ys ih => simp only [List.cons_append, mwF, ih]; omega
  rw [List.take_add_one, h, ← key]; rfl
theorem mwF_le (ws : List Int) (S : Nat) : mwF ws S ≤ ws.length := by
  induction ws with
  | nil => simp [mwF]
  | cons x xs ih => simp only [mwF, List.length_cons]; split <;> omega
set_option maxHeartbeats 400000 in
theorem manyWithin_any (A : Option Addr) (c n : Nat) (ws : List Int) (S : Nat) (w : World) (h : Rd w A c ws) (hn : ws.length = n) (h4 : n ≤ 4) :
    Calls Try.prog 152 #[.slice A n c, .int .i64 (S : Int)] w fun e w' => e = .returned (.int .i64 ((mwF ws S : Nat) : Int)) ∧ w = w' := by
  have HN := Lib.hid hn
  clear hn
  go_enter Try.func152, Try.ntmps152
  go_wp2
  go_loop [5, 10] (fun o i => ∃ (k z : Nat), k ≤ n ∧ i = .int .i64 (k : Int) ∧ o = .int .i64 (z : Int) ∧ Hid (z = mwF (ws.take k) S)) (fun _ i => n - (intOf i).toNat)
  case atStart => exact ⟨0, 0, Nat.zero_le _, rfl, rfl, Lib.hid (by simp [mwF])⟩
  case round =>
    obtain ⟨k, z, hk, rfl, rfl, HZ⟩ := hrel
    by_cases hlt : k < n
    · obtain ⟨b1, o1, x, rfl, _, hx, hcx⟩ := h.at_ (k := k) (by rw [HN.out]; exact hlt)
      have hz4 : z ≤ 4 := by have h1 := mwF_le (ws.take k) S; rw [← HZ.out] at h1; have h2 : (ws.take k).length ≤ ws.length := by rw [List.length_take]; omega
                             have h3 := HN.out; omega
      have hst := mwF_take (S := S) hx.out
      rw [← HZ.out] at hst
      obtain ⟨g, hg⟩ : ∃ g, g = (bits .andNot .i64 x (S : Int) == 0) := ⟨_, rfl⟩
      rw [← hg] at hst
      have HST := Lib.hid hst
      have hg' := hg.symm
      clear hst hg hx
      cases g with
      | true =>
        have HS2 : Hid (mwF (ws.take (k + 1)) S = z + 1) := Lib.hid (by rw [HST.out]; simp)
        go_wp2
        go_round
        case rel => exact ⟨k + 1, z + 1, hlt, by go_num, by go_num, Lib.hid HS2.out.symm⟩
        case measure => simp [intOf]; omega
      | false =>
        have HS2 : Hid (mwF (ws.take (k + 1)) S = z) := Lib.hid (by rw [HST.out]; simp)
        go_wp2
        go_round
        case rel => exact ⟨k + 1, z, hlt, by go_num, rfl, Lib.hid HS2.out.symm⟩
        case measure => simp [intOf]; omega
    · obtain rfl : k = n := by omega
      have HE : Hid (z = mwF ws S) := Lib.hid (by have := HZ.out; rwa [List.take_of_length_le (by rw [HN.out]; exact Nat.le_refl _)] at this)
      go_wp2
      go_ret
      exact ⟨by rw [← HE.out]; rfl, rfl⟩
end Go.Proofs.Ytpildecpabeanaa

/-
  Chapter 8, the program: how many bits of a small set are 1.
-/
namespace Go.Proofs.Ytpildecpabeanaa
open Go.RowKit

set_option maxRecDepth 100000 in
set_option maxHeartbeats 2000000 in
theorem ones64_any (s : Fin 16) (w : World) :
    Calls Try.prog 164 #[.int .u64 ((s.1 : Nat) : Int)] w fun e w' => e = .returned (.int .i64 ((bts 4 s.1 : Nat) : Int)) ∧ w = w' := by
  have h : s.1 = 0 ∨ s.1 = 1 ∨ s.1 = 2 ∨ s.1 = 3 ∨ s.1 = 4 ∨ s.1 = 5 ∨ s.1 = 6 ∨ s.1 = 7 ∨ s.1 = 8 ∨ s.1 = 9 ∨ s.1 = 10 ∨ s.1 = 11 ∨ s.1 = 12 ∨ s.1 = 13 ∨ s.1 = 14 ∨ s.1 = 15 := by omega
  rcases h with h | h | h | h | h | h | h | h | h | h | h | h | h | h | h | h
  all_goals
    rw [h]
    go_enter Try.func164, Try.ntmps164
    go_wp2
    go_ret
    exact ⟨by kernel_rfl, rfl⟩

set_option maxHeartbeats 400000 in
theorem ones_any (s : Nat) (hs : s < 16) (w : World) :
    Calls Try.prog 151 #[.int .u64 (s : Int)] w fun e w' => e = .returned (.int .i64 ((bts 4 s : Nat) : Int)) ∧ w = w' := by
  have H := Lib.hid (fun w1 => ones64_any ⟨s, hs⟩ w1)
  have hu : IntKind.u64.wrap (s : Int) = (s : Int) := IntWalk.u64_in _ (by omega)
  go_enter Try.func151, Try.ntmps151
  go_wp2_with fail
  refine (H.out _).mono ?_
  rintro e w1 ⟨rfl, rfl⟩
  go_wp2
  go_ret
  exact ⟨rfl, rfl⟩

theorem bts_le_m : ∀ (m S : Nat), bts m S ≤ m := by
  intro m
  induction m with
  | zero => intro S; simp [bts]
  | succ m ih => intro S; have := ih S; rw [show bts (m + 1) S = bts m S + S / 2 ^ m % 2 from rfl]; omega
/-- What the first k bidders want. -/
def wsL (m : Nat) (rows : List (List Int)) (p : List Int) (k : Nat) : List Int := (rows.take k).map (fun r => ((wbS m r p : Nat) : Int))
theorem wsL_len {m : Nat} {rows : List (List Int)} {p : List Int} {k : Nat} (hk : k ≤ rows.length) : (wsL m rows p k).length = k := by simp [wsL]; omega
theorem wsL_more {m : Nat} {rows : List (List Int)} {p : List Int} {k : Nat} {r : List Int} (h : rows[k]? = some r) : wsL m rows p (k + 1) = wsL m rows p k ++ [((wbS m r p : Nat) : Int)] := by
  unfold wsL
  rw [List.take_add_one, h, List.map_append]; rfl
theorem mwF_cnt {m : Nat} (hm : m ≤ 4) {p : List Int} (hp : p.length = m) {S : Nat} (hS : S < 2 ^ m) : ∀ (rows : List (List Int)), (∀ r ∈ rows, r.length = m) → mwF (rows.map (fun r => ((wbS m r p : Nat) : Int))) S = cntS m rows (P1 p) S := by
  intro rows
  induction rows with
  | nil => intro _; simp [mwF, cntS]
  | cons r rs ih =>
    intro h
    simp only [List.map_cons, mwF, cntS]
    rw [ih (fun x hx => h x (by simp [hx])), inS_many hm (h r (by simp)) hp hS]

theorem row_shape2 {w : World} {B : Nat} {ad : Addr} {c : Nat} {zs : List Int} (h : Own w B (some ad) c zs) : ∃ g, ad = ⟨g, 0, none⟩ := by
  rcases h.2 with ⟨hv, _⟩ | ⟨g, cap, cur, hv, _⟩
  · injection hv with h1 _ _; cases h1
  · injection hv with h1 _ _; exact ⟨g, Option.some.inj h1⟩
set_option maxRecDepth 100000 in
set_option maxHeartbeats 2000000 in
theorem scarceSet_any (A B : Option Addr) (c d m : Nat) (rows : List (List Int)) (p : List Int) (w : World) (hR : RdR w A c rows) (hP : Rd w B d p) (hk : Rk m rows) (h12 : R12 rows) (hp : p.length = m) (h1 : 1 ≤ m) (h4 : m ≤ 4) (hn4 : rows.length ≤ 4) (hpb : ∀ j, 0 ≤ p.getD j 0 ∧ p.getD j 0 ≤ 100) :
    Calls Try.prog 104 #[.slice A rows.length c, .slice B m d] w fun e w' => e = .returned (.int .i64 ((tm m rows (P1 p) : Nat) : Int)) ∧ Below w.heap.size w w' := by
  have h16 := Nat.pow_le_pow_right (n := 2) (by omega) h4
  have HWB := Lib.hid (fun (A1 : Option Addr) (c1 : Nat) (r : List Int) (w1 : World) (hr : r ∈ rows) (hb : Below w.heap.size w w1) (h2 : Rd w1 A1 c1 r) (hc : m ≤ c1) => wantedBy_any A1 B c1 d m r p w1 h2 (hP.below hb) (hk r hr).1 hp h1 h4 hc (fun j => ⟨(hk r hr).2 j, h12 r hr j⟩) hpb)
  have HRR := Lib.hid hR
  have HRL := Lib.hid (fun (r : List Int) (hr : r ∈ rows) => (hk r hr).1)
  have HON := Lib.hid (fun s (hs : s < 16) w1 => ones_any s hs w1)
  have HCN : Hid (∀ S, S < 2 ^ m → mwF (wsL m rows p rows.length) S = cntS m rows (P1 p) S) := Lib.hid (fun S hS => by
    unfold wsL; rw [List.take_length]; exact mwF_cnt h4 hp hS rows (fun r hr => (hk r hr).1))
  have hsh := sh_pow (k := m) h4
  obtain ⟨Q, hQ⟩ : ∃ Q, Q = 2 ^ m := ⟨_, rfl⟩
  have HTM : Hid (tm m rows (P1 p) = tmTo m rows (P1 p) Q) := Lib.hid (by rw [hQ]; rfl)
  have HBT := Lib.hid (fun s (hs : s < Q) => bts_four (m := m) h4 (s := s) (by rw [← hQ]; exact hs))
  have HTL : Hid (∀ k, k ≤ Q → tmTo m rows (P1 p) k < Q) := Lib.hid (fun k hk' => by
    rcases tmTo_is m rows (P1 p) k with ⟨e, _⟩ | ⟨h, _⟩
    · rw [e, hQ]; exact Nat.two_pow_pos m
    · omega)
  rw [← hQ] at h16 hsh HCN
  clear hR hP hk h12 hQ hpb
  go_enter Try.func104, Try.ntmps104
  go_wp2_with fail
  go_loopw [5, 14] (fun ws i wr => ∃ (k : Nat) (A1 : Option Addr) (c1 : Nat), k ≤ rows.length ∧ i = .int .i64 (k : Int) ∧ ws = .slice A1 k c1 ∧ Hid (Own wr w.heap.size A1 c1 (wsL m rows p k)) ∧ Hid (Below w.heap.size w wr)) (fun _ i _ => rows.length - (intOf i).toNat)
  case atStart => exact ⟨0, none, 0, Nat.zero_le _, rfl, rfl, Lib.hid (by simpa [wsL] using own_none w w.heap.size), Lib.hid (Below.refl _ _)⟩
  case round =>
    obtain ⟨k, A1, c1, hk, rfl, rfl, HO, HB⟩ := hrel
    by_cases hlt : k < rows.length
    · obtain ⟨b4, o4, r, A4, c4, rfl, hr4, hc4, hcap4, hrd4⟩ := (HRR.out.below HB.out).at_ hlt
      have hrm := List.mem_of_getElem? hr4.out
      have hrl := HRL.out r hrm
      have HW := Lib.hid (HWB.out A4 c4 r wr hrm HB.out hrd4.out (by have := hcap4.out; omega))
      have hmo := wsL_more (m := m) (p := p) hr4.out
      obtain ⟨W, hW⟩ : ∃ W, W = wbS m r p := ⟨_, rfl⟩
      rw [← hW] at HW hmo
      have HMO := Lib.hid hmo
      have HWL := Lib.hid (wsL_len (m := m) (p := p) (rows := rows) (k := k) hk)
      have hk1 : k + 1 ≤ 1099511627776 := by omega
      have HK1 := Lib.hid hk1
      clear hmo hW hr4 hrm hrd4 hcap4 hk1
      go_wp2_with fail
      refine HW.out.mono ?_
      rintro e w5 ⟨rfl, b5⟩
      have HB5 := Lib.hid (HB.out.trans (b5.mono HB.out.size))
      have HO5 := Lib.hid ((HO.out.below b5).below ((Below.refl w5.heap.size w5).alloc (Nat.le_refl _) (.cells #[.int .i64 (W : Int)] 3)))
      have HL5 := Lib.hid (own_lit w5 [(W : Int)] (by simp)).rd
      have hsz : w.heap.size ≤ (w5.alloc (.cells #[.int .i64 (W : Int)] 3)).heap.size := Nat.le_trans HB5.out.size ((Below.refl _ w5).alloc (Nat.le_refl _) (.cells #[.int .i64 (W : Int)] 3)).size
      have HSZ := Lib.hid hsz
      clear b5 hsz HW
      go_wp2_with (at_builtin; refine wpList_append_any rfl _ _ 23 Try.underlying23 rfl w.heap.size A1 c1 (wsL m rows p k) k HWL.out rfl HO5.out (some ⟨w5.heap.size, 0, none⟩) 1 [(W : Int)] 1 rfl rfl HL5.out HK1.out HSZ.out ?_; intro A6 c6 w6 ho6 hg6)
      have HB6 := Lib.hid (((HB5.out.trans ((((Below.refl _ w5).alloc (Nat.le_refl _) (.cells #[.int .i64 (W : Int)] 3))).mono HB5.out.size))).grown hg6 HSZ.out (fun q e => by
        cases A1 with
        | none => cases e
        | some ad =>
          obtain ⟨g, hg⟩ := (row_shape2 HO.out)
          rw [hg] at e; cases e
          exact (World.ownsRow.lt HO.out _ (by rw [hg]; rfl)).1))
      rw [← HMO.out] at ho6
      go_roundw
      case rel => exact ⟨k + 1, A6, c6, hlt, by go_num, rfl, Lib.hid ho6, HB6⟩
      case measure => simp [intOf]; omega
    · obtain rfl : k = rows.length := by omega
      have HMW := Lib.hid (fun (S : Nat) => manyWithin_any A1 c1 rows.length (wsL m rows p rows.length) S wr HO.out.rd (wsL_len (Nat.le_refl _)) hn4)
      go_wp2_with fail
      rw [hsh]
      go_loop [8, 9, 31] (fun s f i => ∃ (k t F : Nat), k ≤ Q ∧ i = .int .i64 (k : Int) ∧ s = .int .i64 (t : Int) ∧ f = .int .i64 (F : Int) ∧ Hid (t = tmTo m rows (P1 p) k) ∧ Hid (F = if t = 0 then m + 1 else bts 4 t)) (fun _ _ i => Q - (intOf i).toNat)
      case atStart => exact ⟨0, 0, m + 1, Nat.zero_le _, rfl, rfl, by go_num, Lib.hid rfl, Lib.hid (by simp)⟩
      case round =>
        obtain ⟨k, t, F, hkQ, rfl, rfl, rfl, HT, HF⟩ := hrel
        by_cases hltQ : k < Q
        · have HCK := Lib.hid (HON.out k (by omega))
          have HMK := Lib.hid (HMW.out k)
          rw [HCN.out k hltQ] at HMK
          have htQ : t < Q := by rw [HT.out]; exact HTL.out k (by omega)
          have ham : bts 4 k ≤ m := by rw [← HBT.out k hltQ]; exact bts_le_m m k
          have hk0 : bts 4 k < cntS m rows (P1 p) k → k ≠ 0 := by intro h e; subst e; rw [cnt_zero] at h; omega
          have hst : tmTo m rows (P1 p) (k + 1) = if bts 4 k < cntS m rows (P1 p) k ∧ (t = 0 ∨ bts 4 k < bts 4 t) then k else t := by
            rw [tmTo, ← HT.out, HBT.out k hltQ, HBT.out t htQ]
          have hF := HF.out
          have hbk : Hid (∀ a, a = bts 4 k → a = bts 4 k) := Lib.hid (fun a h => h)
          obtain ⟨a, ha⟩ : ∃ a, a = bts 4 k := ⟨_, rfl⟩
          obtain ⟨z, hz⟩ : ∃ z, z = cntS m rows (P1 p) k := ⟨_, rfl⟩
          obtain ⟨bt', hbt'⟩ : ∃ bt', bt' = bts 4 t := ⟨_, rfl⟩
          have HA := Lib.hid ha
          rw [← ha] at HCK hst ham hk0
          rw [← hz] at HMK hst hk0
          rw [← hbt'] at hst hF
          have hu : IntKind.u64.wrap (k : Int) = (k : Int) := IntWalk.u64_in _ (by omega)
          have hkI : (k : Int) < (Q : Int) := by omega
          clear ha hz hbt' htQ
          by_cases h1 : a < F
          · have h1I : (a : Int) < (F : Int) := by omega
            by_cases h2 : a < z
            · have HST : Hid (tmTo m rows (P1 p) (k + 1) = k) := Lib.hid (by rw [hst, if_pos ⟨h2, by split at hF <;> omega⟩])
              have HFN : Hid (a = if k = 0 then m + 1 else bts 4 k) := Lib.hid (by rw [if_neg (hk0 h2)]; exact HA.out)
              have h2I : (a : Int) < (z : Int) := by omega
              clear hst h1 h2 hF hk0 ham
              go_wp2_with fail
              refine (HCK.out _).mono ?_
              rintro e w3 ⟨rfl, rfl⟩
              go_wp2_with fail
              refine HMK.out.mono ?_
              rintro e w3 ⟨rfl, rfl⟩
              go_wp2
              go_round
              case rel => exact ⟨k + 1, k, a, hltQ, by go_num, rfl, rfl, Lib.hid HST.out.symm, HFN⟩
              case measure => simp [intOf]; omega
            · have HST : Hid (tmTo m rows (P1 p) (k + 1) = t) := Lib.hid (by rw [hst, if_neg (fun hx => h2 hx.1)])
              have h2I : ¬ (a : Int) < (z : Int) := by omega
              clear hst h1 h2 hF hk0 ham
              go_wp2_with fail
              refine (HCK.out _).mono ?_
              rintro e w3 ⟨rfl, rfl⟩
              go_wp2_with fail
              refine HMK.out.mono ?_
              rintro e w3 ⟨rfl, rfl⟩
              go_wp2
              go_round
              case rel => exact ⟨k + 1, t, F, hltQ, by go_num, rfl, rfl, Lib.hid HST.out.symm, HF⟩
              case measure => simp [intOf]; omega
          · have HST : Hid (tmTo m rows (P1 p) (k + 1) = t) := Lib.hid (by rw [hst, if_neg (fun hx => by split at hF <;> omega)])
            have h1I : ¬ (a : Int) < (F : Int) := by omega
            clear hst h1 hF hk0 ham
            go_wp2_with fail
            refine (HCK.out _).mono ?_
            rintro e w3 ⟨rfl, rfl⟩
            go_wp2
            go_round
            case rel => exact ⟨k + 1, t, F, hltQ, by go_num, rfl, rfl, Lib.hid HST.out.symm, HF⟩
            case measure => simp [intOf]; omega
        · obtain rfl : k = Q := by omega
          go_wp2
          go_ret
          exact ⟨by rw [HTM.out, ← HT.out]; rfl, HB.out⟩
end Go.Proofs.Ytpildecpabeanaa
