/-
  Chapter 4: the contracts of IsSum and of IsOne, and of the models'.
-/
import Derived.Test.YtpildecpabeanaaG05
import Derived.Test.YtpildecpabeanaaG01
import Derived.Test.YtpildecpabeanaaG12
import Derived.Test.YtpildecpabeanaaG22
import Derived.Deep.RegionLaw
namespace Go.Proofs.Ytpildecpabeanaa
open Go.RowKit

/-- Whether each set of a table is worth what V tells. -/
noncomputable def byB (t : List Int) (V : Nat → Int) : Bool := @decide (VT t ∧ ∀ s, s < 8 → T t s = V s) (Classical.propDecidable _)
theorem byB_true {t : List Int} {V : Nat → Int} (h : VT t) (hm : ∀ s, s < 8 → T t s = V s) : byB t V = true := by unfold byB; simp only [decide_eq_true_eq]; exact ⟨h, hm⟩
theorem byB_false {t : List Int} {V : Nat → Int} (h : ¬ (VT t ∧ ∀ s, s < 8 → T t s = V s)) : byB t V = false := by unfold byB; simp only [decide_eq_false_iff_not]; exact h
/-- Of the first k sets. -/
def ByTo (t : List Int) (V : Nat → Int) (k : Nat) : Prop := ∀ s, s < k → T t s = V s
theorem ByTo.zero (t : List Int) (V : Nat → Int) : ByTo t V 0 := fun s h => absurd h (by omega)
theorem ByTo.next {t : List Int} {V : Nat → Int} {s : Nat} (h : ByTo t V s) (hu : T t s = V s) : ByTo t V (s + 1) := fun x hx => by
  rcases Nat.lt_or_ge x s with h1 | h1
  · exact h x h1
  · rw [show x = s by omega]; exact hu
/-- What the first i things of a set are worth alone. -/
def alnUp (t : List Int) (s i : Nat) : List Int := ((th s).take i).map (fun j => T t (2 ^ j.toNat))
theorem alnUp_zero (t : List Int) (s : Nat) : alnUp t s 0 = [] := by simp [alnUp]
theorem alnUp_step (t : List Int) {s i j : Nat} (h : (th s)[i]? = some (j : Int)) : alnUp t s (i + 1) = alnUp t s i ++ [T t (2 ^ j)] := by
  unfold alnUp
  rw [List.take_add_one, h, List.map_append]
  simp
theorem alnUp_all (t : List Int) (s : Nat) : alnUp t s (th s).length = alone t s := by unfold alnUp alone; rw [List.take_length]
theorem alnUp_len (t : List Int) {s i : Nat} (h : i ≤ (th s).length) : (alnUp t s i).length = i := by simp [alnUp]; omega
theorem alone_bd {t : List Int} (h : VT t) (s : Nat) : ∀ x ∈ alone t s, 0 ≤ x ∧ x ≤ 30 := by
  intro x hx
  obtain ⟨j, hj, rfl⟩ := List.mem_map.1 hx
  obtain ⟨i, rfl, hi, _⟩ := thTo_mem hj
  have : i = 0 ∨ i = 1 ∨ i = 2 := by omega
  rcases this with rfl | rfl | rfl
  · exact h.bd (s := 1) (by omega)
  · exact h.bd (s := 2) (by omega)
  · exact h.bd (s := 4) (by omega)

/-- The greatest of numbers. -/
theorem mxl_step {xs : List Int} {k : Nat} {x : Int} (h : xs[k]? = some x) : (xs.take (k + 1)).foldl max 0 = max ((xs.take k).foldl max 0) x := by
  rw [List.take_add_one, h, List.foldl_append]; rfl

set_option maxHeartbeats 400000 in
theorem Max_any (A : Option Addr) (c n : Nat) (xs : List Int) (w : World) (hn : xs.length = n) (h : Rd w A c xs) (h1 : 1 ≤ n) (hl : n ≤ 1048576) (h0 : ∀ x ∈ xs, 0 ≤ x) :
    Calls Try.prog 97 #[.slice A n c] w fun e w' => e = .returned (.int .i64 (xs.foldl max 0)) ∧ w = w' := by
  subst hn
  obtain ⟨b, off, x0, rfl, _, hx0, hc0⟩ := h.at_ (k := 0) (by omega)
  rw [Nat.add_zero] at hc0
  have hx00 := h0 x0 (List.mem_of_getElem? hx0.out)
  have HX0 : Hid ((xs.take 1).foldl max 0 = x0) := Lib.hid (by rw [show (1 : Nat) = 0 + 1 from rfl, mxl_step hx0.out]; simp; omega)
  have hl1 : decide ((xs.length : Int) < 1) = false := by simp; omega
  clear hx0 hx00
  go_enter Try.func97, Try.ntmps97
  go_wp2
  go_loop [3, 4] (fun m i => ∃ k : Nat, 1 ≤ k ∧ k ≤ xs.length ∧ i = .int .i64 k ∧ ∃ v, m = .int .i64 v ∧ Hid (v = (xs.take k).foldl max 0)) (fun _ i => xs.length - (intOf i).toNat)
  case atStart => exact ⟨1, Nat.le_refl _, h1, rfl, x0, rfl, Lib.hid HX0.out.symm⟩
  case round =>
    obtain ⟨k, hk1, hk, rfl, v, rfl, HV⟩ := hrel
    by_cases hlt : k < xs.length
    · obtain ⟨b2, off2, x, hA, _, hx, hc⟩ := h.at_ hlt
      cases hA
      have HV' : Hid ((if v < x then x else v) = (xs.take (k + 1)).foldl max 0) := Lib.hid (by rw [mxl_step hx.out, ← HV.out]; split <;> omega)
      clear hx
      go_wp2
      go_round
      case rel => exact ⟨k + 1, by omega, by omega, by go_num, _, rfl, HV'⟩
      case measure => simp [intOf]; omega
    · obtain rfl : k = xs.length := by omega
      have HE : Hid (v = xs.foldl max 0) := Lib.hid (by rw [HV.out, List.take_length])
      go_wp2
      go_ret
      exact ⟨by rw [HE.out]; rfl, rfl⟩

theorem pow8 {i : Nat} (h : i < 3) : 2 ^ i < 8 := by
  have : i = 0 ∨ i = 1 ∨ i = 2 := by omega
  rcases this with rfl | rfl | rfl <;> decide
theorem grown_al (w : World) (o : Obj) (r : Option Nat) : w.grownBy (w.alloc o) r := ⟨rfl, rfl, rfl, by simp, fun i hi _ => Below.heap_alloc w o i hi⟩
theorem grown_then {a b c : World} {r : Option Nat} (h : a.grownBy b r) (k : b.grownBy c r) : a.grownBy c r :=
  ⟨k.os.trans h.os, k.tape.trans h.tape, k.output.trans h.output, Nat.le_trans h.size k.size, fun i hi hr => (k.block i (Nat.lt_of_lt_of_le hi h.size) hr).trans (h.block i hi hr)⟩

/-- The closure that takes the greatest. -/
theorem maxLit_any (A : Option Addr) (c n : Nat) (xs : List Int) (B : Nat) (w : World) (hn : xs.length = n) (h : Own w B A c xs) (hB : B ≤ w.heap.size) (hl : n ≤ 3) (h0 : ∀ x ∈ xs, 0 ≤ x ∧ x ≤ 30) :
    Calls Try.prog 96 #[.slice A n c] w fun e w' => e = .returned (.int .i64 ((xs ++ [0]).foldl max 0)) ∧ w.grownBy w' (ofA A) := by
  have HC := Lib.hid (fun (A' : Option Addr) (c' : Nat) (w' : World) (hr : Rd w' A' c' (xs ++ [0])) => Max_any A' c' (n + 1) (xs ++ [0]) w' (by simp [hn]) hr (by omega) (by omega) (fun x hx => by rcases List.mem_append.1 hx with h | h; exact (h0 x h).1; simp at h; omega))
  obtain ⟨v, hv⟩ : ∃ v, v = (xs ++ [0]).foldl max 0 := ⟨_, rfl⟩
  rw [← hv] at HC ⊢
  have HOL : Hid (Own (w.alloc (.cells #[.int .i64 0] 3)) w.heap.size (some ⟨w.heap.size, 0, none⟩) 1 [(0 : Int)]) := Lib.hid (own_lit w [0] (by simp))
  have HOA : Hid (Own (w.alloc (.cells #[.int .i64 0] 3)) B A c xs) := Lib.hid (World.ownsRow.alloc h _)
  clear hv
  go_enter Try.func96, Try.ntmps96
  go_wp2_with (first
    | (at_builtin; refine wpList_append_any rfl _ _ 23 Try.underlying23 rfl B A c xs n hn rfl HOA.out _ _ [0] 1 rfl rfl HOL.out.rd (by omega) (by simp; omega) ?_; intro A4 c4 w4 o4 g4)
    | (go_at_call 97; refine (HC.out _ _ _ o4.rd).mono ?_; rintro e w1 ⟨rfl, rfl⟩))
  go_ret
  exact ⟨rfl, grown_then (grown_al w _ _) g4⟩

set_option maxHeartbeats 1600000 in
theorem byIsOne_any (A : Option Addr) (c : Nat) (t : List Int) (w : World) (h : Rd w A c t) (hl : t.length ≤ 1099511627776) :
    Calls Try.prog 95 #[.slice A t.length c, .func (.func 96) #[] #[]] w fun e w' => e = .returned (.bool (byB t (fun s => mostAl t s 3))) ∧ Below w.heap.size w w' := by
  have HV := Lib.hid (ValidTable_any A c t w h hl)
  by_cases hv : VT t
  · rw [vt_true hv] at HV
    have HN := Lib.hid (fun (hm : ¬ ∀ s, s < 8 → T t s = mostAl t s 3) => byB_false (t := t) (V := fun s => mostAl t s 3) (fun h => hm h.2))
    have HY := Lib.hid (fun (hm : ByTo t (fun s => mostAl t s 3) 8) => byB_true hv hm)
    have HCl := Lib.hid (fun (s : Nat) (hs : s < 8) (n : Nat) (hn : n = (th s).length) (A' : Option Addr) (c' B : Nat) (w' : World) (ho : Own w' B A' c' (alnUp t s n)) (hB : B ≤ w'.heap.size) =>
      show Calls Try.prog 96 #[.slice A' n c'] w' fun e w'' => e = .returned (.int .i64 (mostAl t s 3)) ∧ w'.grownBy w'' (ofA A') from by
        have e1 : alnUp t s n = alone t s := by rw [hn, alnUp_all]
        rw [e1] at ho
        have h1 := maxLit_any A' c' n (alone t s) B w' (by rw [← e1, alnUp_len t (by omega)]) ho hB (by rw [hn]; exact th_le s) (alone_bd hv s)
        rw [alone_max hv hs] at h1
        exact h1)
    have h8 := hv.1
    rw [h8] at HV ⊢
    clear hv
    go_enter Try.func95, Try.ntmps95
    go_wp2_with (go_at_call 133; refine HV.out.mono ?_; rintro e w1 ⟨rfl, hb1⟩)
    go_loopw [15] (fun i wr => ∃ k : Nat, k ≤ 8 ∧ i = .int .i64 (k : Int) ∧ Below w.heap.size w wr ∧ Hid (ByTo t (fun s => mostAl t s 3) k)) (fun i _ => 8 - (intOf i).toNat)
    case atStart => exact ⟨0, by omega, rfl, hb1, Lib.hid (ByTo.zero t _)⟩
    case round =>
      obtain ⟨k, hk, rfl, hb, HO⟩ := hrel
      by_cases hlt : k < 8
      · obtain ⟨b, off, x, rfl, _, hx, hc⟩ := (h.below hb).at_ (k := k) (by omega)
        have HTX := Lib.hid (T_of hx.out)
        have hk0 : (0 : Int) ≤ (k : Int) := by omega
        have hk8 : (k : Int) < 8 := by omega
        have HT := Lib.hid (thingsIn_any k hlt wr)
        have HCk := Lib.hid (HCl.out k hlt)
        have hln := th_le k
        have HM := Lib.hid (fun (i : Nat) (x : Int) (h : (th k)[i]? = some x) => th_at h)
        have HS := Lib.hid (fun (i j : Nat) (h : (th k)[i]? = some (j : Int)) => alnUp_step t h)
        have HAL := Lib.hid (fun (i : Nat) (h : i ≤ (th k).length) => alnUp_len t h)
        obtain ⟨L, hL⟩ : ∃ L, L = th k := ⟨_, rfl⟩
        rw [← hL] at HT HCk hln HM HS HAL
        clear hL hx
        go_wp2_with (go_at_call 146; refine HT.out.mono ?_; rintro e w2 ⟨A1, c1, rfl, HOT, hb2⟩)
        have hw2 : Below w.heap.size w w2 := below_then hb hb2
        go_loopw [7, 23] (fun a i wr' => ∃ (j n : Nat) (A4 : Option Addr) (c4 : Nat), j ≤ L.length ∧ i = .int .i64 (j : Int) ∧ a = .slice A4 n c4 ∧ n = j ∧ Hid (Own wr' w2.heap.size A4 c4 (alnUp t k j)) ∧ Below w2.heap.size w2 wr') (fun _ i _ => L.length - (intOf i).toNat)
        case atStart => exact ⟨0, 0, none, 0, Nat.zero_le _, rfl, rfl, rfl, Lib.hid (by rw [alnUp_zero]; exact own_none _ _), Below.refl _ _⟩
        case round =>
          obtain ⟨j, n, A4, c4, hj, rfl, rfl, hnj, HO4, hb4⟩ := hrel
          by_cases hjl : j < L.length
          · obtain ⟨b5, off5, y, hA1, _, hy, hc5⟩ := (HOT.rd.below hb4).at_ hjl
            obtain ⟨i, rfl, hi, hbit⟩ := HM.out j y hy.out
            have HS' := Lib.hid (HS.out j i hy.out)
            obtain ⟨b6, off6, z, hA, _, hz, hc6⟩ := ((h.below hw2).below hb4).at_ (k := 2 ^ i) (by rw [h8]; exact pow8 hi)
            cases hA
            have HZ : Hid (alnUp t k (j + 1) = alnUp t k j ++ [z]) := Lib.hid (by rw [HS'.out, T_of hz.out])
            have HLN := Lib.hid (show (alnUp t k j).length = n by rw [hnj]; exact HAL.out j (by omega))
            subst hA1
            have HOL : Hid (Own (wr.alloc (.cells #[.int .i64 z] 3)) wr.heap.size (some ⟨wr.heap.size, 0, none⟩) 1 [z]) := Lib.hid (own_lit wr [z] (by simp))
            have HOA : Hid (Own (wr.alloc (.cells #[.int .i64 z] 3)) w2.heap.size A4 c4 (alnUp t k j)) := Lib.hid (World.ownsRow.alloc HO4.out _)
            have hbA := hb4.alloc hb4.size (.cells #[.int .i64 z] 3)
            have hn3 : n ≤ 3 := by omega
            clear HS' hy hz hbit HO4
            have : i = 0 ∨ i = 1 ∨ i = 2 := by omega
            rcases this with rfl | rfl | rfl
            · have hc7 : wr.cell? ⟨b, off + 1, none⟩ = some (.int .i64 z) := hc6
              clear hc6
              go_wp2_with (at_builtin; refine wpList_append_any rfl _ _ 23 Try.underlying23 rfl w2.heap.size A4 c4 (alnUp t k j) n HLN.out rfl HOA.out _ _ [z] 1 rfl rfl HOL.out.rd (by omega) hbA.size ?_; intro A7 c7 w7 o7 g7)
              have B7 := Own.grownBelow0 hbA HOA.out hbA.size g7
              have HO7 : Hid (Own w7 w2.heap.size A7 c7 (alnUp t k (j + 1))) := Lib.hid (by rw [HZ.out]; exact o7)
              go_wp2
              go_roundw
              case rel => exact ⟨j + 1, j + 1, A7, c7, by omega, by go_num, rfl, by omega, HO7, B7⟩
              case measure => simp [intOf]; omega
            · have hc7 : wr.cell? ⟨b, off + 2, none⟩ = some (.int .i64 z) := hc6
              clear hc6
              go_wp2_with (at_builtin; refine wpList_append_any rfl _ _ 23 Try.underlying23 rfl w2.heap.size A4 c4 (alnUp t k j) n HLN.out rfl HOA.out _ _ [z] 1 rfl rfl HOL.out.rd (by omega) hbA.size ?_; intro A7 c7 w7 o7 g7)
              have B7 := Own.grownBelow0 hbA HOA.out hbA.size g7
              have HO7 : Hid (Own w7 w2.heap.size A7 c7 (alnUp t k (j + 1))) := Lib.hid (by rw [HZ.out]; exact o7)
              go_wp2
              go_roundw
              case rel => exact ⟨j + 1, j + 1, A7, c7, by omega, by go_num, rfl, by omega, HO7, B7⟩
              case measure => simp [intOf]; omega
            · have hc7 : wr.cell? ⟨b, off + 4, none⟩ = some (.int .i64 z) := hc6
              clear hc6
              go_wp2_with (at_builtin; refine wpList_append_any rfl _ _ 23 Try.underlying23 rfl w2.heap.size A4 c4 (alnUp t k j) n HLN.out rfl HOA.out _ _ [z] 1 rfl rfl HOL.out.rd (by omega) hbA.size ?_; intro A7 c7 w7 o7 g7)
              have B7 := Own.grownBelow0 hbA HOA.out hbA.size g7
              have HO7 : Hid (Own w7 w2.heap.size A7 c7 (alnUp t k (j + 1))) := Lib.hid (by rw [HZ.out]; exact o7)
              go_wp2
              go_roundw
              case rel => exact ⟨j + 1, j + 1, A7, c7, by omega, by go_num, rfl, by omega, HO7, B7⟩
              case measure => simp [intOf]; omega
          · obtain rfl : j = L.length := by omega
            subst hnj
            have HCW := Lib.hid (HCk.out _ rfl A4 c4 w2.heap.size wr HO4.out hb4.size)
            have HGB := Lib.hid (fun w9 (g : wr.grownBy w9 (ofA A4)) => Own.grownBelow0 hb4 HO4.out hb4.size g)
            obtain ⟨v, hV⟩ : ∃ v, v = mostAl t k 3 := ⟨_, rfl⟩
            rw [← hV] at HCW
            by_cases hxv : x = v
            · have HO' := Lib.hid (HO.out.next (show T t k = mostAl t k 3 by rw [HTX.out, hxv, hV]))
              have hne : (x != v) = false := by simp [hxv]
              subst hxv
              clear hV
              go_wp2_with (go_at_call 96; refine HCW.out.mono ?_; rintro e w9 ⟨rfl, g9⟩)
              go_roundw
              case rel => exact ⟨k + 1, by omega, by go_num, below_then hw2 (HGB.out _ g9), HO'⟩
              case measure => simp [intOf]; omega
            · have HE := Lib.hid (HN.out (fun hm => hxv (by have := hm k hlt; rw [HTX.out] at this; rw [this, hV])))
              clear hV
              go_wp2_with (go_at_call 96; refine HCW.out.mono ?_; rintro e w9 ⟨rfl, g9⟩)
              go_ret
              exact ⟨by rw [HE.out]; rfl, below_then hw2 (HGB.out _ g9)⟩
      · obtain rfl : k = 8 := by omega
        have HE := Lib.hid (HY.out HO.out)
        go_wp2
        go_ret
        exact ⟨by rw [HE.out]; rfl, hb⟩
  · rw [vt_false hv] at HV
    have HE := Lib.hid (byB_false (t := t) (V := fun s => mostAl t s 3) (fun h => hv h.1))
    clear hv
    go_enter Try.func95, Try.ntmps95
    go_wp2_with (go_at_call 133; refine HV.out.mono ?_; rintro e w1 ⟨rfl, hb⟩)
    go_ret
    exact ⟨by rw [HE.out]; rfl, hb⟩

theorem IsOne_any (A : Option Addr) (c : Nat) (t : List Int) (w : World) (h : Rd w A c t) (hl : t.length ≤ 1099511627776) :
    Calls Try.prog 40 #[.slice A t.length c] w fun e w' => e = .returned (.bool (byB t (fun s => mostAl t s 3))) ∧ Below w.heap.size w w' := by
  have HC := Lib.hid (byIsOne_any A c t w h hl)
  go_enter Try.func40, Try.ntmps40
  go_wp2_with (go_at_call 95; refine HC.out.mono ?_; rintro e w1 ⟨rfl, hb⟩)
  go_ret
  exact ⟨rfl, hb⟩

end Go.Proofs.Ytpildecpabeanaa

/-
  Chapter 6: the program's SurplusAt and DemandAt.
-/
namespace Go.Proofs.Ytpildecpabeanaa
open Go.RowKit

/-- What is left of each set. -/
def lfL (t p : List Int) : List Int := lit8 (lf t p)
theorem lfL_max {t p : List Int} (h : T t 0 = 0) : (lfL t p).foldl max 0 = su t p := by
  have h0 := lf_zero (p := p) h
  simp [lfL, lit8, su, suTo]
theorem Rd.three {w : World} {b off c : Nat} {p : List Int} (h : Rd w (some ⟨b, off, none⟩) c p) (hl : p.length = 3) : w.cell? ⟨b, off, none⟩ = some (.int .i64 (T p 0)) ∧ w.cell? ⟨b, off + 1, none⟩ = some (.int .i64 (T p 1)) ∧ w.cell? ⟨b, off + 2, none⟩ = some (.int .i64 (T p 2)) := by
  have : ∀ k, k < 3 → w.cell? ⟨b, off + k, none⟩ = some (.int .i64 (T p k)) := fun k hk => by
    obtain ⟨b', off', x, hA, _, hx, hc⟩ := h.at_ (k := k) (by omega)
    cases hA
    rw [hc, T_of hx.out]
  exact ⟨this 0 (by omega), this 1 (by omega), this 2 (by omega)⟩
theorem Rd.some3 {w : World} {A : Option Addr} {c : Nat} {t : List Int} (h : Rd w A c t) (hl : t.length = 3) : ∃ b off, A = some ⟨b, off, none⟩ := by
  obtain ⟨b, off, _, hA, _⟩ := h.at_ (k := 0) (by omega)
  exact ⟨b, off, hA⟩

/-- A region that draws its order, all ways of which end alike, but for a block and what lies in it. -/
theorem wp_alike {P : Program} {c : Code} {K : Act → World → Prop} {Q : Exit → Act → World → Prop} {a : Act} {w : World} (a0 : Nat → Act) (R : Nat → World → Prop) (h : ∀ K1 : Act → World → Prop, (∀ M w', R M w' → K1 (a0 M) w') → c.wp P (Exit.then K1 Q) a w) (hk : ∀ M w', R M w' → K (a0 M) w') : c.wp P (Exit.then K Q) a w := h K hk
theorem exit_normal {K : Act → World → Prop} {Q : Exit → Act → World → Prop} {a : Act} {w : World} (h : K a w) : Exit.then K Q Exit.normal a w := h
/-- A block of the call's own holds the table l. -/
def PutAt (w0 : World) (l : List Int) (M : Nat) (w' : World) : Prop := w0.heap.size ≤ M ∧ Below w0.heap.size w0 w' ∧ Arr w' M l
theorem put8 {w0 w : World} {M : Nat} {L : List Int} (hb : Below w0.heap.size w0 w) (hA : Arr w M L) (hM : w0.heap.size ≤ M) (f : Nat → Int) :
    PutAt w0 (lit8 f) M ((((((((w.setCell ⟨M, 0, none⟩ (.int .i64 (f 0))).setCell ⟨M, 1, none⟩ (.int .i64 (f 1))).setCell ⟨M, 2, none⟩ (.int .i64 (f 2))).setCell ⟨M, 3, none⟩ (.int .i64 (f 3))).setCell ⟨M, 4, none⟩ (.int .i64 (f 4))).setCell ⟨M, 5, none⟩ (.int .i64 (f 5))).setCell ⟨M, 6, none⟩ (.int .i64 (f 6))).setCell ⟨M, 7, none⟩ (.int .i64 (f 7))) := by
  refine ⟨hM, ?_, ?_⟩
  · exact (((((((hb.setCell hM _).setCell hM _).setCell hM _).setCell hM _).setCell hM _).setCell hM _).setCell hM _).setCell hM _
  · have h9 := (((((((hA.set_ (k := 0) (f 0)).set_ (k := 1) (f 1)).set_ (k := 2) (f 2)).set_ (k := 3) (f 3)).set_ (k := 4) (f 4)).set_ (k := 5) (f 5)).set_ (k := 6) (f 6)).set_ (k := 7) (f 7)
    rw [set8 hA.1] at h9
    exact h9
theorem put_new {w0 w : World} (hb : Below w0.heap.size w0 w) (f : Nat → Int) :
    PutAt w0 (lit8 f) w.heap.size (w.alloc (.cells #[.int .i64 (f 0), .int .i64 (f 1), .int .i64 (f 2), .int .i64 (f 3), .int .i64 (f 4), .int .i64 (f 5), .int .i64 (f 6), .int .i64 (f 7)] 96)) :=
  ⟨hb.size, hb.alloc hb.size _, Arr.new w (lit8 f) rfl⟩
theorem Arr.rd {w : World} {M : Nat} {l : List Int} (h : Arr w M l) (c : Nat) : Rd w (some ⟨M, 0, none⟩) c l := .inr ⟨M, 0, rfl, fun k hk => by
  have := h.cell (k := k) (by rw [h.1] at hk; exact hk)
  rw [Nat.zero_add, this]
  congr 1⟩

set_option maxHeartbeats 400000 in
theorem MaxFrom_any (A : Option Addr) (c n : Nat) (xs : List Int) (w : World) (hn : xs.length = n) (h : Rd w A c xs) (h1 : 1 ≤ n) (hl : n ≤ 1048576) (h0 : 0 ≤ T xs 0) :
    Calls Try.prog 97 #[.slice A n c] w fun e w' => e = .returned (.int .i64 (xs.foldl max 0)) ∧ w = w' := by
  subst hn
  obtain ⟨b, off, x0, rfl, _, hx0, hc0⟩ := h.at_ (k := 0) (by omega)
  rw [Nat.add_zero] at hc0
  have hx00 : 0 ≤ x0 := by rw [← T_of hx0.out]; exact h0
  have HX0 : Hid ((xs.take 1).foldl max 0 = x0) := Lib.hid (by rw [show (1 : Nat) = 0 + 1 from rfl, mxl_step hx0.out]; simp; omega)
  have hl1 : decide ((xs.length : Int) < 1) = false := by simp; omega
  clear hx0 hx00 h0
  go_enter Try.func97, Try.ntmps97
  go_wp2
  go_loop [3, 4] (fun m i => ∃ k : Nat, 1 ≤ k ∧ k ≤ xs.length ∧ i = .int .i64 k ∧ ∃ v, m = .int .i64 v ∧ Hid (v = (xs.take k).foldl max 0)) (fun _ i => xs.length - (intOf i).toNat)
  case atStart => exact ⟨1, Nat.le_refl _, h1, rfl, x0, rfl, Lib.hid HX0.out.symm⟩
  case round =>
    obtain ⟨k, hk1, hk, rfl, v, rfl, HV⟩ := hrel
    by_cases hlt : k < xs.length
    · obtain ⟨b2, off2, x, hA, _, hx, hc⟩ := h.at_ hlt
      cases hA
      have HV' : Hid ((if v < x then x else v) = (xs.take (k + 1)).foldl max 0) := Lib.hid (by rw [mxl_step hx.out, ← HV.out]; split <;> omega)
      clear hx
      go_wp2
      go_round
      case rel => exact ⟨k + 1, by omega, by omega, by go_num, _, rfl, HV'⟩
      case measure => simp [intOf]; omega
    · obtain rfl : k = xs.length := by omega
      have HE : Hid (v = xs.foldl max 0) := Lib.hid (by rw [HV.out, List.take_length])
      go_wp2
      go_ret
      exact ⟨by rw [HE.out]; rfl, rfl⟩

end Go.Proofs.Ytpildecpabeanaa
