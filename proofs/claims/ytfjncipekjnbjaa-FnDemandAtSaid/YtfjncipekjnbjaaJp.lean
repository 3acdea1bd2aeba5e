/-
  Chapter 6: three things exchanged, by the program: SwapsByThrees; both sides.
-/
import Derived.Test.YtfjncipekjnbjaaJo
namespace Go.Proofs.Ytfjncipekjnbjaa
open Go.RowKit

/-- What is exchanged holds of the first things of the three lists. -/
def ThK (t : List Int) (i j n : Nat) (L : List Int) : Prop := ∀ k : Nat, k < 3 → ((2 ^ k : Nat) : Int) ∈ L.take n → TriQ t i j k
def ThJ (t : List Int) (i n : Nat) (L : List Int) : Prop := ∀ j : Nat, j < 3 → ((2 ^ j : Nat) : Int) ∈ L.take n → ∀ k, k < 3 → TriQ t i j k
def ThI (t : List Int) (n : Nat) (L : List Int) : Prop := ∀ i : Nat, i < 3 → ((2 ^ i : Nat) : Int) ∈ L.take n → ∀ j, j < 3 → ∀ k, k < 3 → TriQ t i j k
theorem ThK.zero (t : List Int) (i j : Nat) (L : List Int) : ThK t i j 0 L := fun k _ h => absurd h (by simp)
theorem ThJ.zero (t : List Int) (i : Nat) (L : List Int) : ThJ t i 0 L := fun k _ h => absurd h (by simp)
theorem ThI.zero (t : List Int) (L : List Int) : ThI t 0 L := fun k _ h => absurd h (by simp)
theorem take_mem {L : List Int} {n k k' : Nat} (hk : k < 3) (hk' : k' < 3) (hx : L[n]? = some ((2 ^ k' : Nat) : Int)) (hm : ((2 ^ k : Nat) : Int) ∈ L.take (n + 1)) : ((2 ^ k : Nat) : Int) ∈ L.take n ∨ k = k' := by
  rw [List.take_add_one, hx] at hm
  rcases List.mem_append.1 hm with hm | hm
  · exact .inl hm
  · simp at hm
    have e : 2 ^ k = 2 ^ k' := by have : ((2 ^ k : Nat) : Int) = ((2 ^ k' : Nat) : Int) := by simpa using hm
                                  omega
    exact .inr (pow_inj3 hk hk' e)
theorem ThK.next {t : List Int} {i j n k : Nat} {L : List Int} (h : ThK t i j n L) (hk : k < 3) (hx : L[n]? = some ((2 ^ k : Nat) : Int)) (hq : TriQ t i j k) : ThK t i j (n + 1) L := fun k2 hk2 hm => by
  rcases take_mem hk2 hk hx hm with h1 | rfl
  · exact h k2 hk2 h1
  · exact hq
theorem ThJ.next {t : List Int} {i j n : Nat} {L : List Int} (h : ThJ t i n L) (hj : j < 3) (hx : L[n]? = some ((2 ^ j : Nat) : Int)) (hq : ∀ k, k < 3 → TriQ t i j k) : ThJ t i (n + 1) L := fun k2 hk2 hm => by
  rcases take_mem hk2 hj hx hm with h1 | rfl
  · exact h k2 hk2 h1
  · exact hq
theorem ThI.next {t : List Int} {i n : Nat} {L : List Int} (h : ThI t n L) (hi : i < 3) (hx : L[n]? = some ((2 ^ i : Nat) : Int)) (hq : ∀ j, j < 3 → ∀ k, k < 3 → TriQ t i j k) : ThI t (n + 1) L := fun k2 hk2 hm => by
  rcases take_mem hk2 hi hx hm with h1 | rfl
  · exact h k2 hk2 h1
  · exact hq
/-- All things but one, and but two. -/
theorem but1 {i : Nat} (hi : i < 3) : bits .andNot .i64 7 ((2 ^ i : Nat) : Int) = ((7 - 2 ^ i : Nat) : Int) ∧ 7 - 2 ^ i < 8 ∧ ∀ j, j < 3 → ((7 - 2 ^ i) / 2 ^ j % 2 = 1 ↔ j ≠ i) := by
  rcases nat3 hi with rfl | rfl | rfl <;> decide
theorem but2 {i j : Nat} (hi : i < 3) (hj : j < 3) (d : j ≠ i) : bits .andNot .i64 7 (bits .or .i64 ((2 ^ i : Nat) : Int) ((2 ^ j : Nat) : Int)) = ((7 - (2 ^ i + 2 ^ j) : Nat) : Int) ∧ 7 - (2 ^ i + 2 ^ j) < 8 ∧ ∀ k, k < 3 → ((7 - (2 ^ i + 2 ^ j)) / 2 ^ k % 2 = 1 ↔ (k ≠ i ∧ k ≠ j)) := by
  rcases nat3 hi with rfl | rfl | rfl <;> rcases nat3 hj with rfl | rfl | rfl <;> first | exact absurd rfl d | decide

set_option maxRecDepth 100000 in
set_option maxHeartbeats 1600000 in
theorem SwapsByThrees_any (A : Option Addr) (c : Nat) (t : List Int) (w : World) (h : Rd w A c t) (hl : t.length ≤ 1099511627776) :
    Calls Try.prog 31 #[.slice A t.length c] w fun e w' => e = .returned (.bool (thB t)) ∧ Below w.heap.size w w' := by
  have HV := Lib.hid (IsModest_any A c t w h hl)
  by_cases hv : VT t ∧ Mod t
  · rw [mdB_true hv.1 hv.2] at HV
    have h8 := hv.1.1
    obtain ⟨b, off, rfl⟩ := h.some_ h8
    have HO := Lib.hid (fun (s : Nat) (hs : s < 8) (w1 : World) => onesIn_any s hs w1)
    have HS0 := fun (i j k : Nat) (hi : i < 3) (hj : j < 3) (hk : k < 3) (d1 : i ≠ j) (d2 : i ≠ k) (d3 : j ≠ k) (w1 : World) => swapsThird_any t i j k w1 hv.1 hi hj hk d1 d2 d3
    unfold ag8 at HS0
    have HS := Lib.hid HS0
    have HY := Lib.hid (fun (h3 : Tri t) => thB_true hv.1 hv.2 h3)
    have HN := Lib.hid (fun (hn : ¬ Tri t) => thB_false (t := t) (fun h => hn h.2.2))
    have hap := arr_ptr b off c
    have h7 : (7 : Nat) < 8 := by omega
    have HO7 := Lib.hid (fun (w1 : World) => onesIn_any 7 (by omega) w1)
    rw [h8] at HV ⊢
    clear hv HS0
    go_enter Try.func31, Try.ntmps31
    go_wp2_with fail
    refine HV.out.mono ?_
    rintro e w1 ⟨rfl, b1⟩
    go_wp2_with fail
    refine (HO7.out _).mono ?_
    rintro e w2 ⟨A2, c2, rfl, q2, b2⟩
    have B2 := below_then b1 b2
    have hl7 : (on 7).length ≤ 3 := by rw [on_len]; exact th_le 7
    have R2 := Lib.hid q2.rd
    have H7 : Hid (∀ i : Nat, i < 3 → ((2 ^ i : Nat) : Int) ∈ on 7) := Lib.hid (fun i hi => on_has hi (by rcases nat3 hi with rfl | rfl | rfl <;> decide))
    have HM7 := Lib.hid (fun (y : Int) (hy : y ∈ on 7) => on_mem hy)
    obtain ⟨L, hL⟩ : ∃ L, L = on 7 := ⟨_, rfl⟩
    rw [← hL] at R2 H7 HM7 hl7 ⊢
    clear hL q2 HO7 HV b1 b2
    go_wp2_with fail
    go_loopw [14] (fun iv wr => ∃ k : Nat, k ≤ L.length ∧ iv = .int .i64 (k : Int) ∧ Below w.heap.size w wr ∧ Hid (Rd wr A2 c2 L) ∧ Hid (ThI t k L)) (fun iv _ => L.length - (intOf iv).toNat)
    case atStart => exact ⟨0, by omega, rfl, B2, R2, Lib.hid (ThI.zero t L)⟩
    case round =>
      clear B2 R2
      obtain ⟨n, hn, rfl, hb, HR, HI⟩ := hrel
      by_cases hlt : n < L.length
      · obtain ⟨b5, off5, y, rfl, _, hy, hc⟩ := HR.out.at_ hlt
        obtain ⟨i, hi, _, rfl⟩ := HM7.out y (List.mem_of_getElem? hy.out)
        have hn1 : n + 1 ≤ L.length := hlt
        obtain ⟨e1, l1, hx1⟩ := but1 hi
        have HX1 := Lib.hid hx1
        have HC1 := Lib.hid (fun w1 => HO.out (7 - 2 ^ i) l1 w1)
        have HLI := Lib.hid hi
        have HNI := Lib.hid (fun (hq : ∀ j, j < 3 → ∀ k, k < 3 → TriQ t i j k) => HI.out.next hi hy.out hq)
        obtain ⟨pi, hpi⟩ : ∃ p, p = 2 ^ i := ⟨_, rfl⟩
        obtain ⟨si, hsi⟩ : ∃ s, s = 7 - 2 ^ i := ⟨_, rfl⟩
        have HPI := Lib.hid hpi
        have HSI := Lib.hid hsi
        rw [← hpi] at hc
        rw [← hsi] at e1 HC1 HX1
        rw [← hpi] at e1
        clear hpi hsi hy hx1 l1 hi hlt HI
        go_wp2_with fail
        refine (HC1.out _).mono ?_
        rintro e w3 ⟨A3, c3, rfl, q3, b3⟩
        have B3 := below_then hb b3
        have HR3 := Lib.hid (HR.out.below b3)
        have hl3 : (on si).length ≤ 3 := by rw [on_len]; exact th_le si
        have R3 := Lib.hid q3.rd
        have HM3 : Hid (∀ y ∈ on si, ∃ j : Nat, j < 3 ∧ j ≠ i ∧ y = ((2 ^ j : Nat) : Int)) := Lib.hid (fun y hy => by
          obtain ⟨j, hj, hb, e⟩ := on_mem hy
          exact ⟨j, hj, (HX1.out j hj).1 hb, e⟩)
        have H3 : Hid (∀ j : Nat, j < 3 → j ≠ i → ((2 ^ j : Nat) : Int) ∈ on si) := Lib.hid (fun j hj hne => on_has hj ((HX1.out j hj).2 hne))
        obtain ⟨L3, hL3⟩ : ∃ L3, L3 = on si := ⟨_, rfl⟩
        rw [← hL3] at R3 H3 HM3 hl3 ⊢
        clear hL3 q3 b3 HC1 HR HX1 hb
        go_wp2_with fail
        go_loopw [22] (fun iv wr => ∃ k : Nat, k ≤ L3.length ∧ iv = .int .i64 (k : Int) ∧ Below w.heap.size w wr ∧ Hid (Rd wr (some ⟨b5, off5, none⟩) c2 L) ∧ Hid (Rd wr A3 c3 L3) ∧ Hid (ThJ t i k L3)) (fun iv _ => L3.length - (intOf iv).toNat)
        case atStart => exact ⟨0, by omega, rfl, B3, HR3, R3, Lib.hid (ThJ.zero t i L3)⟩
        case round =>
          clear B3 R3 HR3
          obtain ⟨m, hm, rfl, hb, HR, HR3, HJ⟩ := hrel
          by_cases hlt : m < L3.length
          · obtain ⟨b6, off6, y, rfl, _, hy, hc3⟩ := HR3.out.at_ hlt
            obtain ⟨j, hj, hne, rfl⟩ := HM3.out y (List.mem_of_getElem? hy.out)
            have hm1 : m + 1 ≤ L3.length := hlt
            obtain ⟨e2, l2, hx2⟩ := but2 HLI.out hj hne
            have HX2 := Lib.hid hx2
            have HC2 := Lib.hid (fun w1 => HO.out (7 - (2 ^ i + 2 ^ j)) l2 w1)
            have HLJ := Lib.hid (And.intro hj hne)
            have HNJ := Lib.hid (fun (hq : ∀ k, k < 3 → TriQ t i j k) => HJ.out.next hj hy.out hq)
            obtain ⟨pj, hpj⟩ : ∃ p, p = 2 ^ j := ⟨_, rfl⟩
            have HPJ := Lib.hid hpj
            obtain ⟨sj, hsj⟩ : ∃ s, s = 7 - (2 ^ i + 2 ^ j) := ⟨_, rfl⟩
            rw [← hsj] at e2 HC2 HX2
            rw [← hpj] at hc3 e2
            rw [← HPI.out] at e2
            clear hpj hsj hy hx2 l2 hj hne hlt HJ
            go_wp2_with fail
            refine (HC2.out _).mono ?_
            rintro e w4 ⟨A4, c4, rfl, q4, b4⟩
            have B4 := below_then hb b4
            have HR4 := Lib.hid (HR.out.below b4)
            have HR34 := Lib.hid (HR3.out.below b4)
            have hl4 : (on sj).length ≤ 3 := by rw [on_len]; exact th_le sj
            have R4 := Lib.hid q4.rd
            have HM4 : Hid (∀ y ∈ on sj, ∃ k : Nat, k < 3 ∧ k ≠ i ∧ k ≠ j ∧ y = ((2 ^ k : Nat) : Int)) := Lib.hid (fun y hy => by
              obtain ⟨k, hk, hb, e⟩ := on_mem hy
              obtain ⟨n1, n2⟩ := (HX2.out k hk).1 hb
              exact ⟨k, hk, n1, n2, e⟩)
            have H4 : Hid (∀ k : Nat, k < 3 → k ≠ i → k ≠ j → ((2 ^ k : Nat) : Int) ∈ on sj) := Lib.hid (fun k hk n1 n2 => on_has hk ((HX2.out k hk).2 ⟨n1, n2⟩))
            obtain ⟨L4, hL4⟩ : ∃ L4, L4 = on sj := ⟨_, rfl⟩
            rw [← hL4] at R4 H4 HM4 hl4 ⊢
            clear hL4 q4 b4 HC2 HR HR3 HX2 hb
            go_wp2_with fail
            go_loopw [32] (fun iv wr => ∃ k : Nat, k ≤ L4.length ∧ iv = .int .i64 (k : Int) ∧ Below w.heap.size w wr ∧ Hid (Rd wr (some ⟨b5, off5, none⟩) c2 L) ∧ Hid (Rd wr (some ⟨b6, off6, none⟩) c3 L3) ∧ Hid (Rd wr A4 c4 L4) ∧ Hid (ThK t i j k L4)) (fun iv _ => L4.length - (intOf iv).toNat)
            case atStart => exact ⟨0, by omega, rfl, B4, HR4, HR34, R4, Lib.hid (ThK.zero t i j L4)⟩
            case round =>
              clear B4 R4 HR4 HR34
              obtain ⟨o, ho, rfl, hb, HR, HR3, HR4, HK⟩ := hrel
              by_cases hlt : o < L4.length
              · obtain ⟨b7, off7, y, rfl, _, hy, hc4⟩ := HR4.out.at_ hlt
                obtain ⟨k, hk, n1, n2, rfl⟩ := HM4.out y (List.mem_of_getElem? hy.out)
                have ho1 : o + 1 ≤ L4.length := hlt
                have HCT := Lib.hid (fun w1 => HS.out i j k HLI.out HLJ.out.1 hk (fun e => HLJ.out.2 e.symm) (fun e => n1 e.symm) (fun e => n2 e.symm) w1)
                have HNK := Lib.hid (fun (hq : tqB t i j k = true) => HK.out.next hk hy.out (fun _ _ _ => tqB_iff.1 hq))
                have HNO := Lib.hid (fun (hq : tqB t i j k = false) => HN.out (Tri.no HLI.out HLJ.out.1 hk (fun e => HLJ.out.2 e.symm) (fun e => n1 e.symm) (fun e => n2 e.symm) (fun h => by rw [tqB_true h] at hq; cases hq)))
                obtain ⟨pk, hpk⟩ : ∃ p, p = 2 ^ k := ⟨_, rfl⟩
                rw [← hpk] at hc4 HCT
                rw [← HPI.out, ← HPJ.out] at HCT
                obtain ⟨d0, d1, d2, d3, d4, d5, d6, d7⟩ := (h.below hb).eight h8
                clear hpk hy hk n1 n2 hlt HK
                rcases hq : tqB t i j k with _ | _
                · have HE := Lib.hid (HNO.out hq)
                  rw [hq] at HCT
                  clear hq HNK HNO
                  go_wp2_with fail
                  refine (HCT.out _).mono ?_
                  rintro e w5 ⟨rfl, b5'⟩
                  go_wp2
                  go_ret
                  exact ⟨by rw [HE.out]; rfl, below_then hb b5'⟩
                · have HE := Lib.hid (HNK.out hq)
                  rw [hq] at HCT
                  clear hq HNK HNO
                  go_wp2_with fail
                  refine (HCT.out _).mono ?_
                  rintro e w5 ⟨rfl, b5'⟩
                  have HRa := Lib.hid (HR.out.below b5')
                  have HRb := Lib.hid (HR3.out.below b5')
                  have HRc := Lib.hid (HR4.out.below b5')
                  go_wp2
                  go_roundw
                  case rel => exact ⟨o + 1, ho1, by go_num, below_then hb b5', HRa, HRb, HRc, HE⟩
                  case measure => simp [intOf]; omega
              · obtain rfl : o = L4.length := by omega
                have HU := Lib.hid (HNJ.out (fun k hk d1 d2 d3 => HK.out k hk (by rw [List.take_length]; exact H4.out k hk (fun e => d2 e.symm) (fun e => d3 e.symm)) d1 d2 d3))
                go_wp2
                go_roundw
                case rel => exact ⟨m + 1, hm1, by go_num, hb, HR, HR3, HU⟩
                case measure => simp [intOf]; omega
          · obtain rfl : m = L3.length := by omega
            have HU := Lib.hid (HNI.out (fun j hj k hk d1 d2 d3 => HJ.out j hj (by rw [List.take_length]; exact H3.out j hj (fun e => d1 e.symm)) k hk d1 d2 d3))
            go_wp2
            go_roundw
            case rel => exact ⟨n + 1, hn1, by go_num, hb, HR, HU⟩
            case measure => simp [intOf]; omega
      · obtain rfl : n = L.length := by omega
        have HE := Lib.hid (HY.out (fun i hi j hj k hk d1 d2 d3 => HI.out i hi (by rw [List.take_length]; exact H7.out i hi) j hj k hk d1 d2 d3))
        go_wp2
        go_ret
        exact ⟨by rw [HE.out]; rfl, hb⟩
  · rw [mdB_false hv] at HV
    have HE := Lib.hid (thB_false (t := t) (fun h => hv ⟨h.1, h.2.1⟩))
    clear hv
    go_enter Try.func31, Try.ntmps31
    go_wp2_with (go_at_call 84; refine HV.out.mono ?_; rintro e w1 ⟨rfl, hb⟩)
    go_ret
    exact ⟨by rw [HE.out]; rfl, hb⟩

theorem SwapsByThrees_both (xs : List Int) (hl : xs.length ≤ 1048576) : ∃ v,
    (∀ A c w, Rd w A c xs → Calls Try.prog 32 #[.slice A xs.length c] w fun e w' => e = .returned (.bool v) ∧ Below w.heap.size w w') ∧
    (∀ A c w, Rd w A c xs → Calls Try.prog 31 #[.slice A xs.length c] w fun e w' => e = .returned (.bool v) ∧ Below w.heap.size w w') :=
  ⟨thB xs, fun A c w h => SSwapsByThrees_any A c xs w h (by omega), fun A c w h => SwapsByThrees_any A c xs w h (by omega)⟩

end Go.Proofs.Ytfjncipekjnbjaa
