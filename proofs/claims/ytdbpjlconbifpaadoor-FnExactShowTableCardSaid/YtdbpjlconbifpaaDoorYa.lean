/-
  Chapter 4, the model: texts of tables: the contracts of showSet, showTable, ShowTable.
-/
import Derived.Test.YtdbpjlconbifpaaDoorTa
import Derived.Test.YtdbpjlconbifpaaDoorWg
namespace Go.Proofs.YtdbpjlconbifpaaDoor
open Go.RowKit Go.Lib

/-- The letters of the first k things of a set. -/
def lwTo (s : Nat) : Nat → List UInt8
  | 0 => []
  | k + 1 => if s / 2 ^ k % 2 = 1 then lwTo s k ++ [UInt8.ofNat (97 + k)] else lwTo s k
theorem Rd.some_8 {w : World} {A : Option Addr} {c : Nat} {t : List Int} (h : Rd w A c t) (hl : t.length = 8) : ∃ b off, A = some ⟨b, off, none⟩ := by
  obtain ⟨b, off, _, hA, _⟩ := h.at_ (k := 0) (by omega)
  exact ⟨b, off, hA⟩
theorem lwTo_three {s : Nat} (hs : s < 8) : lwTo s 3 = lw s := by
  have : ∀ s, s < 8 → lwTo s 3 = lw s := by decide
  exact this s hs
theorem lwTo_len (s : Nat) : ∀ k, (lwTo s k).length ≤ k
  | 0 => by simp [lwTo]
  | k + 1 => by
    have := lwTo_len s k
    simp only [lwTo]
    split
    · simp; omega
    · omega
theorem letter_at {j : Nat} (hj : j < 3) : ByteArray.extract ⟨#[97, 98, 99]⟩ j (j + 1) = sB [UInt8.ofNat (97 + j)] := by
  rcases nat3 hj with rfl | rfl | rfl <;> rfl

set_option maxHeartbeats 1000000 in
theorem SshowSet_any (s : Nat) (hs : s < 8) (w : World) :
    Calls Tryd.prog 18 #[.int .i64 (s : Int)] w (TextIs w (lw s)) := by
  have HB := Lib.hid (fun (j : Nat) (hj : j < 3) (w : World) => Sbit_any s j hs hj w)
  have HL := Lib.hid (lwTo_three hs)
  clear hs
  go_enter Tryd.func18, Tryd.ntmps18
  go_wp2
  go_loopw [3, 4] (fun o i wr => ∃ (j n : Nat) (l : List UInt8), j ≤ 3 ∧ i = .int .i64 j ∧ o = .string (sB l) ∧ Hid (l = lwTo s j) ∧ wr = w.drewN n) (fun _ i _ => 3 - (intOf i).toNat)
  case atStart => exact ⟨0, 0, [], by omega, rfl, rfl, Lib.hid rfl, rfl⟩
  case round =>
    obtain ⟨j, n, l, hj, rfl, rfl, HLJ, rfl⟩ := hrel
    by_cases hlt : j < 3
    · have hll : l.length ≤ 3 := by have := lwTo_len s j; rw [HLJ.out]; omega
      have hr := sB_room (a := l) (b := [UInt8.ofNat (97 + j)]) (by simp; omega)
      have hex := letter_at hlt
      have HBJ := Lib.hid (HB.out j hlt)
      have hap := sB_append l [UInt8.ofNat (97 + j)]
      have hj0 : (0 : Int) ≤ (j : Int) := by omega
      have hj3 : (j : Int) < 3 := by omega
      by_cases hb : s / 2 ^ j % 2 = 1
      · rw [hb] at HBJ
        have HS : Hid (l ++ [UInt8.ofNat (97 + j)] = lwTo s (j + 1)) := Lib.hid (by simp only [lwTo]; rw [if_pos hb, HLJ.out])
        clear hb hll
        go_wp2_with fail
        refine (HBJ.out _).mono ?_
        rintro e w1 ⟨rfl, rfl⟩
        go_wp2
        go_roundw
        case rel => exact ⟨j + 1, _, l ++ [UInt8.ofNat (97 + j)], by omega, by go_num, by rw [← hap]; simp, HS, rfl⟩
        case measure => simp [intOf]; omega
      · have hb0 : s / 2 ^ j % 2 = 0 := by omega
        rw [hb0] at HBJ
        have HS : Hid (l = lwTo s (j + 1)) := Lib.hid (by simp only [lwTo]; rw [if_neg hb, HLJ.out])
        clear hb hb0 hll
        go_wp2_with fail
        refine (HBJ.out _).mono ?_
        rintro e w1 ⟨rfl, rfl⟩
        go_wp2
        go_roundw
        case rel => exact ⟨j + 1, _, l, by omega, by go_num, rfl, HS, rfl⟩
        case measure => simp [intOf]; omega
    · obtain rfl : j = 3 := by omega
      have HS : Hid (l = lw s) := Lib.hid (by rw [HLJ.out, HL.out])
      go_wp2
      go_ret
      exact ⟨by rw [← HS.out]; rfl, n, rfl⟩


theorem join_snoc1 (x : List UInt8) (r : List (List UInt8)) (w sep : List UInt8) : join ((x :: r) ++ [w]) sep = join (x :: r) sep ++ sep ++ w := by
  rw [List.cons_append, join_cons, join_cons]
  simp [joinTail]
/-- The text of offers, and of one more. -/
theorem textX_snoc (os : Offers) (o : Nat × Nat) : textX (os ++ [o]) = (if os = [] then [] else textX os ++ [32, 120, 111, 114, 32]) ++ word o := by
  cases os with
  | nil => simp [textX, text, join_one]
  | cons p r =>
    have h1 : textX ((p :: r) ++ [o]) = text true ((p :: r) ++ [o]) := by unfold textX; rw [if_neg (by simp)]
    have h2 : textX (p :: r) = text true (p :: r) := by unfold textX; rw [if_neg (by simp)]
    rw [h1, h2, if_neg (by simp)]
    unfold text
    rw [List.map_append, List.map_cons, List.map_cons, List.map_nil, join_snoc1]
    rfl
theorem word_len {o : Nat × Nat} (h1 : o.1 < 8) (h2 : o.2 ≤ 30) : 1 ≤ (word o).length ∧ (word o).length ≤ 6 := by
  have hl : ∀ s, s < 8 → (lw s).length ≤ 3 := by decide
  have h3 := hl o.1 h1
  have h4 : (decDigits o.2).length ≤ 2 := by rw [dec_small h2]; unfold dec30; split <;> simp
  unfold word
  simp; omega
theorem textX_len {os : Offers} : ∀ (n : Nat), os.length = n → (∀ o ∈ os, o.1 < 8 ∧ o.2 ≤ 30) → (textX os).length ≤ 11 * n ∧ (os ≠ [] → textX os ≠ []) := by
  intro n
  induction n generalizing os with
  | zero => intro h _; obtain rfl := List.eq_nil_of_length_eq_zero h; simp [textX]
  | succ n ih =>
    intro h ho
    obtain ⟨ps, p, rfl⟩ : ∃ ps p, os = ps ++ [p] := ⟨os.dropLast, os.getLast (by intro e; rw [e] at h; simp at h), (List.dropLast_concat_getLast _).symm⟩
    have h1 := (ih (os := ps) (by simpa using h) (fun o hx => ho o (by simp [hx]))).1
    obtain ⟨h2, h3⟩ := word_len (o := p) (ho p (by simp)).1 (ho p (by simp)).2
    rw [textX_snoc]
    refine ⟨?_, fun _ e => ?_⟩
    · split <;> simp <;> omega
    · have e2 := (List.append_eq_nil_iff.1 e).2
      rw [e2] at h2
      simp at h2
theorem shTo_zero {t : List Int} (h : VT t) : shTo t 1 = [] := by rw [shTo, if_neg (by rw [(bl_vals t).1, h.2.1]; omega), shTo]
theorem shTo_bd {t : List Int} (h : VT t) {k : Nat} (hk : k ≤ 8) : ∀ o ∈ shTo t k, o.1 < 8 ∧ o.2 ≤ 30 := fun o ho => by
  obtain ⟨h1, _, h3⟩ := shTo_mem.1 ho
  have hb := (h.2.2 o.1 (by omega)).1
  omega
theorem shTo_le {t : List Int} : ∀ k, (shTo t k).length ≤ k
  | 0 => by simp [shTo]
  | k + 1 => by
    have := shTo_le (t := t) k
    simp only [shTo]
    split
    · simp; omega
    · omega
theorem blTo_bd {t : List Int} (h : VT t) {s : Nat} (hs : s < 8) : ∀ k, k ≤ 3 → 0 ≤ blTo t s k ∧ blTo t s k ≤ 30
  | 0, _ => by simp [blTo]
  | k + 1, hk => by
    have h1 := blTo_bd h hs k (by omega)
    have h2 := (h.2.2 (s - 2 ^ k) (Nat.lt_of_le_of_lt (Nat.sub_le _ _) hs)).1
    simp only [blTo]
    split <;> omega

theorem calls_q6 {P : Program} {f : FuncId} {args : Array Value} {w : World} {m n : Nat} {v : Value} (h : Calls P f args (w.drewN (m + n)) fun e w' => e = .returned v ∧ ∃ k, w' = (w.drewN (m + n)).drewN k) :
    Calls P f args (w.drewN (m + n)) fun e w'' => e = .returned v ∧ ∃ k, w'' = w.drewN (m + k) := h.mono fun _ _ ⟨he, k, hw⟩ => ⟨he, n + k, by rw [hw]; simp [Nat.add_assoc]⟩

set_option maxHeartbeats 4000000 in
theorem SshowTable_any (A : Option Addr) (c : Nat) (t : List Int) (w : World) (h : Rd w A c t) (hv : VT t) :
    Calls Tryd.prog 9 #[.slice A 8 c] w (TextIs w (textX (shF t))) := by
  have HV := Lib.hid hv
  have h8 : t.length = 8 := hv.1
  obtain ⟨b, off, rfl⟩ := h.some_8 h8
  have HR := Lib.hid h
  have HL8 := Lib.hid h8
  clear hv h8 h
  go_enter Tryd.func9, Tryd.ntmps9
  go_wp2
  go_loopw [3, 4] (fun o i wr => ∃ (s n : Nat) (l : List UInt8), 1 ≤ s ∧ s ≤ 8 ∧ i = .int .i64 s ∧ o = .string (sB l) ∧ Hid (l = textX (shTo t s)) ∧ wr = w.drewN n) (fun _ i _ => 8 - (intOf i).toNat)
  case atStart => exact ⟨1, 0, [], by omega, by omega, rfl, rfl, Lib.hid (by rw [shTo_zero HV.out]; rfl), rfl⟩
  case round =>
    obtain ⟨s, n, l, hs1, hs8, rfl, rfl, HLS, rfl⟩ := hrel
    by_cases hlt : s < 8
    · have hsd : decide ((s : Int) < 8) = true := by simp; omega
      go_wp2_with fail
      go_loopw [5, 6] (fun o i wr => ∃ (j n : Nat) (z : Int), j ≤ 3 ∧ i = .int .i64 j ∧ o = .int .i64 z ∧ Hid (z = blTo t s j) ∧ wr = w.drewN n) (fun _ i _ => 3 - (intOf i).toNat)
      case atStart => exact ⟨0, n, 0, by omega, rfl, rfl, Lib.hid rfl, rfl⟩
      case round =>
        obtain ⟨j, m, z, hj, rfl, rfl, HZ, rfl⟩ := hrel
        by_cases hjl : j < 3
        · have HB := Lib.hid (fun (w : World) => Sbit_any s j hlt hjl w)
          have hzb := blTo_bd HV.out hlt j (by omega)
          rw [← HZ.out] at hzb
          have hz0 := hzb.1
          have hz1 := hzb.2
          have hj3 : (j : Int) < 3 := by omega
          clear hzb
          by_cases hb : s / 2 ^ j % 2 = 1
          · rw [hb] at HB
            have HP := Lib.hid (fun (w : World) => Spower_any j (by omega) w)
            have hp8 : 2 ^ j ≤ s := by
              rcases Nat.lt_or_ge s (2 ^ j) with h1 | h1
              · rw [Nat.div_eq_of_lt h1] at hb; simp at hb
              · exact h1
            obtain ⟨p, hp⟩ : ∃ p, p = 2 ^ j := ⟨_, rfl⟩
            rw [← hp] at HP hp8
            obtain ⟨b3, o3, x, hA, _, hx, hcx⟩ := HR.out.at_ (k := s - p) (by rw [HL8.out]; omega)
            cases hA
            have hxe := T_of hx.out
            have hxb := (HV.out.2.2 (s - p) (by omega)).1
            rw [hxe] at hxb
            have HZ2 : Hid ((if z < x then x else z) = blTo t s (j + 1)) := Lib.hid (by simp only [blTo]; rw [if_pos hb, ← HZ.out, ← hp, hxe]; split <;> omega)
            obtain ⟨q, hq⟩ : ∃ q, q = s - p := ⟨_, rfl⟩
            rw [← hq] at hcx
            have e1 : IntKind.i64.wrap ((s : Int) - (p : Int)) = (q : Int) := by rw [hq, show (s : Int) - (p : Int) = ((s - p : Nat) : Int) by omega]; exact IntWalk.i64_in _ (by omega)
            have hq0 : (0 : Int) ≤ (q : Int) := by omega
            have hq8 : (q : Int) < 8 := by omega
            clear hb hp hx hxe hxb hq hp8
            go_wp2_with fail
            refine (HB.out _).mono ?_
            rintro e w1 ⟨rfl, rfl⟩
            go_wp2_with fail
            refine (HP.out _).mono ?_
            rintro e w2 ⟨rfl, rfl⟩
            go_wp2
            go_roundw
            case rel => exact ⟨j + 1, _, _, by omega, by go_num, rfl, HZ2, rfl⟩
            case measure => simp [intOf]; omega
          · have hb0 : s / 2 ^ j % 2 = 0 := by omega
            rw [hb0] at HB
            have HZ2 : Hid (z = blTo t s (j + 1)) := Lib.hid (by simp only [blTo]; rw [if_neg hb, HZ.out])
            clear hb hb0
            go_wp2_with fail
            refine (HB.out _).mono ?_
            rintro e w1 ⟨rfl, rfl⟩
            go_wp2
            go_roundw
            case rel => exact ⟨j + 1, _, z, by omega, by go_num, rfl, HZ2, rfl⟩
            case measure => simp [intOf]; omega
        · obtain rfl : j = 3 := by omega
          obtain ⟨b3, o3, x, hA, _, hx, hcx⟩ := HR.out.at_ (k := s) (by rw [HL8.out]; exact hlt)
          cases hA
          have hxe := T_of hx.out
          have hxb := (HV.out.toI hlt).1
          have hbl := (HV.out.toI hlt).2
          rw [hxe] at hxb hbl
          have hzl : z = bl t s := HZ.out
          rw [← hzl] at hbl
          by_cases hxz : x = z
          · have q1 : (x == z) = true := by simpa using hxz
            have HS2 : Hid (l = textX (shTo t (s + 1))) := Lib.hid (by simp only [shTo]; rw [if_neg (by rw [← hzl, hxe]; omega)]; exact HLS.out)
            clear hxe hxb hbl hzl hxz hx
            go_wp2
            go_roundw
            case rel => exact ⟨s + 1, _, l, by omega, by omega, by go_num, rfl, HS2, rfl⟩
            case measure => simp [intOf]; omega
          · have q1 : (x == z) = false := by simpa using hxz
            obtain ⟨v, rfl⟩ := Int.eq_ofNat_of_zero_le hxb.1
            have hv30 : v ≤ 30 := by omega
            have HS2 : Hid (textX (shTo t (s + 1)) = (if shTo t s = [] then [] else l ++ [32, 120, 111, 114, 32]) ++ word (s, v)) := Lib.hid (by
              simp only [shTo]
              rw [if_pos (by rw [← hzl, hxe]; omega), textX_snoc, hxe, ← HLS.out]; rfl)
            have hll := textX_len (os := shTo t s) _ rfl (shTo_bd HV.out (by omega))
            have hle := shTo_le (t := t) s
            have HSH := Lib.hid (fun n => calls_q6 (w := w) (m := m) (SshowSet_any s hlt (w.drewN (m + n))))
            have HNU := Lib.hid (fun n => calls_q6 (w := w) (m := m) (Snumber_any 1 v (by omega) (by omega) (w.drewN (m + n))))
            have hsw : ∀ s, s < 8 → (lw s).length ≤ 3 := by decide
            have hw3 := hsw s hlt
            have hd2 : (decDigits v).length ≤ 2 := by rw [dec_small hv30]; unfold dec30; split <;> simp
            rw [← HLS.out] at hll
            have hs0 : (0 : Int) ≤ (s : Int) := by omega
            by_cases hos : shTo t s = []
            · have hl : l = [] := by rw [HLS.out, hos]; rfl
              have HS3 : Hid (textX (shTo t (s + 1)) = lw s ++ [58] ++ decDigits v) := Lib.hid (by rw [HS2.out, if_pos hos]; simp [word])
              subst hl
              clear HS2 hll hle hos hzl hxe hbl hxz hx hsw
              have HE0 : Hid ((sB [] ++ sB (lw s) ++ ({ data := #[58] } : ByteArray) ++ sB (decDigits v)) = sB (lw s ++ [58] ++ decDigits v)) := Lib.hid (by
                show sB [] ++ sB (lw s) ++ sB [58] ++ sB (decDigits v) = _
                rw [sB_append, sB_append, sB_append, List.nil_append])
              have HS3b : Hid (lw s ++ [58] ++ decDigits v = textX (shTo t (s + 1))) := Lib.hid HS3.out.symm
              have hem0 : (sB []).toList.isEmpty = true := by simp [sB, ByteArray.toList_eq]
              have r1 : ¬ 9223372036854775807 < (sB []).size + (sB (lw s)).size := by rw [sB_size, sB_size]; simp; omega
              have r2 : ¬ 9223372036854775807 < (sB []).size + (sB (lw s)).size + 1 := by rw [sB_size, sB_size]; simp; omega
              have r3 : ¬ 9223372036854775807 < (sB []).size + (sB (lw s)).size + 1 + (sB (decDigits v)).size := by rw [sB_size, sB_size, sB_size]; simp; omega
              go_wp2_with fail
              go_quiet (first | (go_at_call 18; exact HSH.out _) | (go_at_call 19; exact HNU.out _))
              go_wp2
              go_roundw
              case rel => exact ⟨s + 1, _, _, by omega, by omega, by go_num, by rw [HE0.out], HS3b, rfl⟩
              case measure => simp [intOf]; omega
            · have hl := hll.2 hos
              have HS3 : Hid (textX (shTo t (s + 1)) = l ++ [32, 120, 111, 114, 32] ++ lw s ++ [58] ++ decDigits v) := Lib.hid (by rw [HS2.out, if_neg hos]; simp [word])
              have hle2 := hll.1
              have hem : (sB l).toList.isEmpty = false := by
                cases l with
                | nil => exact absurd rfl hl
                | cons a r => simp [sB, ByteArray.toList_eq]
              clear HS2 hll hos hzl hxe hbl hxz hx hsw hl
              have HE1 : Hid ((sB l ++ ({ data := #[32, 120, 111, 114, 32] } : ByteArray) ++ sB (lw s) ++ ({ data := #[58] } : ByteArray) ++ sB (decDigits v)) = sB (l ++ [32, 120, 111, 114, 32] ++ lw s ++ [58] ++ decDigits v)) := Lib.hid (by
                show sB l ++ sB [32, 120, 111, 114, 32] ++ sB (lw s) ++ sB [58] ++ sB (decDigits v) = _
                rw [sB_append, sB_append, sB_append, sB_append])
              have HS3b : Hid (l ++ [32, 120, 111, 114, 32] ++ lw s ++ [58] ++ decDigits v = textX (shTo t (s + 1))) := Lib.hid HS3.out.symm
              have r0 : ¬ 9223372036854775807 < (sB l).size + 5 := by rw [sB_size]; omega
              have r1 : ¬ 9223372036854775807 < (sB l).size + 5 + (sB (lw s)).size := by rw [sB_size, sB_size]; omega
              have r2 : ¬ 9223372036854775807 < (sB l).size + 5 + (sB (lw s)).size + 1 := by rw [sB_size, sB_size]; omega
              have r3 : ¬ 9223372036854775807 < (sB l).size + 5 + (sB (lw s)).size + 1 + (sB (decDigits v)).size := by rw [sB_size, sB_size, sB_size]; omega
              go_wp2_with fail
              go_quiet (first | (go_at_call 18; exact HSH.out _) | (go_at_call 19; exact HNU.out _))
              go_wp2
              go_roundw
              case rel => exact ⟨s + 1, _, _, by omega, by omega, by go_num, by rw [HE1.out], HS3b, rfl⟩
              case measure => simp [intOf]; omega
    · obtain rfl : s = 8 := by omega
      have HE := Lib.hid HLS.out
      go_wp2
      go_ret
      exact ⟨by rw [show shF t = shTo t 8 from rfl, ← HE.out]; rfl, n, rfl⟩


open Classical in
/-- What ShowTable tells. -/
noncomputable def stF (t : List Int) : List UInt8 := if VT t then textX (shF t) else []
set_option maxHeartbeats 400000 in
theorem SShowTable_any (A : Option Addr) (c : Nat) (t : List Int) (w : World) (h : Rd w A c t) (hl : t.length ≤ 1099511627776) :
    Calls Tryd.prog 4 #[.slice A t.length c] w (TextIs w (stF t)) := by
  have HV := Lib.hid (SvalidTable_any A c t w h hl)
  by_cases hv : VT t
  · rw [vt_true hv, hv.1] at HV
    have HS := Lib.hid (fun n => SshowTable_any A c t (w.drewN n) (h.drewN n) hv)
    rw [show stF t = textX (shF t) from if_pos hv, hv.1]
    clear hv h hl
    go_enter Tryd.func4, Tryd.ntmps4
    go_wp2_with fail
    refine HV.out.mono ?_
    rintro e w1 ⟨rfl, n, rfl⟩
    go_wp2_with fail
    refine (HS.out n).mono ?_
    rintro e w2 ⟨rfl, m, rfl⟩
    go_wp2
    go_ret
    exact ⟨rfl, n + m, by simp⟩
  · rw [vt_false hv] at HV
    rw [show stF t = [] from if_neg hv]
    clear hv h hl
    go_enter Tryd.func4, Tryd.ntmps4
    go_wp2_with fail
    refine HV.out.mono ?_
    rintro e w1 ⟨rfl, n, rfl⟩
    go_wp2
    go_ret
    exact ⟨rfl, n, rfl⟩

end Go.Proofs.YtdbpjlconbifpaaDoor
