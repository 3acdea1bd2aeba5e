/-
  Chapter 4, the model: texts: the contract of number.
-/
import Derived.Test.YtpildecpabeanaaG04
import Derived.Test.YtpildecpabeanaaWp
import Derived.Maps.AppendAt
import Derived.Test.YtpildecpabeanaaG08
namespace Go.Proofs.Ytpildecpabeanaa
open Go.RowKit Go.Lib

/-- A text by its bytes. -/
def sB (l : List UInt8) : ByteArray := ⟨l.toArray⟩
theorem sB_append (a b : List UInt8) : sB a ++ sB b = sB (a ++ b) := by
  unfold sB
  apply ByteArray.ext
  simp [ByteArray.data_append]
theorem sB_list (s : ByteArray) : sB s.data.toList = s := by unfold sB; simp
theorem sB_size (l : List UInt8) : (sB l).size = l.length := by unfold sB; simp [ByteArray.size]
theorem digit_at {n : Nat} (hn : n < 10) : ByteArray.extract ⟨#[48, 49, 50, 51, 52, 53, 54, 55, 56, 57]⟩ n (n + 1) = sB (decDigits n) := by
  rw [dec_small (by omega)]
  have : n = 0 ∨ n = 1 ∨ n = 2 ∨ n = 3 ∨ n = 4 ∨ n = 5 ∨ n = 6 ∨ n = 7 ∨ n = 8 ∨ n = 9 := by omega
  rcases this with rfl | rfl | rfl | rfl | rfl | rfl | rfl | rfl | rfl | rfl <;> rfl

theorem dec_len : ∀ (n : Nat), (decDigits n).length ≤ n + 1 := by
  intro n
  induction n using Nat.strongRecOn with
  | _ n ih =>
    rw [decDigits]
    split
    · simp
    · have := ih (n / 10) (by omega)
      simp; omega
theorem sB_room {a b : List UInt8} (h : a.length + b.length ≤ 1152921504606846976) : ¬ 9223372036854775807 < (sB a).size + (sB b).size := by
  rw [sB_size, sB_size]; omega

/-- What a call hands back: a text. -/
def TextIs (w : World) (l : List UInt8) (e : Ending) (w' : World) : Prop := e = .returned (.string (sB l)) ∧ ∃ m, w' = w.drewN m

set_option maxHeartbeats 800000 in
theorem Snumber_one (n : Nat) (hn : n < 10) (w : World) :
    Calls Try.prog 183 #[.int .i64 (n : Int)] w (TextIs w (decDigits n)) := by
  have h0 : ¬ (n : Int) < 0 := by omega
  have h1 : (n : Int) < 10 := by omega
  go_enter Try.func183, Try.ntmps183
  go_wp2
  go_ret
  refine ⟨?_, 0, rfl⟩
  rw [← digit_at hn]
  rfl

set_option maxHeartbeats 800000 in
theorem Snumber_any : ∀ (k n : Nat), n < 10 ^ (k + 1) → k ≤ 8 → ∀ (w : World),
    Calls Try.prog 183 #[.int .i64 (n : Int)] w (TextIs w (decDigits n)) := by
  intro k
  induction k with
  | zero => intro n hn _ w; exact Snumber_one n (by simpa using hn) w
  | succ k ih =>
    intro n hn hk w
    by_cases hlt : n < 10
    · exact Snumber_one n hlt w
    · have hp : n < 10000000000 := Nat.lt_of_lt_of_le hn (Nat.pow_le_pow_right (by decide) (by omega : k + 1 + 1 ≤ 10))
      have hq : n / 10 < 10 ^ (k + 1) := by rw [Nat.pow_succ] at hn; omega
      have HQ : Hid (∀ w, Calls Try.prog 183 #[.int .i64 ((n : Int) / 10)] w (TextIs w (decDigits (n / 10)))) := Lib.hid (fun w => by rw [show (n : Int) / 10 = ((n / 10 : Nat) : Int) by omega]; exact ih (n / 10) hq (by omega) w)
      have HR : Hid (∀ w, Calls Try.prog 183 #[.int .i64 ((n : Int) % 10)] w (TextIs w (decDigits (n % 10)))) := Lib.hid (fun w => by rw [show (n : Int) % 10 = ((n % 10 : Nat) : Int) by omega]; exact Snumber_one (n % 10) (by omega) w)
      have HD : Hid (decDigits n = decDigits (n / 10) ++ decDigits (n % 10)) := Lib.hid (by
        rw [decDigits, dif_neg hlt, decDigits.eq_def (n % 10), dif_pos (by omega)])
      have h0 : ¬ (n : Int) < 0 := by omega
      have h1 : ¬ (n : Int) < 10 := by omega
      have hr := sB_room (a := decDigits (n / 10)) (b := decDigits (n % 10)) (by have := dec_len (n / 10); have := dec_len (n % 10); omega)
      clear ih hq hn hlt
      go_enter Try.func183, Try.ntmps183
      go_wp2_with fail
      refine (HQ.out _).mono ?_
      rintro e w1 ⟨rfl, m1, rfl⟩
      go_wp2_with fail
      refine (HR.out _).mono ?_
      rintro e w2 ⟨rfl, m2, rfl⟩
      go_wp2
      go_ret
      refine ⟨?_, m1 + m2, by simp⟩
      rw [HD.out, ← sB_append]
      rfl

end Go.Proofs.Ytpildecpabeanaa

/-
  Chapter 4, the model: texts: the contract of splitAt.
-/
namespace Go.Proofs.Ytpildecpabeanaa
open Go.RowKit Go.Lib

theorem sB_at (s : ByteArray) {k : Nat} (h : k < s.size) : s.data.toList[k]? = some (s[k]'h) := by
  rw [Array.getElem?_toList]; exact Array.getElem?_eq_getElem h
theorem sB_extract (s : ByteArray) (f k : Nat) : s.extract f k = sB ((s.data.toList.drop f).take (k - f)) := by
  apply ByteArray.ext
  rw [ByteArray.data_extract]
  apply Array.ext'
  simp [sB, List.extract]

/-- Words in a block of the call's own. -/
def OwnW (w : World) (B : Nat) (v : Value) (ws : List (List UInt8)) : Prop := w.ownsRow B 9 1 v ws.length (ws.map (fun l => Value.string (sB l)))
theorem str_info : (Try.prog.info? 9).map (fun i => (i.zero, i.size, i.bytes)) = some (some (.string ⟨#[]⟩), 1, 16) := by kernel_rfl
theorem ownW_empty (w : World) : OwnW (w.alloc (.cells #[] 9)) w.heap.size (.slice (some ⟨w.heap.size, 0, none⟩) 0 0) [] :=
  World.ownsRow_lit w #[] 0 (Nat.le_refl _) (Nat.zero_le _) rfl
theorem OwnW.below {w w' : World} {B : Nat} {v : Value} {ws : List (List UInt8)} (h : OwnW w B v ws) (hb : Below w.heap.size w w') : OwnW w' B v ws :=
  World.ownsRow.kept h (row := none) ⟨hb.os, hb.tape, hb.output, hb.size, fun i hi _ => hb.block i hi⟩ (by cases v.ownBlock <;> simp)

theorem OwnW.shape {w : World} {B : Nat} {v : Value} {ws : List (List UInt8)} (h : OwnW w B v ws) : (v = .slice none 0 0 ∧ ws = []) ∨ ∃ g c, v = .slice (some ⟨g, 0, none⟩) ws.length c := by
  rcases h.2 with ⟨hv, h2⟩ | ⟨g, cap, cur, hv, _⟩
  · exact .inl ⟨hv, by have h3 := h.1; rw [h2] at h3; simpa using h3⟩
  · exact .inr ⟨g, cap, hv⟩

theorem wpList_append_word {ops : Array Oper} {rest : List Oper} {o : Oper} {a : Act} {w : World} {Q : Exit → Act → World → Prop} (hgd : o.guard = none) (s x : Operand)
    (ho : o.op = .call { callee := .builtin .append, args := #[s, x], argTypes := #[131, 131] })
    (w0 : World) (B : Nat) (v : Value) (ws : List (List UInt8)) (hs : a.eval s = v) (hown : OwnW w B v ws) (g : Nat) (l : List UInt8) (hx : a.eval x = .slice (some ⟨g, 0, none⟩) 1 1)
    (hc : w.cell? ⟨g, 0, none⟩ = some (.string (sB l))) (hn : ws.length ≤ 1099511627776) (hB : B ≤ w.heap.size) (hb : Below B w0 w)
    (h : ∀ v' w', OwnW w' B v' (ws ++ [l]) → Below B w0 w' → wpList Try.prog ops Q rest (a.put o.dst v') w') :
    wpList Try.prog ops Q (o :: rest) a w := by
  obtain ⟨i0, hi, hz0, hz1, hz2⟩ := info_parts str_info
  refine wpList_append_own_at _ hgd s x 131 ho B 9 i0 (.string ⟨#[]⟩) 1 16 Try.underlying131 hi hz0 hz1 hz2 rfl (by decide) v ws.length (ws.map (fun l => Value.string (sB l))) hs hown ⟨g, 0, none⟩ 1 1 [.string (sB l)] hx rfl ?_ (by simp [Value.oneCell']) (by unfold maxLen; omega) (by omega) hB ?_
  · intro j u hu
    rcases j with _ | j
    · simp at hu; subst hu; exact hc
    · simp at hu
  · intro v' w' h1 h2 _ _
    refine h v' w' ?_ (hb.grown h2 hB (fun k e => (World.ownsRow.lt hown k e).1))
    unfold OwnW
    rw [List.length_append, List.map_append]
    exact h1

set_option maxHeartbeats 800000 in
theorem SsplitAt_any (s : ByteArray) (c : UInt8) (w : World) (hs : s.size ≤ 1099511627776) :
    Calls Try.prog 178 #[.string s, .int .u8 (c.toNat : Int)] w fun e w' => ∃ v, e = .returned v ∧ OwnW w' w.heap.size v (spl c s.data.toList) ∧ Below w.heap.size w w' := by
  obtain ⟨l, hl⟩ : ∃ l, l = s.data.toList := ⟨_, rfl⟩
  have HSZ : Hid (s.size = l.length) := Lib.hid (by rw [hl, Array.length_toList]; rfl)
  have HAT : Hid (∀ k (h : k < s.size), l[k]? = some (s[k]'h)) := Lib.hid (fun k h => by rw [hl]; exact sB_at s h)
  have HEX : Hid (∀ f k, s.extract f k = sB ((l.drop f).take (k - f))) := Lib.hid (fun f k => by rw [hl]; exact sB_extract s f k)
  rw [← hl]
  clear hl
  go_enter Try.func178, Try.ntmps178
  go_wp2
  go_loopw [5, 6, 7] (fun o f i wr => ∃ (f' k g cc : Nat) (ws : List (List UInt8)), o = .slice (some ⟨g, 0, none⟩) ws.length cc ∧ f = .int .i64 (f' : Int) ∧ i = .int .i64 (k : Int) ∧ f' ≤ k ∧ k ≤ s.size ∧ Hid (OwnW wr w.heap.size (.slice (some ⟨g, 0, none⟩) ws.length cc) ws) ∧ Hid (ws.length ≤ f' ∧ spl c l = ws ++ spl c (l.drop f') ∧ ∀ j, f' ≤ j → j < k → l[j]? ≠ some c) ∧ Below w.heap.size w wr)
    (fun _ _ i _ => s.size - (intOf i).toNat)
  case atStart => exact ⟨0, 0, w.heap.size, 0, [], rfl, rfl, rfl, Nat.le_refl _, Nat.zero_le _, Lib.hid (ownW_empty w), Lib.hid ⟨by simp, by rw [List.drop_zero, List.nil_append], fun j h1 h2 => by omega⟩, (Below.refl _ w).alloc (Nat.le_refl _) _⟩
  case round =>
    obtain ⟨f', k, g, cc, ws, rfl, rfl, rfl, hfk, hks, HO, HS, hb⟩ := hrel
    by_cases hlt : k < s.size
    · by_cases hc : s[k]'hlt = c
      · have e1 : (((s[k]'hlt).toNat : Int) == (c.toNat : Int)) = true := by rw [hc]; simp
        have HN : Hid (ws.length + 1 ≤ k + 1 ∧ spl c l = (ws ++ [(l.drop f').take (k - f')]) ++ spl c (l.drop (k + 1))) := Lib.hid ⟨by have := HS.out.1; omega, by
          rw [HS.out.2.1, spl_at hfk HS.out.2.2 (by rw [HAT.out k hlt, hc])]; simp⟩
        have hwl : ws.length ≤ 1099511627776 := by have := HS.out.1; omega
        have HOW : Hid (OwnW (wr.alloc (.cells #[.string (s.extract f' k)] 9)) w.heap.size (.slice (some ⟨g, 0, none⟩) ws.length cc) ws) := Lib.hid (World.ownsRow.alloc HO.out _)
        have HC : Hid ((wr.alloc (.cells #[.string (s.extract f' k)] 9)).cell? ⟨wr.heap.size, 0, none⟩ = some (.string (sB ((l.drop f').take (k - f'))))) := Lib.hid (by rw [← HEX.out]; exact cell_one_new _ _ _ 0 _ rfl)
        clear hc HS HO
        go_wp2_with (at_builtin; refine wpList_append_word rfl _ _ rfl w w.heap.size _ ws rfl HOW.out wr.heap.size _ rfl HC.out hwl (by have := hb.size; simp; omega) (hb.alloc hb.size _) ?_; intro v' w2 ho2 hb2)
        obtain ⟨g', c', rfl⟩ : ∃ g' c', v' = .slice (some ⟨g', 0, none⟩) (ws.length + 1) c' := by
          rcases ho2.shape with ⟨_, h⟩ | ⟨g', c', h⟩
          · simp at h
          · exact ⟨g', c', by rw [h]; simp⟩
        go_wp2
        go_roundw
        case rel => exact ⟨k + 1, k + 1, g', c', ws ++ [(l.drop f').take (k - f')], by rw [List.length_append]; rfl, by go_num, by go_num, Nat.le_refl _, by omega, Lib.hid (by rw [List.length_append]; exact ho2), Lib.hid ⟨by rw [List.length_append]; exact HN.out.1, HN.out.2, fun j h1 h2 => by omega⟩, hb2⟩
        case measure => simp [intOf]; omega
      · have e1 : (((s[k]'hlt).toNat : Int) == (c.toNat : Int)) = false := by
          rw [beq_eq_false_iff_ne]
          intro e
          exact hc (UInt8.toNat_inj.1 (by omega))
        have HS2 : Hid (ws.length ≤ f' ∧ spl c l = ws ++ spl c (l.drop f') ∧ ∀ j, f' ≤ j → j < k + 1 → l[j]? ≠ some c) := Lib.hid ⟨HS.out.1, HS.out.2.1, fun j h1 h2 => by
          rcases Nat.lt_or_ge j k with h | h
          · exact HS.out.2.2 j h1 h
          · obtain rfl : j = k := by omega
            rw [HAT.out j hlt]
            intro e
            injection e with e
            exact hc e⟩
        clear hc HS
        go_wp2
        go_roundw
        case rel => exact ⟨f', k + 1, g, cc, ws, rfl, rfl, by go_num, by omega, by omega, HO, HS2, hb⟩
        case measure => simp [intOf]; omega
    · obtain rfl : k = s.size := by omega
      have HN : Hid (spl c l = ws ++ [l.drop f']) := Lib.hid (by rw [HS.out.2.1, spl_end (fun j h1 h2 => HS.out.2.2 j h1 (by rw [HSZ.out]; exact h2))])
      have hwl : ws.length ≤ 1099511627776 := by have := HS.out.1; omega
      have HOW : Hid (OwnW (wr.alloc (.cells #[.string (s.extract f' s.size)] 9)) w.heap.size (.slice (some ⟨g, 0, none⟩) ws.length cc) ws) := Lib.hid (World.ownsRow.alloc HO.out _)
      have HC : Hid ((wr.alloc (.cells #[.string (s.extract f' s.size)] 9)).cell? ⟨wr.heap.size, 0, none⟩ = some (.string (sB (l.drop f')))) := Lib.hid (by
        rw [show l.drop f' = (l.drop f').take (s.size - f') by rw [HSZ.out, List.take_of_length_le (by simp)], ← HEX.out]; exact cell_one_new _ _ _ 0 _ rfl)
      clear hlt HS HO
      go_wp2_with (at_builtin; refine wpList_append_word rfl _ _ rfl w w.heap.size _ ws rfl HOW.out wr.heap.size _ rfl HC.out hwl (by have := hb.size; simp; omega) (hb.alloc hb.size _) ?_; intro v' w2 ho2 hb2)
      go_ret
      exact ⟨v', rfl, by rw [HN.out]; exact ho2, hb2⟩

end Go.Proofs.Ytpildecpabeanaa

/-
  Chapter 4, the model: texts: the contract of readSet.
-/
namespace Go.Proofs.Ytpildecpabeanaa
open Go.RowKit Go.Lib

/-- What readSet hands back. -/
def setN (v : Nat) : Int := if v = 0 then -1 else v

set_option maxHeartbeats 1600000 in
theorem SreadSet_any (s : ByteArray) (w : World) (hs : s.size ≤ 1099511627776) :
    Calls Try.prog 179 #[.string s] w fun e w' => ∃ v, SetIs s.data.toList v ∧ e = .returned (.int .i64 (setN v)) ∧ ∃ m, w' = w.drewN m := by
  obtain ⟨l, hl⟩ : ∃ l, l = s.data.toList := ⟨_, rfl⟩
  have HSZ : Hid (s.size = l.length) := Lib.hid (by rw [hl, Array.length_toList]; rfl)
  have HAT : Hid (∀ k (h : k < s.size), l[k]? = some (s[k]'h)) := Lib.hid (fun k h => by rw [hl]; exact sB_at s h)
  rw [← hl]
  clear hl
  go_enter Try.func179, Try.ntmps179
  go_wp2
  go_loopw [3, 4] (fun o i wr => ∃ (u k m : Nat), o = .int .i64 (u : Int) ∧ i = .int .i64 (k : Int) ∧ u < 8 ∧ k ≤ s.size ∧ Hid (l.take k = lw u) ∧ wr = w.drewN m) (fun _ i _ => s.size - (intOf i).toNat)
  case atStart => exact ⟨0, 0, 0, rfl, rfl, by omega, Nat.zero_le _, Lib.hid (by simp [lw]), rfl⟩
  case round =>
    obtain ⟨u, k, m, rfl, rfl, hu, hks, HS, rfl⟩ := hrel
    by_cases hlt : k < s.size
    · by_cases hj : ∃ j, j < 3 ∧ s[k]'hlt = UInt8.ofNat (97 + j) ∧ u < 2 ^ j
      · obtain ⟨j, hj3, hbj, huj⟩ := hj
        have HN := Lib.hid (lw_step hu hj3 huj)
        have HL : Hid (l.take (k + 1) = lw (u + 2 ^ j)) := Lib.hid (by rw [HN.out.2, List.take_add_one, HS.out, HAT.out k hlt, hbj]; rfl)
        have h8 := HN.out.1
        by_cases hk0 : k = 0
        · subst hk0
          rcases nat3 hj3 with rfl | rfl | rfl
          · have e1 : ((s[0]'hlt).toNat : Int) = 97 := by rw [hbj]; rfl
            have HP : Hid (∀ w1, Calls Try.prog 113 #[.int .i64 0] w1 fun e w' => e = .returned (.int .i64 1) ∧ w1 = w') := Lib.hid (fun w1 => Spower_any 0 (by omega) w1)
            clear hbj huj
            go_wp2_with fail
            go_region
            go_wp2_with fail
            refine (HP.out _).mono ?_
            rintro e w1 ⟨rfl, rfl⟩
            go_wp2
            go_roundw
            case rel => exact ⟨u + 2 ^ 0, _, _, by go_num, by go_num, h8, by omega, HL, rfl⟩
            case measure => simp [intOf]; omega
          · have e1 : ((s[0]'hlt).toNat : Int) = 98 := by rw [hbj]; rfl
            have HP : Hid (∀ w1, Calls Try.prog 113 #[.int .i64 1] w1 fun e w' => e = .returned (.int .i64 2) ∧ w1 = w') := Lib.hid (fun w1 => Spower_any 1 (by omega) w1)
            clear hbj huj
            go_wp2_with fail
            go_region
            go_wp2_with fail
            refine (HP.out _).mono ?_
            rintro e w1 ⟨rfl, rfl⟩
            go_wp2
            go_roundw
            case rel => exact ⟨u + 2 ^ 1, _, _, by go_num, by go_num, h8, by omega, HL, rfl⟩
            case measure => simp [intOf]; omega
          · have e1 : ((s[0]'hlt).toNat : Int) = 99 := by rw [hbj]; rfl
            have HP : Hid (∀ w1, Calls Try.prog 113 #[.int .i64 2] w1 fun e w' => e = .returned (.int .i64 4) ∧ w1 = w') := Lib.hid (fun w1 => Spower_any 2 (by omega) w1)
            clear hbj huj
            go_wp2_with fail
            go_region
            go_wp2_with fail
            refine (HP.out _).mono ?_
            rintro e w1 ⟨rfl, rfl⟩
            go_wp2
            go_roundw
            case rel => exact ⟨u + 2 ^ 2, _, _, by go_num, by go_num, h8, by omega, HL, rfl⟩
            case measure => simp [intOf]; omega
        · obtain ⟨i, rfl⟩ : ∃ i, k = i + 1 := ⟨k - 1, by omega⟩
          have hil : i < s.size := by omega
          have hah := (lw_ahead hu HS.out (HAT.out i hil) hj3).2 huj
          rcases nat3 hj3 with rfl | rfl | rfl
          · have e1 : ((s[i + 1]'hlt).toNat : Int) = 97 := by rw [hbj]; rfl
            have e2 : ((s[i]'hil).toNat : Int) < 97 := by have := UInt8.lt_iff_toNat_lt.1 hah; simp at this; omega
            clear hah
            have HP : Hid (∀ w1, Calls Try.prog 113 #[.int .i64 0] w1 fun e w' => e = .returned (.int .i64 1) ∧ w1 = w') := Lib.hid (fun w1 => Spower_any 0 (by omega) w1)
            clear hbj huj
            go_wp2_with fail
            go_region
            go_wp2_with fail
            refine (HP.out _).mono ?_
            rintro e w1 ⟨rfl, rfl⟩
            go_wp2
            go_roundw
            case rel => exact ⟨u + 2 ^ 0, _, _, by go_num, by go_num, h8, by omega, HL, rfl⟩
            case measure => simp [intOf]; omega
          · have e1 : ((s[i + 1]'hlt).toNat : Int) = 98 := by rw [hbj]; rfl
            have e2 : ((s[i]'hil).toNat : Int) < 98 := by have := UInt8.lt_iff_toNat_lt.1 hah; simp at this; omega
            clear hah
            have HP : Hid (∀ w1, Calls Try.prog 113 #[.int .i64 1] w1 fun e w' => e = .returned (.int .i64 2) ∧ w1 = w') := Lib.hid (fun w1 => Spower_any 1 (by omega) w1)
            clear hbj huj
            go_wp2_with fail
            go_region
            go_wp2_with fail
            refine (HP.out _).mono ?_
            rintro e w1 ⟨rfl, rfl⟩
            go_wp2
            go_roundw
            case rel => exact ⟨u + 2 ^ 1, _, _, by go_num, by go_num, h8, by omega, HL, rfl⟩
            case measure => simp [intOf]; omega
          · have e1 : ((s[i + 1]'hlt).toNat : Int) = 99 := by rw [hbj]; rfl
            have e2 : ((s[i]'hil).toNat : Int) < 99 := by have := UInt8.lt_iff_toNat_lt.1 hah; simp at this; omega
            clear hah
            have HP : Hid (∀ w1, Calls Try.prog 113 #[.int .i64 2] w1 fun e w' => e = .returned (.int .i64 4) ∧ w1 = w') := Lib.hid (fun w1 => Spower_any 2 (by omega) w1)
            clear hbj huj
            go_wp2_with fail
            go_region
            go_wp2_with fail
            refine (HP.out _).mono ?_
            rintro e w1 ⟨rfl, rfl⟩
            go_wp2
            go_roundw
            case rel => exact ⟨u + 2 ^ 2, _, _, by go_num, by go_num, h8, by omega, HL, rfl⟩
            case measure => simp [intOf]; omega
      · have HNO := Lib.hid (SetIs.no (l := l) (fun t ht => lw_stop hu HS.out (HAT.out k hlt) hj ht))
        by_cases h97 : ((s[k]'hlt).toNat : Int) < 97
        · clear hj
          go_wp2_with fail
          go_region
          go_wp2
          go_ret
          exact ⟨0, HNO.out, rfl, _, rfl⟩
        by_cases h100 : 99 < ((s[k]'hlt).toNat : Int)
        · have hb := (s[k]'hlt).toNat_lt
          obtain ⟨z, e1⟩ : ∃ z : Int, ((s[k]'hlt).toNat : Int) = z + 97 := ⟨((s[k]'hlt).toNat : Int) - 97, by omega⟩
          have hz1 : decide (z + 97 < 97) = false := by simp; omega
          have hz2 : decide (3 ≤ z) = true := by simp; omega
          have ew : IntKind.u8.wrap z = z := IntWalk.u8_in _ (by omega)
          have ew2 : IntKind.i64.wrap z = z := IntWalk.i64_in _ (by omega)
          clear hj hb h97 h100
          go_wp2_with fail
          go_region
          go_wp2
          go_ret
          exact ⟨0, HNO.out, rfl, _, rfl⟩
        by_cases hk0 : k = 0
        · exfalso
          subst hk0
          have hz : lw u = [] := by rw [← HS.out]; rfl
          have : ((s[0]'hlt).toNat : Int) = 97 ∨ ((s[0]'hlt).toNat : Int) = 98 ∨ ((s[0]'hlt).toNat : Int) = 99 := by omega
          rcases this with h | h | h
          · exact hj ⟨0, by omega, by apply UInt8.toNat_inj.1; show (s[0]'hlt).toNat = 97; omega, lw_first hu hz (by omega)⟩
          · exact hj ⟨1, by omega, by apply UInt8.toNat_inj.1; show (s[0]'hlt).toNat = 98; omega, lw_first hu hz (by omega)⟩
          · exact hj ⟨2, by omega, by apply UInt8.toNat_inj.1; show (s[0]'hlt).toNat = 99; omega, lw_first hu hz (by omega)⟩
        · obtain ⟨i, rfl⟩ : ∃ i, k = i + 1 := ⟨k - 1, by omega⟩
          have hil : i < s.size := by omega
          have : ((s[i + 1]'hlt).toNat : Int) = 97 ∨ ((s[i + 1]'hlt).toNat : Int) = 98 ∨ ((s[i + 1]'hlt).toNat : Int) = 99 := by omega
          rcases this with h | h | h
          · clear hk0
            have e1 : ((s[i + 1]'hlt).toNat : Int) = 97 := by omega
            have e2 : 97 ≤ ((s[i]'hil).toNat : Int) := by
              have := fun h : s[i]'hil < UInt8.ofNat (97 + 0) => hj ⟨0, by omega, by apply UInt8.toNat_inj.1; show (s[i + 1]'hlt).toNat = 97; omega, (lw_ahead hu HS.out (HAT.out i hil) (by omega : 0 < 3)).1 h⟩
              have h2 : ¬ (s[i]'hil).toNat < 97 := fun h => this (UInt8.lt_iff_toNat_lt.2 (by simpa using h))
              omega
            clear hj h97 h100
            go_wp2_with fail
            go_region
            go_wp2
            go_ret
            exact ⟨0, HNO.out, rfl, _, rfl⟩
          · clear hk0
            have e1 : ((s[i + 1]'hlt).toNat : Int) = 98 := by omega
            have e2 : 98 ≤ ((s[i]'hil).toNat : Int) := by
              have := fun h : s[i]'hil < UInt8.ofNat (97 + 1) => hj ⟨1, by omega, by apply UInt8.toNat_inj.1; show (s[i + 1]'hlt).toNat = 98; omega, (lw_ahead hu HS.out (HAT.out i hil) (by omega : 1 < 3)).1 h⟩
              have h2 : ¬ (s[i]'hil).toNat < 98 := fun h => this (UInt8.lt_iff_toNat_lt.2 (by simpa using h))
              omega
            clear hj h97 h100
            go_wp2_with fail
            go_region
            go_wp2
            go_ret
            exact ⟨0, HNO.out, rfl, _, rfl⟩
          · clear hk0
            have e1 : ((s[i + 1]'hlt).toNat : Int) = 99 := by omega
            have e2 : 99 ≤ ((s[i]'hil).toNat : Int) := by
              have := fun h : s[i]'hil < UInt8.ofNat (97 + 2) => hj ⟨2, by omega, by apply UInt8.toNat_inj.1; show (s[i + 1]'hlt).toNat = 99; omega, (lw_ahead hu HS.out (HAT.out i hil) (by omega : 2 < 3)).1 h⟩
              have h2 : ¬ (s[i]'hil).toNat < 99 := fun h => this (UInt8.lt_iff_toNat_lt.2 (by simpa using h))
              omega
            clear hj h97 h100
            go_wp2_with fail
            go_region
            go_wp2
            go_ret
            exact ⟨0, HNO.out, rfl, _, rfl⟩
    · obtain rfl : k = s.size := by omega
      clear hlt
      have HV := Lib.hid (SetIs.yes (l := l) hu (by rw [← HS.out, HSZ.out, List.take_length]))
      by_cases h0 : u = 0
      · subst h0
        go_wp2
        go_ret
        exact ⟨0, HV.out, rfl, m, rfl⟩
      · have e0 : ((u : Int) == 0) = false := by simp; omega
        have HE : Hid (setN u = (u : Int)) := Lib.hid (by simp [setN, h0])
        clear h0
        go_wp2
        go_ret
        exact ⟨u, HV.out, by rw [HE.out]; rfl, m, rfl⟩

end Go.Proofs.Ytpildecpabeanaa

/-
  Chapter 4, the model: texts: the contract of readNumber.
-/
namespace Go.Proofs.Ytpildecpabeanaa
open Go.RowKit Go.Lib

theorem sB_toList (l : List UInt8) : (sB l).toList = l := ByteArray.toList_mk l

set_option maxHeartbeats 1600000 in
theorem SreadNumber_any (s : ByteArray) (w : World) (hs : s.size ≤ 1099511627776) :
    Calls Try.prog 180 #[.string s] w fun e w' => ∃ v : Int, NumW s.data.toList v ∧ -1 ≤ v ∧ v ≤ 10009 ∧ e = .returned (.int .i64 v) ∧ ∃ m, w' = w.drewN m := by
  obtain ⟨l, hl⟩ : ∃ l, l = s.data.toList := ⟨_, rfl⟩
  have HSZ : Hid (s.size = l.length) := Lib.hid (by rw [hl, Array.length_toList]; rfl)
  have HAT : Hid (∀ k (h : k < s.size), l[k]? = some (s[k]'h)) := Lib.hid (fun k h => by rw [hl]; exact sB_at s h)
  have HSB : Hid (s = sB l) := Lib.hid (by rw [hl, sB_list])
  rw [← hl]
  clear hl
  go_enter Try.func180, Try.ntmps180
  go_wp2
  go_loopw [3, 4] (fun o i wr => ∃ (u k m : Nat), o = .int .i64 (u : Int) ∧ i = .int .i64 (k : Int) ∧ u ≤ 10009 ∧ k ≤ s.size ∧ Hid (u = dval (l.take k)) ∧ wr = w.drewN m) (fun _ i _ => s.size - (intOf i).toNat)
  case atStart => exact ⟨0, 0, 0, rfl, rfl, by omega, Nat.zero_le _, Lib.hid (by simp [dval]), rfl⟩
  case round =>
    obtain ⟨u, k, m, rfl, rfl, hu, hks, HS, rfl⟩ := hrel
    by_cases hlt : k < s.size
    · by_cases hd : 48 ≤ (s[k]'hlt).toNat ∧ (s[k]'hlt).toNat ≤ 57
      · obtain ⟨z, hz⟩ : ∃ z : Nat, (s[k]'hlt).toNat = z + 48 := ⟨(s[k]'hlt).toNat - 48, by omega⟩
        have e1 : ((s[k]'hlt).toNat : Int) = (z : Int) + 48 := by omega
        have hz9 : z ≤ 9 := by omega
        have hz1 : decide ((z : Int) + 48 < 48) = false := by simp; omega
        have hz2 : decide (57 < (z : Int) + 48) = false := by simp; omega
        by_cases hbig : 1000 < u
        · have HNO := Lib.hid (NumW.no (l := l) (v := -1) (by omega) (no_big (i := k) (by rw [← HS.out]; omega)))
          have hub : decide (1000 < (u : Int)) = true := by simp; omega
          clear hd hz HS hbig
          go_wp2
          go_ret
          exact ⟨-1, HNO.out, by omega, by omega, rfl, _, rfl⟩
        · have HV : Hid (10 * u + z = dval (l.take (k + 1))) := Lib.hid (by
            rw [List.take_add_one, HAT.out k hlt, Option.toList_some, dval_snoc, ← HS.out, hz]; simp)
          have hub : decide (1000 < (u : Int)) = false := by simp; omega
          have HB : Hid (u ≤ 1000) := Lib.hid (by omega)
          have ew : IntKind.u8.wrap (z : Int) = (z : Int) := IntWalk.u8_in _ (by omega)
          have ew2 : IntKind.i64.wrap (z : Int) = (z : Int) := IntWalk.i64_in _ (by omega)
          clear hd hz HS hbig
          go_wp2
          go_roundw
          case rel => exact ⟨10 * u + z, k + 1, _, by go_num, by go_num, by have := HB.out; omega, by omega, HV, rfl⟩
          case measure => simp [intOf]; omega
      · have HNO := Lib.hid (NumW.no (l := l) (v := -1) (by omega) (no_digit (HAT.out k hlt) (by rw [UInt8.le_iff_toNat_le, UInt8.le_iff_toNat_le]; exact hd)))
        obtain ⟨y, hy⟩ : ∃ y : Nat, (s[k]'hlt).toNat = y := ⟨_, rfl⟩
        rw [hy] at hd
        have e1 : ((s[k]'hlt).toNat : Int) = (y : Int) := by omega
        by_cases h48 : y < 48
        · have hz1 : decide ((y : Int) < 48) = true := by simp; omega
          clear hd hy
          go_wp2
          go_ret
          exact ⟨-1, HNO.out, by omega, by omega, rfl, _, rfl⟩
        · have hz1 : decide ((y : Int) < 48) = false := by simp; omega
          have hz2 : decide (57 < (y : Int)) = true := by simp; omega
          clear hd hy
          go_wp2
          go_ret
          exact ⟨-1, HNO.out, by omega, by omega, rfl, _, rfl⟩
    · obtain rfl : k = s.size := by omega
      clear hlt
      have HU : Hid (dval l = u) := Lib.hid (by rw [HS.out, HSZ.out, List.take_length])
      rcases hem : s.toList.isEmpty with _ | _
      · have hne : l ≠ [] := by
          rintro rfl
          rw [HSB.out] at hem
          simp [sB] at hem
        have HN : Hid (∀ w, Calls Try.prog 183 #[.int .i64 (u : Int)] w (TextIs w (decDigits u))) := Lib.hid (fun w => Snumber_any 4 u (by omega) (by omega) w)
        by_cases hd : l = decDigits u
        · have hcmp : ((sB (decDigits u)).toList == s.toList) = true := by rw [HSB.out, ← hd]; simp
          have HY := Lib.hid (NumW.yes hd HU.out)
          clear hd
          go_wp2_with fail
          refine (HN.out _).mono ?_
          rintro e w1 ⟨rfl, m1, rfl⟩
          go_wp2
          go_ret
          exact ⟨(u : Int), HY.out, by omega, by omega, rfl, _, rfl⟩
        · have hcmp : ((sB (decDigits u)).toList == s.toList) = false := by
            rw [HSB.out, beq_eq_false_iff_ne, sB_toList, sB_toList]; exact fun e => hd e.symm
          have HNO := Lib.hid (NumW.no (l := l) (v := -1) (by omega) (no_other HU.out hd))
          clear hd
          go_wp2_with fail
          refine (HN.out _).mono ?_
          rintro e w1 ⟨rfl, m1, rfl⟩
          go_wp2
          go_ret
          exact ⟨-1, HNO.out, by omega, by omega, rfl, _, rfl⟩
      · have HNO := Lib.hid (NumW.no (l := l) (v := -1) (by omega) (fun m _ => by
          have : l = [] := by
            rw [HSB.out] at hem
            simpa [sB] using hem
          rw [this]; exact fun e => dec_ne m e.symm))
        go_wp2
        go_ret
        exact ⟨-1, HNO.out, by omega, by omega, rfl, _, rfl⟩

end Go.Proofs.Ytpildecpabeanaa

/-
  Chapter 4, the model: texts: the contract of sumFrom.
-/
namespace Go.Proofs.Ytpildecpabeanaa
open Go.RowKit Go.Lib

def setsO (os : Offers) : List Int := os.map (fun o => ((o.1 : Nat) : Int))
def pricesO (os : Offers) : List Int := os.map (fun o => ((o.2 : Nat) : Int))
theorem sumF_bd : ∀ {os : Offers}, Fine os → ∀ x, sumF os x ≤ 30 * os.length
  | [], _, x => by simp [sumF]
  | o :: os, h, x => by
    have h1 := sumF_bd (os := os) (fun p hp => h p (by simp [hp])) x
    have h2 := sumF_bd (os := os) (fun p hp => h p (by simp [hp])) (x - o.1)
    have h3 := (h o (by simp)).2.2
    simp only [sumF, List.length_cons]
    split <;> omega
theorem calls_q4 {P : Program} {f : FuncId} {args : Array Value} {w : World} {m : Nat} {v : Value} (h : Calls P f args (w.drewN m) fun e w' => e = .returned v ∧ ∃ k, w' = (w.drewN m).drewN k) :
    Calls P f args (w.drewN m) fun e w'' => e = .returned v ∧ ∃ k, w'' = w.drewN k := h.mono fun _ _ ⟨he, k, hw⟩ => ⟨he, m + k, by rw [hw]; simp⟩

theorem Rd.cutAny {w : World} {b off c k c2 : Nat} {zs : List Int} (h : Rd w (some ⟨b, off, none⟩) c zs) (hl : zs.length ≤ c) : Rd w (if c = k then some ⟨b, off, none⟩ else some ⟨b, off + k, none⟩) c2 (zs.drop k) := by
  split
  · rw [List.drop_eq_nil_of_le (by omega)]
    exact .inl ⟨rfl, fun h => by cases h⟩
  · exact h.drop_ k

set_option maxHeartbeats 1600000 in
theorem SsumFrom_any : ∀ (n : Nat) (os : Offers) (A B : Option Addr) (c d x : Nat) (w : World), os.length = n → Fine os → n ≤ 7 → x < 8 → Rd w A c (setsO os) → Rd w B d (pricesO os) → n ≤ c → n ≤ d →
    Calls Try.prog 181 #[.slice A n c, .slice B n d, .int .i64 (x : Int)] w fun e w' => e = .returned (.int .i64 (sumF os x)) ∧ ∃ m, w' = w.drewN m := by
  intro n
  induction n using Nat.strongRecOn with
  | _ n ih =>
    intro os A B c d x w hn hf hn7 hx hA hB hc hd
    have HIH := Lib.hid ih
    clear ih
    have HF := Lib.hid hf
    have HN := Lib.hid hn
    have HA := Lib.hid hA
    have HB := Lib.hid hB
    clear hn hf hA hB
    go_enter Try.func181, Try.ntmps181
    go_wp2
    go_loopw [7, 8] (fun o i wr => ∃ (k m : Nat) (v : Int), o = .int .i64 v ∧ i = .int .i64 (k : Int) ∧ k ≤ n ∧ 0 ≤ v ∧ Hid (sumF os x = max v (sumF (os.drop k) x)) ∧ wr = w.drewN m) (fun _ i _ => n - (intOf i).toNat)
    case atStart => exact ⟨0, 0, 0, rfl, rfl, by omega, by omega, Lib.hid (by have := sumF_nonneg os x; simp; omega), rfl⟩
    case round =>
      obtain ⟨k, m, v, rfl, rfl, hk, hv, HS, rfl⟩ := hrel
      by_cases hlt : k < n
      · have hkl : k < os.length := by have := HN.out; omega
        obtain ⟨o, ho⟩ : ∃ o, os[k]? = some o := ⟨os[k], List.getElem?_eq_getElem hkl⟩
        obtain ⟨ho1, ho8, ho30⟩ := HF.out o (List.mem_of_getElem? ho)
        obtain ⟨b, off, y, rfl, _, hy, hcy⟩ := HA.out.at_ (k := k) (by simp [setsO]; exact hkl)
        obtain ⟨b2, off2, z, rfl, _, hz, hcz⟩ := HB.out.at_ (k := k) (by simp [pricesO]; exact hkl)
        obtain rfl : y = ((o.1 : Nat) : Int) := by have := hy.out; simp [setsO, ho] at this; exact this.symm
        obtain rfl : z = ((o.2 : Nat) : Int) := by have := hz.out; simp [pricesO, ho] at this; exact this.symm
        have HD : Hid (sumF (os.drop k) x = max (sumF (os.drop (k + 1)) x) (if x &&& o.1 = o.1 then (o.2 : Int) + sumF (os.drop (k + 1)) (x - o.1) else 0)) := Lib.hid (by
          rw [List.drop_eq_getElem_cons hkl]
          have e : os[k] = o := by rw [List.getElem?_eq_getElem hkl] at ho; exact Option.some.inj ho
          rw [e]; rfl)
        have ha := and_nat ho8 hx
        rw [Nat.and_comm] at ha
        by_cases hin : x &&& o.1 = o.1
        · rw [hin] at ha
          have hnn := andNot_sub hx ho8 (by rw [Nat.and_comm]; exact hin)
          have hk0 : (0 : Int) ≤ (k : Int) := by omega
          obtain ⟨p, hp⟩ : ∃ p, p = sumF (os.drop (k + 1)) (x - o.1) := ⟨_, rfl⟩
          have HC : Hid (∀ j, Calls Try.prog 181 #[.slice (if c = k + 1 then some ⟨b, off, none⟩ else some ⟨b, off + (k + 1), none⟩) (n - (k + 1)) (c - (k + 1)), .slice (if d = k + 1 then some ⟨b2, off2, none⟩ else some ⟨b2, off2 + (k + 1), none⟩) (n - (k + 1)) (d - (k + 1)), .int .i64 ((x - o.1 : Nat) : Int)] (w.drewN (m + 1 + j)) fun e w' => e = .returned (.int .i64 p) ∧ ∃ i, w' = w.drewN (m + 1 + i)) :=
            Lib.hid (fun j => calls_q2 (by
              rw [hp]
              refine HIH.out (n - (k + 1)) (by omega) (os.drop (k + 1)) _ _ _ _ _ _ (by rw [List.length_drop, HN.out]) (fun q hq => HF.out q (List.mem_of_mem_drop hq)) (by omega) (by omega) ?_ ?_ (by omega) (by omega)
              · unfold setsO; rw [List.map_drop]; exact HA.out.cutAny (by simp [setsO, HN.out]; omega)
              · unfold pricesO; rw [List.map_drop]; exact HB.out.cutAny (by simp [pricesO, HN.out]; omega)))
          have hpb : 0 ≤ p ∧ p ≤ 210 := by
            rw [hp]
            have h1 := sumF_nonneg (os.drop (k + 1)) (x - o.1)
            have h2 := sumF_bd (os := os.drop (k + 1)) (fun q hq => HF.out q (List.mem_of_mem_drop hq)) (x - o.1)
            rw [List.length_drop, HN.out] at h2
            omega
          have HS2 : Hid (sumF os x = max (if v < (o.2 : Int) + p then (o.2 : Int) + p else v) (sumF (os.drop (k + 1)) x)) := Lib.hid (by
            rw [HS.out, HD.out, if_pos hin, ← hp]
            have := sumF_nonneg (os.drop (k + 1)) x
            split <;> omega)
          have e1 : IntKind.i64.wrap ((o.2 : Int) + p) = (o.2 : Int) + p := IntWalk.i64_in _ (by omega)
          clear hp hin HD HS ho
          go_wp2_with fail
          go_region
          go_wp2_with fail
          go_quiet ((go_at_call 181; exact HC.out _))
          go_wp2
          go_roundw
          case rel => exact ⟨k + 1, _, _, rfl, by go_num, by omega, by split <;> omega, HS2, rfl⟩
          case measure => simp [intOf]; omega
        · have HS2 : Hid (sumF os x = max v (sumF (os.drop (k + 1)) x)) := Lib.hid (by
            rw [HS.out, HD.out, if_neg hin]
            have := sumF_nonneg (os.drop (k + 1)) x
            omega)
          have hne : (((x &&& o.1 : Nat) : Int) == ((o.1 : Nat) : Int)) = false := by
            rw [beq_eq_false_iff_ne]; omega
          clear hin HD HS
          go_wp2_with fail
          go_region
          go_wp2
          go_roundw
          case rel => exact ⟨k + 1, _, v, rfl, by go_num, by omega, hv, HS2, rfl⟩
          case measure => simp [intOf]; omega
      · obtain rfl : k = n := by omega
        have HE : Hid (sumF os x = v) := Lib.hid (by
          rw [HS.out, List.drop_eq_nil_of_le (by rw [HN.out]; exact Nat.le_refl _)]; simp [sumF]; omega)
        go_wp2
        go_ret
        exact ⟨by rw [HE.out]; rfl, _, rfl⟩

end Go.Proofs.Ytpildecpabeanaa
