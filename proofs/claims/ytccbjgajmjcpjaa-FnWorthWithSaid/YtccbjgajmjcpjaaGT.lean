/-
  Chapter 4, the model: texts: the contract of number.
-/
import Derived.Test.YtccbjgajmjcpjaaGW
import Derived.Test.YtccbjgajmjcpjaaWp
import Derived.Maps.AppendAt
import Derived.Test.YtccbjgajmjcpjaaWm
namespace Go.Proofs.Ytccbjgajmjcpjaa
open Go.RowKit Go.Lib

/-- A text by its bytes. -/
def sB (l : List UInt8) : ByteArray := ⟨l.toArray⟩
theorem sB_append (a b : List UInt8) : sB a ++ sB b = sB (a ++ b) := by
  unfold sB
  apply ByteArray.ext
  simp [ByteArray.data_append]
theorem sB_list (s : ByteArray) : sB s.data.toList = s := by unfold sB; simp
theorem sB_size (l : List UInt8) : (sB l).size = l.length := by unfold sB; simp [ByteArray.size]
theorem digit_at {n : Nat} (hn : n < 10) : ByteArray.extract ⟨#[48, 49, 50, 51, 52, 53, 54, 55, 56, 57]⟩ n (n + 1) = sB (decDigits n) := by
  rw [dec_small (by omega)]
  have : n = 0 ∨ n = 1 ∨ n = 2 ∨ n = 3 ∨ n = 4 ∨ n = 5 ∨ n = 6 ∨ n = 7 ∨ n = 8 ∨ n = 9 := by omega
  rcases this with rfl | rfl | rfl | rfl | rfl | rfl | rfl | rfl | rfl | rfl <;> rfl

theorem dec_len : ∀ (n : Nat), (decDigits n).length ≤ n + 1 := by
  intro n
  induction n using Nat.strongRecOn with
  | _ n ih =>
    rw [decDigits]
    split
    · simp
    · have := ih (n / 10) (by omega)
      simp; omega
theorem sB_room {a b : List UInt8} (h : a.length + b.length ≤ 1152921504606846976) : ¬ 9223372036854775807 < (sB a).size + (sB b).size := by
  rw [sB_size, sB_size]; omega

/-- What a call hands back: a text. -/
def TextIs (w : World) (l : List UInt8) (e : Ending) (w' : World) : Prop := e = .returned (.string (sB l)) ∧ ∃ m, w' = w.drewN m

set_option maxHeartbeats 800000 in
theorem Snumber_one (n : Nat) (hn : n < 10) (w : World) :
    Calls Try.prog 191 #[.int .i64 (n : Int)] w (TextIs w (decDigits n)) := by
  have h0 : ¬ (n : Int) < 0 := by omega
  have h1 : (n : Int) < 10 := by omega
  go_enter Try.func191, Try.ntmps191
  go_wp2
  go_ret
  refine ⟨?_, 0, rfl⟩
  rw [← digit_at hn]
  rfl

set_option maxHeartbeats 800000 in
theorem Snumber_any : ∀ (k n : Nat), n < 10 ^ (k + 1) → k ≤ 8 → ∀ (w : World),
    Calls Try.prog 191 #[.int .i64 (n : Int)] w (TextIs w (decDigits n)) := by
  intro k
  induction k with
  | zero => intro n hn _ w; exact Snumber_one n (by simpa using hn) w
  | succ k ih =>
    intro n hn hk w
    by_cases hlt : n < 10
    · exact Snumber_one n hlt w
    · have hp : n < 10000000000 := Nat.lt_of_lt_of_le hn (Nat.pow_le_pow_right (by decide) (by omega : k + 1 + 1 ≤ 10))
      have hq : n / 10 < 10 ^ (k + 1) := by rw [Nat.pow_succ] at hn; omega
      have HQ : Hid (∀ w, Calls Try.prog 191 #[.int .i64 ((n : Int) / 10)] w (TextIs w (decDigits (n / 10)))) := Lib.hid (fun w => by rw [show (n : Int) / 10 = ((n / 10 : Nat) : Int) by omega]; exact ih (n / 10) hq (by omega) w)
      have HR : Hid (∀ w, Calls Try.prog 191 #[.int .i64 ((n : Int) % 10)] w (TextIs w (decDigits (n % 10)))) := Lib.hid (fun w => by rw [show (n : Int) % 10 = ((n % 10 : Nat) : Int) by omega]; exact Snumber_one (n % 10) (by omega) w)
      have HD : Hid (decDigits n = decDigits (n / 10) ++ decDigits (n % 10)) := Lib.hid (by
        rw [decDigits, dif_neg hlt, decDigits.eq_def (n % 10), dif_pos (by omega)])
      have h0 : ¬ (n : Int) < 0 := by omega
      have h1 : ¬ (n : Int) < 10 := by omega
      have hr := sB_room (a := decDigits (n / 10)) (b := decDigits (n % 10)) (by have := dec_len (n / 10); have := dec_len (n % 10); omega)
      clear ih hq hn hlt
      go_enter Try.func191, Try.ntmps191
      go_wp2_with fail
      refine (HQ.out _).mono ?_
      rintro e w1 ⟨rfl, m1, rfl⟩
      go_wp2_with fail
      refine (HR.out _).mono ?_
      rintro e w2 ⟨rfl, m2, rfl⟩
      go_wp2
      go_ret
      refine ⟨?_, m1 + m2, by simp⟩
      rw [HD.out, ← sB_append]
      rfl

end Go.Proofs.Ytccbjgajmjcpjaa

/-
  Chapter 4, the model: texts: the contract of splitAt.
-/
namespace Go.Proofs.Ytccbjgajmjcpjaa
open Go.RowKit Go.Lib

theorem sB_at (s : ByteArray) {k : Nat} (h : k < s.size) : s.data.toList[k]? = some (s[k]'h) := by
  rw [Array.getElem?_toList]; exact Array.getElem?_eq_getElem h
theorem sB_extract (s : ByteArray) (f k : Nat) : s.extract f k = sB ((s.data.toList.drop f).take (k - f)) := by
  apply ByteArray.ext
  rw [ByteArray.data_extract]
  apply Array.ext'
  simp [sB, List.extract]

/-- Words in a block of the call's own. -/
def OwnW (w : World) (B : Nat) (v : Value) (ws : List (List UInt8)) : Prop := w.ownsRow B 9 1 v ws.length (ws.map (fun l => Value.string (sB l)))
theorem str_info : (Try.prog.info? 9).map (fun i => (i.zero, i.size, i.bytes)) = some (some (.string ⟨#[]⟩), 1, 16) := by kernel_rfl
theorem ownW_empty (w : World) : OwnW (w.alloc (.cells #[] 9)) w.heap.size (.slice (some ⟨w.heap.size, 0, none⟩) 0 0) [] :=
  World.ownsRow_lit w #[] 0 (Nat.le_refl _) (Nat.zero_le _) rfl
theorem OwnW.below {w w' : World} {B : Nat} {v : Value} {ws : List (List UInt8)} (h : OwnW w B v ws) (hb : Below w.heap.size w w') : OwnW w' B v ws :=
  World.ownsRow.kept h (row := none) ⟨hb.os, hb.tape, hb.output, hb.size, fun i hi _ => hb.block i hi⟩ (by cases v.ownBlock <;> simp)

theorem OwnW.shape {w : World} {B : Nat} {v : Value} {ws : List (List UInt8)} (h : OwnW w B v ws) : (v = .slice none 0 0 ∧ ws = []) ∨ ∃ g c, v = .slice (some ⟨g, 0, none⟩) ws.length c := by
  rcases h.2 with ⟨hv, h2⟩ | ⟨g, cap, cur, hv, _⟩
  · exact .inl ⟨hv, by have h3 := h.1; rw [h2] at h3; simpa using h3⟩
  · exact .inr ⟨g, cap, hv⟩

theorem wpList_append_word {ops : Array Oper} {rest : List Oper} {o : Oper} {a : Act} {w : World} {Q : Exit → Act → World → Prop} (hgd : o.guard = none) (s x : Operand)
    (ho : o.op = .call { callee := .builtin .append, args := #[s, x], argTypes := #[122, 122] })
    (w0 : World) (B : Nat) (v : Value) (ws : List (List UInt8)) (hs : a.eval s = v) (hown : OwnW w B v ws) (g : Nat) (l : List UInt8) (hx : a.eval x = .slice (some ⟨g, 0, none⟩) 1 1)
    (hc : w.cell? ⟨g, 0, none⟩ = some (.string (sB l))) (hn : ws.length ≤ 1099511627776) (hB : B ≤ w.heap.size) (hb : Below B w0 w)
    (h : ∀ v' w', OwnW w' B v' (ws ++ [l]) → Below B w0 w' → wpList Try.prog ops Q rest (a.put o.dst v') w') :
    wpList Try.prog ops Q (o :: rest) a w := by
  obtain ⟨i0, hi, hz0, hz1, hz2⟩ := info_parts str_info
  refine wpList_append_own_at _ hgd s x 122 ho B 9 i0 (.string ⟨#[]⟩) 1 16 Try.underlying122 hi hz0 hz1 hz2 rfl (by decide) v ws.length (ws.map (fun l => Value.string (sB l))) hs hown ⟨g, 0, none⟩ 1 1 [.string (sB l)] hx rfl ?_ (by simp [Value.oneCell']) (by unfold maxLen; omega) (by omega) hB ?_
  · intro j u hu
    rcases j with _ | j
    · simp at hu; subst hu; exact hc
    · simp at hu
  · intro v' w' h1 h2 _ _
    refine h v' w' ?_ (hb.grown h2 hB (fun k e => (World.ownsRow.lt hown k e).1))
    unfold OwnW
    rw [List.length_append, List.map_append]
    exact h1

set_option maxHeartbeats 800000 in
theorem SsplitAt_any (s : ByteArray) (c : UInt8) (w : World) (hs : s.size ≤ 1099511627776) :
    Calls Try.prog 186 #[.string s, .int .u8 (c.toNat : Int)] w fun e w' => ∃ v, e = .returned v ∧ OwnW w' w.heap.size v (spl c s.data.toList) ∧ Below w.heap.size w w' := by
  obtain ⟨l, hl⟩ : ∃ l, l = s.data.toList := ⟨_, rfl⟩
  have HSZ : Hid (s.size = l.length) := Lib.hid (by rw [hl, Array.length_toList]; rfl)
  have HAT : Hid (∀ k (h : k < s.size), l[k]? = some (s[k]'h)) := Lib.hid (fun k h => by rw [hl]; exact sB_at s h)
  have HEX : Hid (∀ f k, s.extract f k = sB ((l.drop f).take (k - f))) := Lib.hid (fun f k => by rw [hl]; exact sB_extract s f k)
  rw [← hl]
  clear hl
  go_enter Try.func186, Try.ntmps186
  go_wp2
  go_loopw [5, 6, 7] (fun o f i wr => ∃ (f' k g cc : Nat) (ws : List (List UInt8)), o = .slice (some ⟨g, 0, none⟩) ws.length cc ∧ f = .int .i64 (f' : Int) ∧ i = .int .i64 (k : Int) ∧ f' ≤ k ∧ k ≤ s.size ∧ Hid (OwnW wr w.heap.size (.slice (some ⟨g, 0, none⟩) ws.length cc) ws) ∧ Hid (ws.length ≤ f' ∧ spl c l = ws ++ spl c (l.drop f') ∧ ∀ j, f' ≤ j → j < k → l[j]? ≠ some c) ∧ Below w.heap.size w wr)
    (fun _ _ i _ => s.size - (intOf i).toNat)
  case atStart => exact ⟨0, 0, w.heap.size, 0, [], rfl, rfl, rfl, Nat.le_refl _, Nat.zero_le _, Lib.hid (ownW_empty w), Lib.hid ⟨by simp, by rw [List.drop_zero, List.nil_append], fun j h1 h2 => by omega⟩, (Below.refl _ w).alloc (Nat.le_refl _) _⟩
  case round =>
    obtain ⟨f', k, g, cc, ws, rfl, rfl, rfl, hfk, hks, HO, HS, hb⟩ := hrel
    by_cases hlt : k < s.size
    · by_cases hc : s[k]'hlt = c
      · have e1 : (((s[k]'hlt).toNat : Int) == (c.toNat : Int)) = true := by rw [hc]; simp
        have HN : Hid (ws.length + 1 ≤ k + 1 ∧ spl c l = (ws ++ [(l.drop f').take (k - f')]) ++ spl c (l.drop (k + 1))) := Lib.hid ⟨by have := HS.out.1; omega, by
          rw [HS.out.2.1, spl_at hfk HS.out.2.2 (by rw [HAT.out k hlt, hc])]; simp⟩
        have hwl : ws.length ≤ 1099511627776 := by have := HS.out.1; omega
        have HOW : Hid (OwnW (wr.alloc (.cells #[.string (s.extract f' k)] 9)) w.heap.size (.slice (some ⟨g, 0, none⟩) ws.length cc) ws) := Lib.hid (World.ownsRow.alloc HO.out _)
        have HC : Hid ((wr.alloc (.cells #[.string (s.extract f' k)] 9)).cell? ⟨wr.heap.size, 0, none⟩ = some (.string (sB ((l.drop f').take (k - f'))))) := Lib.hid (by rw [← HEX.out]; exact cell_one_new _ _ _ 0 _ rfl)
        clear hc HS HO
        go_wp2_with (at_builtin; refine wpList_append_word rfl _ _ rfl w w.heap.size _ ws rfl HOW.out wr.heap.size _ rfl HC.out hwl (by have := hb.size; simp; omega) (hb.alloc hb.size _) ?_; intro v' w2 ho2 hb2)
        obtain ⟨g', c', rfl⟩ : ∃ g' c', v' = .slice (some ⟨g', 0, none⟩) (ws.length + 1) c' := by
          rcases ho2.shape with ⟨_, h⟩ | ⟨g', c', h⟩
          · simp at h
          · exact ⟨g', c', by rw [h]; simp⟩
        go_wp2
        go_roundw
        case rel => exact ⟨k + 1, k + 1, g', c', ws ++ [(l.drop f').take (k - f')], by rw [List.length_append]; rfl, by go_num, by go_num, Nat.le_refl _, by omega, Lib.hid (by rw [List.length_append]; exact ho2), Lib.hid ⟨by rw [List.length_append]; exact HN.out.1, HN.out.2, fun j h1 h2 => by omega⟩, hb2⟩
        case measure => simp [intOf]; omega
      · have e1 : (((s[k]'hlt).toNat : Int) == (c.toNat : Int)) = false := by
          rw [beq_eq_false_iff_ne]
          intro e
          exact hc (UInt8.toNat_inj.1 (by omega))
        have HS2 : Hid (ws.length ≤ f' ∧ spl c l = ws ++ spl c (l.drop f') ∧ ∀ j, f' ≤ j → j < k + 1 → l[j]? ≠ some c) := Lib.hid ⟨HS.out.1, HS.out.2.1, fun j h1 h2 => by
          rcases Nat.lt_or_ge j k with h | h
          · exact HS.out.2.2 j h1 h
          · obtain rfl : j = k := by omega
            rw [HAT.out j hlt]
            intro e
            injection e with e
            exact hc e⟩
        clear hc HS
        go_wp2
        go_roundw
        case rel => exact ⟨f', k + 1, g, cc, ws, rfl, rfl, by go_num, by omega, by omega, HO, HS2, hb⟩
        case measure => simp [intOf]; omega
    · obtain rfl : k = s.size := by omega
      have HN : Hid (spl c l = ws ++ [l.drop f']) := Lib.hid (by rw [HS.out.2.1, spl_end (fun j h1 h2 => HS.out.2.2 j h1 (by rw [HSZ.out]; exact h2))])
      have hwl : ws.length ≤ 1099511627776 := by have := HS.out.1; omega
      have HOW : Hid (OwnW (wr.alloc (.cells #[.string (s.extract f' s.size)] 9)) w.heap.size (.slice (some ⟨g, 0, none⟩) ws.length cc) ws) := Lib.hid (World.ownsRow.alloc HO.out _)
      have HC : Hid ((wr.alloc (.cells #[.string (s.extract f' s.size)] 9)).cell? ⟨wr.heap.size, 0, none⟩ = some (.string (sB (l.drop f')))) := Lib.hid (by
        rw [show l.drop f' = (l.drop f').take (s.size - f') by rw [HSZ.out, List.take_of_length_le (by simp)], ← HEX.out]; exact cell_one_new _ _ _ 0 _ rfl)
      clear hlt HS HO
      go_wp2_with (at_builtin; refine wpList_append_word rfl _ _ rfl w w.heap.size _ ws rfl HOW.out wr.heap.size _ rfl HC.out hwl (by have := hb.size; simp; omega) (hb.alloc hb.size _) ?_; intro v' w2 ho2 hb2)
      go_ret
      exact ⟨v', rfl, by rw [HN.out]; exact ho2, hb2⟩

end Go.Proofs.Ytccbjgajmjcpjaa

/-
  Chapter 4, the model: texts: the contract of readSet.
-/
namespace Go.Proofs.Ytccbjgajmjcpjaa
open Go.RowKit Go.Lib

/-- What readSet hands back. -/
def setN (v : Nat) : Int := if v = 0 then -1 else v

set_option maxHeartbeats 1600000 in
theorem SreadSet_any (s : ByteArray) (w : World) (hs : s.size ≤ 1099511627776) :
    Calls Try.prog 187 #[.string s] w fun e w' => ∃ v, SetIs s.data.toList v ∧ e = .returned (.int .i64 (setN v)) ∧ ∃ m, w' = w.drewN m := by
  obtain ⟨l, hl⟩ : ∃ l, l = s.data.toList := ⟨_, rfl⟩
  have HSZ : Hid (s.size = l.length) := Lib.hid (by rw [hl, Array.length_toList]; rfl)
  have HAT : Hid (∀ k (h : k < s.size), l[k]? = some (s[k]'h)) := Lib.hid (fun k h => by rw [hl]; exact sB_at s h)
  rw [← hl]
  clear hl
  go_enter Try.func187, Try.ntmps187
  go_wp2
  go_loopw [3, 4] (fun o i wr => ∃ (u k m : Nat), o = .int .i64 (u : Int) ∧ i = .int .i64 (k : Int) ∧ u < 8 ∧ k ≤ s.size ∧ Hid (l.take k = lw u) ∧ wr = w.drewN m) (fun _ i _ => s.size - (intOf i).toNat)
  case atStart => exact ⟨0, 0, 0, rfl, rfl, by omega, Nat.zero_le _, Lib.hid (by simp [lw]), rfl⟩
  case round =>
    obtain ⟨u, k, m, rfl, rfl, hu, hks, HS, rfl⟩ := hrel
    by_cases hlt : k < s.size
    · by_cases hj : ∃ j, j < 3 ∧ s[k]'hlt = UInt8.ofNat (97 + j) ∧ u < 2 ^ j
      · obtain ⟨j, hj3, hbj, huj⟩ := hj
        have HN := Lib.hid (lw_step hu hj3 huj)
        have HL : Hid (l.take (k + 1) = lw (u + 2 ^ j)) := Lib.hid (by rw [HN.out.2, List.take_add_one, HS.out, HAT.out k hlt, hbj]; rfl)
        have h8 := HN.out.1
        by_cases hk0 : k = 0
        · subst hk0
          rcases nat3 hj3 with rfl | rfl | rfl
          · have e1 : ((s[0]'hlt).toNat : Int) = 97 := by rw [hbj]; rfl
            have HP : Hid (∀ w1, Calls Try.prog 116 #[.int .i64 0] w1 fun e w' => e = .returned (.int .i64 1) ∧ w1 = w') := Lib.hid (fun w1 => Spower_any 0 (by omega) w1)
            clear hbj huj
            go_wp2_with fail
            go_region
            go_wp2_with fail
            refine (HP.out _).mono ?_
            rintro e w1 ⟨rfl, rfl⟩
            go_wp2
            go_roundw
            case rel => exact ⟨u + 2 ^ 0, _, _, by go_num, by go_num, h8, by omega, HL, rfl⟩
            case measure => simp [intOf]; omega
          · have e1 : ((s[0]'hlt).toNat : Int) = 98 := by rw [hbj]; rfl
            have HP : Hid (∀ w1, Calls Try.prog 116 #[.int .i64 1] w1 fun e w' => e = .returned (.int .i64 2) ∧ w1 = w') := Lib.hid (fun w1 => Spower_any 1 (by omega) w1)
            clear hbj huj
            go_wp2_with fail
            go_region
            go_wp2_with fail
            refine (HP.out _).mono ?_
            rintro e w1 ⟨rfl, rfl⟩
            go_wp2
            go_roundw
            case rel => exact ⟨u + 2 ^ 1, _, _, by go_num, by go_num, h8, by omega, HL, rfl⟩
            case measure => simp [intOf]; omega
          · have e1 : ((s[0]'hlt).toNat : Int) = 99 := by rw [hbj]; rfl
            have HP : Hid (∀ w1, Calls Try.prog 116 #[.int .i64 2] w1 fun e w' => e = .returned (.int .i64 4) ∧ w1 = w') := Lib.hid (fun w1 => Spower_any 2 (by omega) w1)
            clear hbj huj
            go_wp2_with fail
            go_region
            go_wp2_with fail
            refine (HP.out _).mono ?_
            rintro e w1 ⟨rfl, rfl⟩
            go_wp2
            go_roundw
            case rel => exact ⟨u + 2 ^ 2, _, _, by go_num, by go_num, h8, by omega, HL, rfl⟩
            case measure => simp [intOf]; omega
        · obtain ⟨i, rfl⟩ : ∃ i, k = i + 1 := ⟨k - 1, by omega⟩
          have hil : i < s.size := by omega
          have hah := (lw_ahead hu HS.out (HAT.out i hil) hj3).2 huj
          rcases nat3 hj3 with rfl | rfl | rfl
          · have e1 : ((s[i + 1]'hlt).toNat : Int) = 97 := by rw [hbj]; rfl
            have e2 : ((s[i]'hil).toNat : Int) < 97 := by have := UInt8.lt_iff_toNat_lt.1 hah; simp at this; omega
            clear hah
            have HP : Hid (∀ w1, Calls Try.prog 116 #[.int .i64 0] w1 fun e w' => e = .returned (.int .i64 1) ∧ w1 = w') := Lib.hid (fun w1 => Spower_any 0 (by omega) w1)
            clear hbj huj
            go_wp2_with fail
            go_region
            go_wp2_with fail
            refine (HP.out _).mono ?_
            rintro e w1 ⟨rfl, rfl⟩
            go_wp2
            go_roundw
            case rel => exact ⟨u + 2 ^ 0, _, _, by go_num, by go_num, h8, by omega, HL, rfl⟩
            case measure => simp [intOf]; omega
          · have e1 : ((s[i + 1]'hlt).toNat : Int) = 98 := by rw [hbj]; rfl
            have e2 : ((s[i]'hil).toNat : Int) < 98 := by have := UInt8.lt_iff_toNat_lt.1 hah; simp at this; omega
            clear hah
            have HP : Hid (∀ w1, Calls Try.prog 116 #[.int .i64 1] w1 fun e w' => e = .returned (.int .i64 2) ∧ w1 = w') := Lib.hid (fun w1 => Spower_any 1 (by omega) w1)
            clear hbj huj
            go_wp2_with fail
            go_region
            go_wp2_with fail
            refine (HP.out _).mono ?_
            rintro e w1 ⟨rfl, rfl⟩
            go_wp2
            go_roundw
            case rel => exact ⟨u + 2 ^ 1, _, _, by go_num, by go_num, h8, by omega, HL, rfl⟩
            case measure => simp [intOf]; omega
          · have e1 : ((s[i + 1]'hlt).toNat : Int) = 99 := by rw [hbj]; rfl
            have e2 : ((s[i]'hil).toNat : Int) < 99 := by have := UInt8.lt_iff_toNat_lt.1 hah; simp at this; omega
            clear hah
            have HP : Hid (∀ w1, Calls Try.prog 116 #[.int .i64 2] w1 fun e w' => e = .returned (.int .i64 4) ∧ w1 = w') := Lib.hid (fun w1 => Spower_any 2 (by omega) w1)
            clear hbj huj
            go_wp2_with fail
            go_region
            go_wp2_with fail
            refine (HP.out _).mono ?_
            rintro e w1 ⟨rfl, rfl⟩
            go_wp2
            go_roundw
            case rel => exact ⟨u + 2 ^ 2, _, _, by go_num, by go_num, h8, by omega, HL, rfl⟩
            case measure => simp [intOf]; omega
      · have HNO := Lib.hid (SetIs.no (l := l) (fun t ht => lw_stop hu HS.out (HAT.out k hlt) hj ht))
        by_cases h97 : ((s[k]'hlt).toNat : Int) < 97
        · clear hj
          go_wp2_with fail
          go_region
          go_wp2
          go_ret
          exact ⟨0, HNO.out, rfl, _, rfl⟩
        by_cases h100 : 99 < ((s[k]'hlt).toNat : Int)
        · have hb := (s[k]'hlt).toNat_lt
          obtain ⟨z, e1⟩ : ∃ z : Int, ((s[k]'hlt).toNat : Int) = z + 97 := ⟨((s[k]'hlt).toNat : Int) - 97, by omega⟩
          have hz1 : decide (z + 97 < 97) = false := by simp; omega
          have hz2 : decide (3 ≤ z) = true := by simp; omega
          have ew : IntKind.u8.wrap z = z := IntWalk.u8_in _ (by omega)
          have ew2 : IntKind.i64.wrap z = z := IntWalk.i64_in _ (by omega)
          clear hj hb h97 h100
          go_wp2_with fail
          go_region
          go_wp2
          go_ret
          exact ⟨0, HNO.out, rfl, _, rfl⟩
        by_cases hk0 : k = 0
        · exfalso
          subst hk0
          have hz : lw u = [] := by rw [← HS.out]; rfl
          have : ((s[0]'hlt).toNat : Int) = 97 ∨ ((s[0]'hlt).toNat : Int) = 98 ∨ ((s[0]'hlt).toNat : Int) = 99 := by omega
          rcases this with h | h | h
          · exact hj ⟨0, by omega, by apply UInt8.toNat_inj.1; show (s[0]'hlt).toNat = 97; omega, lw_first hu hz (by omega)⟩
          · exact hj ⟨1, by omega, by apply UInt8.toNat_inj.1; show (s[0]'hlt).toNat = 98; omega, lw_first hu hz (by omega)⟩
          · exact hj ⟨2, by omega, by apply UInt8.toNat_inj.1; show (s[0]'hlt).toNat = 99; omega, lw_first hu hz (by omega)⟩
        · obtain ⟨i, rfl⟩ : ∃ i, k = i + 1 := ⟨k - 1, by omega⟩
          have hil : i < s.size := by omega
          have : ((s[i + 1]'hlt).toNat : Int) = 97 ∨ ((s[i + 1]'hlt).toNat : Int) = 98 ∨ ((s[i + 1]'hlt).toNat : Int) = 99 := by omega
          rcases this with h | h | h
          · clear hk0
            have e1 : ((s[i + 1]'hlt).toNat : Int) = 97 := by omega
            have e2 : 97 ≤ ((s[i]'hil).toNat : Int) := by
              have := fun h : s[i]'hil < UInt8.ofNat (97 + 0) => hj ⟨0, by omega, by apply UInt8.toNat_inj.1; show (s[i + 1]'hlt).toNat = 97; omega, (lw_ahead hu HS.out (HAT.out i hil) (by omega : 0 < 3)).1 h⟩
              have h2 : ¬ (s[i]'hil).toNat < 97 := fun h => this (UInt8.lt_iff_toNat_lt.2 (by simpa using h))
              omega
            clear hj h97 h100
            go_wp2_with fail
            go_region
            go_wp2
            go_ret
            exact ⟨0, HNO.out, rfl, _, rfl⟩
          · clear hk0
            have e1 : ((s[i + 1]'hlt).toNat : Int) = 98 := by omega
            have e2 : 98 ≤ ((s[i]'hil).toNat : Int) := by
              have := fun h : s[i]'hil < UInt8.ofNat (97 + 1) => hj ⟨1, by omega, by apply UInt8.toNat_inj.1; show (s[i + 1]'hlt).toNat = 98; omega, (lw_ahead hu HS.out (HAT.out i hil) (by omega : 1 < 3)).1 h⟩
              have h2 : ¬ (s[i]'hil).toNat < 98 := fun h => this (UInt8.lt_iff_toNat_lt.2 (by simpa using h))
              omega
            clear hj h97 h100
            go_wp2_with fail
            go_region
            go_wp2
            go_ret
            exact ⟨0, HNO.out, rfl, _, rfl⟩
          · clear hk0
            have e1 : ((s[i + 1]'hlt).toNat : Int) = 99 := by omega
            have e2 : 99 ≤ ((s[i]'hil).toNat : Int) := by
              have := fun h : s[i]'hil < UInt8.ofNat (97 + 2) => hj ⟨2, by omega, by apply UInt8.toNat_inj.1; show (s[i + 1]'hlt).toNat = 99; omega, (lw_ahead hu HS.out (HAT.out i hil) (by omega : 2 < 3)).1 h⟩
              have h2 : ¬ (s[i]'hil).toNat < 99 := fun h => this (UInt8.lt_iff_toNat_lt.2 (by simpa using h))
              omega
            clear hj h97 h100
            go_wp2_with fail
            go_region
            go_wp2
            go_ret
            exact ⟨0, HNO.out, rfl, _, rfl⟩
    · obtain rfl : k = s.size := by omega
      clear hlt
      have HV := Lib.hid (SetIs.yes (l := l) hu (by rw [← HS.out, HSZ.out, List.take_length]))
      by_cases h0 : u = 0
      · subst h0
        go_wp2
        go_ret
        exact ⟨0, HV.out, rfl, m, rfl⟩
      · have e0 : ((u : Int) == 0) = false := by simp; omega
        have HE : Hid (setN u = (u : Int)) := Lib.hid (by simp [setN, h0])
        clear h0
        go_wp2
        go_ret
        exact ⟨u, HV.out, by rw [HE.out]; rfl, m, rfl⟩

end Go.Proofs.Ytccbjgajmjcpjaa

/-
  Chapter 4, the model: texts: the contract of readNumber.
-/
namespace Go.Proofs.Ytccbjgajmjcpjaa
open Go.RowKit Go.Lib

theorem sB_toList (l : List UInt8) : (sB l).toList = l := ByteArray.toList_mk l

set_option maxHeartbeats 1600000 in
theorem SreadNumber_any (s : ByteArray) (w : World) (hs : s.size ≤ 1099511627776) :
    Calls Try.prog 188 #[.string s] w fun e w' => ∃ v : Int, NumW s.data.toList v ∧ -1 ≤ v ∧ v ≤ 10009 ∧ e = .returned (.int .i64 v) ∧ ∃ m, w' = w.drewN m := by
  obtain ⟨l, hl⟩ : ∃ l, l = s.data.toList := ⟨_, rfl⟩
  have HSZ : Hid (s.size = l.length) := Lib.hid (by rw [hl, Array.length_toList]; rfl)
  have HAT : Hid (∀ k (h : k < s.size), l[k]? = some (s[k]'h)) := Lib.hid (fun k h => by rw [hl]; exact sB_at s h)
  have HSB : Hid (s = sB l) := Lib.hid (by rw [hl, sB_list])
  rw [← hl]
  clear hl
  go_enter Try.func188, Try.ntmps188
  go_wp2
  go_loopw [3, 4] (fun o i wr => ∃ (u k m : Nat), o = .int .i64 (u : Int) ∧ i = .int .i64 (k : Int) ∧ u ≤ 10009 ∧ k ≤ s.size ∧ Hid (u = dval (l.take k)) ∧ wr = w.drewN m) (fun _ i _ => s.size - (intOf i).toNat)
  case atStart => exact ⟨0, 0, 0, rfl, rfl, by omega, Nat.zero_le _, Lib.hid (by simp [dval]), rfl⟩
  case round =>
    obtain ⟨u, k, m, rfl, rfl, hu, hks, HS, rfl⟩ := hrel
    by_cases hlt : k < s.size
    · by_cases hd : 48 ≤ (s[k]'hlt).toNat ∧ (s[k]'hlt).toNat ≤ 57
      · obtain ⟨z, hz⟩ : ∃ z : Nat, (s[k]'hlt).toNat = z + 48 := ⟨(s[k]'hlt).toNat - 48, by omega⟩
        have e1 : ((s[k]'hlt).toNat : Int) = (z : Int) + 48 := by omega
        have hz9 : z ≤ 9 := by omega
        have hz1 : decide ((z : Int) + 48 < 48) = false := by simp; omega
        have hz2 : decide (57 < (z : Int) + 48) = false := by simp; omega
        by_cases hbig : 1000 < u
        · have HNO := Lib.hid (NumW.no (l := l) (v := -1) (by omega) (no_big (i := k) (by rw [← HS.out]; omega)))
          have hub : decide (1000 < (u : Int)) = true := by simp; omega
          clear hd hz HS hbig
          go_wp2
          go_ret
          exact ⟨-1, HNO.out, by omega, by omega, rfl, _, rfl⟩
        · have HV : Hid (10 * u + z = dval (l.take (k + 1))) := Lib.hid (by
            rw [List.take_add_one, HAT.out k hlt, Option.toList_some, dval_snoc, ← HS.out, hz]; simp)
          have hub : decide (1000 < (u : Int)) = false := by simp; omega
          have HB : Hid (u ≤ 1000) := Lib.hid (by omega)
          have ew : IntKind.u8.wrap (z : Int) = (z : Int) := IntWalk.u8_in _ (by omega)
          have ew2 : IntKind.i64.wrap (z : Int) = (z : Int) := IntWalk.i64_in _ (by omega)
          clear hd hz HS hbig
          go_wp2
          go_roundw
          case rel => exact ⟨10 * u + z, k + 1, _, by go_num, by go_num, by have := HB.out; omega, by omega, HV, rfl⟩
          case measure => simp [intOf]; omega
      · have HNO := Lib.hid (NumW.no (l := l) (v := -1) (by omega) (no_digit (HAT.out k hlt) (by rw [UInt8.le_iff_toNat_le, UInt8.le_iff_toNat_le]; exact hd)))
        obtain ⟨y, hy⟩ : ∃ y : Nat, (s[k]'hlt).toNat = y := ⟨_, rfl⟩
        rw [hy] at hd
        have e1 : ((s[k]'hlt).toNat : Int) = (y : Int) := by omega
        by_cases h48 : y < 48
        · have hz1 : decide ((y : Int) < 48) = true := by simp; omega
          clear hd hy
          go_wp2
          go_ret
          exact ⟨-1, HNO.out, by omega, by omega, rfl, _, rfl⟩
        · have hz1 : decide ((y : Int) < 48) = false := by simp; omega
          have hz2 : decide (57 < (y : Int)) = true := by simp; omega
          clear hd hy
          go_wp2
          go_ret
          exact ⟨-1, HNO.out, by omega, by omega, rfl, _, rfl⟩
    · obtain rfl : k = s.size := by omega
      clear hlt
      have HU : Hid (dval l = u) := Lib.hid (by rw [HS.out, HSZ.out, List.take_length])
      rcases hem : s.toList.isEmpty with _ | _
      · have hne : l ≠ [] := by
          rintro rfl
          rw [HSB.out] at hem
          simp [sB] at hem
        have HN : Hid (∀ w, Calls Try.prog 191 #[.int .i64 (u : Int)] w (TextIs w (decDigits u))) := Lib.hid (fun w => Snumber_any 4 u (by omega) (by omega) w)
        by_cases hd : l = decDigits u
        · have hcmp : ((sB (decDigits u)).toList == s.toList) = true := by rw [HSB.out, ← hd]; simp
          have HY := Lib.hid (NumW.yes hd HU.out)
          clear hd
          go_wp2_with fail
          refine (HN.out _).mono ?_
          rintro e w1 ⟨rfl, m1, rfl⟩
          go_wp2
          go_ret
          exact ⟨(u : Int), HY.out, by omega, by omega, rfl, _, rfl⟩
        · have hcmp : ((sB (decDigits u)).toList == s.toList) = false := by
            rw [HSB.out, beq_eq_false_iff_ne, sB_toList, sB_toList]; exact fun e => hd e.symm
          have HNO := Lib.hid (NumW.no (l := l) (v := -1) (by omega) (no_other HU.out hd))
          clear hd
          go_wp2_with fail
          refine (HN.out _).mono ?_
          rintro e w1 ⟨rfl, m1, rfl⟩
          go_wp2
          go_ret
          exact ⟨-1, HNO.out, by omega, by omega, rfl, _, rfl⟩
      · have HNO := Lib.hid (NumW.no (l := l) (v := -1) (by omega) (fun m _ => by
          have : l = [] := by
            rw [HSB.out] at hem
            simpa [sB] using hem
          rw [this]; exact fun e => dec_ne m e.symm))
        go_wp2
        go_ret
        exact ⟨-1, HNO.out, by omega, by omega, rfl, _, rfl⟩

end Go.Proofs.Ytccbjgajmjcpjaa

/-
  Chapter 4, the model: texts: the contract of sumFrom.
-/
namespace Go.Proofs.Ytccbjgajmjcpjaa
open Go.RowKit Go.Lib

def setsO (os : Offers) : List Int := os.map (fun o => ((o.1 : Nat) : Int))
def pricesO (os : Offers) : List Int := os.map (fun o => ((o.2 : Nat) : Int))
theorem sumF_bd : ∀ {os : Offers}, Fine os → ∀ x, sumF os x ≤ 30 * os.length
  | [], _, x => by simp [sumF]
  | o :: os, h, x => by
    have h1 := sumF_bd (os := os) (fun p hp => h p (by simp [hp])) x
    have h2 := sumF_bd (os := os) (fun p hp => h p (by simp [hp])) (x - o.1)
    have h3 := (h o (by simp)).2.2
    simp only [sumF, List.length_cons]
    split <;> omega
theorem calls_q4 {P : Program} {f : FuncId} {args : Array Value} {w : World} {m : Nat} {v : Value} (h : Calls P f args (w.drewN m) fun e w' => e = .returned v ∧ ∃ k, w' = (w.drewN m).drewN k) :
    Calls P f args (w.drewN m) fun e w'' => e = .returned v ∧ ∃ k, w'' = w.drewN k := h.mono fun _ _ ⟨he, k, hw⟩ => ⟨he, m + k, by rw [hw]; simp⟩

theorem Rd.cutAny {w : World} {b off c k c2 : Nat} {zs : List Int} (h : Rd w (some ⟨b, off, none⟩) c zs) (hl : zs.length ≤ c) : Rd w (if c = k then some ⟨b, off, none⟩ else some ⟨b, off + k, none⟩) c2 (zs.drop k) := by
  split
  · rw [List.drop_eq_nil_of_le (by omega)]
    exact .inl ⟨rfl, fun h => by cases h⟩
  · exact h.drop_ k

set_option maxHeartbeats 1600000 in
theorem SsumFrom_any : ∀ (n : Nat) (os : Offers) (A B : Option Addr) (c d x : Nat) (w : World), os.length = n → Fine os → n ≤ 7 → x < 8 → Rd w A c (setsO os) → Rd w B d (pricesO os) → n ≤ c → n ≤ d →
    Calls Try.prog 189 #[.slice A n c, .slice B n d, .int .i64 (x : Int)] w fun e w' => e = .returned (.int .i64 (sumF os x)) ∧ ∃ m, w' = w.drewN m := by
  intro n
  induction n using Nat.strongRecOn with
  | _ n ih =>
    intro os A B c d x w hn hf hn7 hx hA hB hc hd
    have HIH := Lib.hid ih
    clear ih
    have HF := Lib.hid hf
    have HN := Lib.hid hn
    have HA := Lib.hid hA
    have HB := Lib.hid hB
    clear hn hf hA hB
    go_enter Try.func189, Try.ntmps189
    go_wp2
    go_loopw [7, 8] (fun o i wr => ∃ (k m : Nat) (v : Int), o = .int .i64 v ∧ i = .int .i64 (k : Int) ∧ k ≤ n ∧ 0 ≤ v ∧ Hid (sumF os x = max v (sumF (os.drop k) x)) ∧ wr = w.drewN m) (fun _ i _ => n - (intOf i).toNat)
    case atStart => exact ⟨0, 0, 0, rfl, rfl, by omega, by omega, Lib.hid (by have := sumF_nonneg os x; simp; omega), rfl⟩
    case round =>
      obtain ⟨k, m, v, rfl, rfl, hk, hv, HS, rfl⟩ := hrel
      by_cases hlt : k < n
      · have hkl : k < os.length := by have := HN.out; omega
        obtain ⟨o, ho⟩ : ∃ o, os[k]? = some o := ⟨os[k], List.getElem?_eq_getElem hkl⟩
        obtain ⟨ho1, ho8, ho30⟩ := HF.out o (List.mem_of_getElem? ho)
        obtain ⟨b, off, y, rfl, _, hy, hcy⟩ := HA.out.at_ (k := k) (by simp [setsO]; exact hkl)
        obtain ⟨b2, off2, z, rfl, _, hz, hcz⟩ := HB.out.at_ (k := k) (by simp [pricesO]; exact hkl)
        obtain rfl : y = ((o.1 : Nat) : Int) := by have := hy.out; simp [setsO, ho] at this; exact this.symm
        obtain rfl : z = ((o.2 : Nat) : Int) := by have := hz.out; simp [pricesO, ho] at this; exact this.symm
        have HD : Hid (sumF (os.drop k) x = max (sumF (os.drop (k + 1)) x) (if x &&& o.1 = o.1 then (o.2 : Int) + sumF (os.drop (k + 1)) (x - o.1) else 0)) := Lib.hid (by
          rw [List.drop_eq_getElem_cons hkl]
          have e : os[k] = o := by rw [List.getElem?_eq_getElem hkl] at ho; exact Option.some.inj ho
          rw [e]; rfl)
        have ha := and_nat ho8 hx
        rw [Nat.and_comm] at ha
        by_cases hin : x &&& o.1 = o.1
        · rw [hin] at ha
          have hnn := andNot_sub hx ho8 (by rw [Nat.and_comm]; exact hin)
          have hk0 : (0 : Int) ≤ (k : Int) := by omega
          obtain ⟨p, hp⟩ : ∃ p, p = sumF (os.drop (k + 1)) (x - o.1) := ⟨_, rfl⟩
          have HC : Hid (∀ j, Calls Try.prog 189 #[.slice (if c = k + 1 then some ⟨b, off, none⟩ else some ⟨b, off + (k + 1), none⟩) (n - (k + 1)) (c - (k + 1)), .slice (if d = k + 1 then some ⟨b2, off2, none⟩ else some ⟨b2, off2 + (k + 1), none⟩) (n - (k + 1)) (d - (k + 1)), .int .i64 ((x - o.1 : Nat) : Int)] (w.drewN (m + 1 + j)) fun e w' => e = .returned (.int .i64 p) ∧ ∃ i, w' = w.drewN (m + 1 + i)) :=
            Lib.hid (fun j => calls_q2 (by
              rw [hp]
              refine HIH.out (n - (k + 1)) (by omega) (os.drop (k + 1)) _ _ _ _ _ _ (by rw [List.length_drop, HN.out]) (fun q hq => HF.out q (List.mem_of_mem_drop hq)) (by omega) (by omega) ?_ ?_ (by omega) (by omega)
              · unfold setsO; rw [List.map_drop]; exact HA.out.cutAny (by simp [setsO, HN.out]; omega)
              · unfold pricesO; rw [List.map_drop]; exact HB.out.cutAny (by simp [pricesO, HN.out]; omega)))
          have hpb : 0 ≤ p ∧ p ≤ 210 := by
            rw [hp]
            have h1 := sumF_nonneg (os.drop (k + 1)) (x - o.1)
            have h2 := sumF_bd (os := os.drop (k + 1)) (fun q hq => HF.out q (List.mem_of_mem_drop hq)) (x - o.1)
            rw [List.length_drop, HN.out] at h2
            omega
          have HS2 : Hid (sumF os x = max (if v < (o.2 : Int) + p then (o.2 : Int) + p else v) (sumF (os.drop (k + 1)) x)) := Lib.hid (by
            rw [HS.out, HD.out, if_pos hin, ← hp]
            have := sumF_nonneg (os.drop (k + 1)) x
            split <;> omega)
          have e1 : IntKind.i64.wrap ((o.2 : Int) + p) = (o.2 : Int) + p := IntWalk.i64_in _ (by omega)
          clear hp hin HD HS ho
          go_wp2_with fail
          go_region
          go_wp2_with fail
          go_quiet ((go_at_call 189; exact HC.out _))
          go_wp2
          go_roundw
          case rel => exact ⟨k + 1, _, _, rfl, by go_num, by omega, by split <;> omega, HS2, rfl⟩
          case measure => simp [intOf]; omega
        · have HS2 : Hid (sumF os x = max v (sumF (os.drop (k + 1)) x)) := Lib.hid (by
            rw [HS.out, HD.out, if_neg hin]
            have := sumF_nonneg (os.drop (k + 1)) x
            omega)
          have hne : (((x &&& o.1 : Nat) : Int) == ((o.1 : Nat) : Int)) = false := by
            rw [beq_eq_false_iff_ne]; omega
          clear hin HD HS
          go_wp2_with fail
          go_region
          go_wp2
          go_roundw
          case rel => exact ⟨k + 1, _, v, rfl, by go_num, by omega, hv, HS2, rfl⟩
          case measure => simp [intOf]; omega
      · obtain rfl : k = n := by omega
        have HE : Hid (sumF os x = v) := Lib.hid (by
          rw [HS.out, List.drop_eq_nil_of_le (by rw [HN.out]; exact Nat.le_refl _)]; simp [sumF]; omega)
        go_wp2
        go_ret
        exact ⟨by rw [HE.out]; rfl, _, rfl⟩

end Go.Proofs.Ytccbjgajmjcpjaa

/-
  Chapter 4, the model: texts: plain words for readOffer, an append of one number.
-/
namespace Go.Proofs.Ytccbjgajmjcpjaa
open Go.RowKit Go.Lib

theorem wpList_append_int {ops : Array Oper} {rest : List Oper} {o : Oper} {a : Act} {w : World} {Q : Exit → Act → World → Prop} (hgd : o.guard = none) (s x : Operand)
    (ho : o.op = .call { callee := .builtin .append, args := #[s, x], argTypes := #[24, 24] })
    (B : Nat) (ga n ca : Nat) (xs : List Int) (hxs : xs.length = n) (hs : a.eval s = .slice (some ⟨ga, 0, none⟩) n ca) (hown : Own w B (some ⟨ga, 0, none⟩) ca xs) (g : Nat) (y : Int) (hx : a.eval x = .slice (some ⟨g, 0, none⟩) 1 1)
    (hc : w.cell? ⟨g, 0, none⟩ = some (.int .i64 y)) (hn : n ≤ 1099511627776) (hB : B ≤ w.heap.size)
    (h : ∀ gb cb w', Own w' B (some ⟨gb, 0, none⟩) cb (xs ++ [y]) → w.grownBy w' (some ga) → (gb = ga ∨ gb = w.heap.size) → wpList Try.prog ops Q rest (a.put o.dst (.slice (some ⟨gb, 0, none⟩) (n + 1) cb)) w') :
    wpList Try.prog ops Q (o :: rest) a w := by
  subst hxs
  obtain ⟨i0, hi, hz0, hz1, hz2⟩ := info_parts int_info
  refine wpList_append_own_at _ hgd s x 24 ho B 3 i0 (.int .i64 0) 1 8 Try.underlying24 hi hz0 hz1 hz2 rfl (by decide) (.slice (some ⟨ga, 0, none⟩) xs.length ca) xs.length (xs.map (Value.int .i64)) hs hown ⟨g, 0, none⟩ 1 1 [.int .i64 y] hx rfl ?_ (by simp [Value.oneCell']) (by unfold maxLen; omega) (by omega) hB ?_
  · intro j u hu
    rcases j with _ | j
    · simp at hu; subst hu; exact hc
    · simp at hu
  · intro v' w' h1 h2 _ h4
    have h5 : w'.ownsRow B 3 1 v' (xs ++ [y]).length ((xs ++ [y]).map (Value.int .i64)) := by
      rw [List.length_append, List.map_append]; exact h1
    obtain ⟨_, hsh⟩ := own_shape h5
    rcases hsh with ⟨_, hnil⟩ | ⟨gb, cb, rfl⟩
    · simp at hnil
    · have e : Value.slice (some (⟨gb, 0, none⟩ : Addr)) (xs ++ [y]).length cb = .slice (some ⟨gb, 0, none⟩) (xs.length + 1) cb := by rw [List.length_append]; rfl
      have h6 : Own w' B (some ⟨gb, 0, none⟩) cb (xs ++ [y]) := h5
      rw [e]
      refine h gb cb w' h6 h2 ?_
      rcases h4 with h4 | h4
      · exact .inl (Option.some.inj h4)
      · exact .inr (Option.some.inj h4)

theorem grown_cell {w w' : World} {r : Nat} {p : Addr} (hg : w.grownBy w' (some r)) (h1 : p.block < w.heap.size) (h2 : p.block ≠ r) : w'.cell? p = w.cell? p := by
  unfold World.cell?
  rw [hg.block _ h1 (fun e => h2 (Option.some.inj e))]
theorem OwnW.cell {w : World} {B g c : Nat} {ws : List (List UInt8)} (h : OwnW w B (.slice (some ⟨g, 0, none⟩) ws.length c) ws) {i : Nat} {l : List UInt8} (hl : ws[i]? = some l) : w.cell? ⟨g, i, none⟩ = some (.string (sB l)) := by
  have hi := (List.getElem?_eq_some_iff.1 hl).1
  have := World.ownsRow.cellAt h i (by omega)
  rw [this, List.getElem?_map, hl]; rfl
theorem OwnW.lt {w : World} {B g n c : Nat} {ws : List (List UInt8)} (h : OwnW w B (.slice (some ⟨g, 0, none⟩) n c) ws) : B ≤ g ∧ g < w.heap.size := World.ownsRow.lt h g rfl

/-- The word between offers, if there was one. -/
def sepO : Option Bool → List UInt8
  | none => []
  | some y => sepOf y
theorem SetIs.one {l : List UInt8} {v v' : Nat} (h : SetIs l v) (h' : SetIs l v') : v = v' := by
  by_cases h0 : v = 0
  · by_cases h1 : v' = 0
    · rw [h0, h1]
    · exact h.2.2 v' (by omega) h'.1 (h'.2.1 h1)
  · exact (h'.2.2 v (by omega) h.1 (h.2.1 h0)).symm
theorem NumW.one {l : List UInt8} {v v' : Int} (h : NumW l v) (h' : NumW l v') (h0 : 0 ≤ v) (h1 : v ≤ 30) : v' = v := by
  have e : v = ((v.toNat : Nat) : Int) := by omega
  have := (h v.toNat (by omega)).1 e
  rw [e]
  exact (h' v.toNat (by omega)).2 this
theorem setN_neg {v : Nat} : setN v < 0 ↔ v = 0 := by unfold setN; split <;> omega
theorem setN_pos {v : Nat} (h : v ≠ 0) : setN v = v := by unfold setN; simp [h]

/-- What a text tells: its table, told as it lies, and whether it is one. -/
def RdIs (w : World) (l : List UInt8) (e : Ending) (w' : World) : Prop :=
  Below w.heap.size w w' ∧ ((∃ t g c, rdF l = some t ∧ e = .returned (.tuple #[.slice (some ⟨g, 0, none⟩) 8 c, .bool (vt t)]) ∧ Own w' w.heap.size (some ⟨g, 0, none⟩) c t) ∨ (rdF l = none ∧ e = .returned (.tuple #[.slice none 0 0, .bool false])))

theorem spl_two {w a b : List UInt8} (h : spl 58 w = [a, b]) : w = a ++ 58 :: b ∧ 58 ∉ a := by
  refine ⟨?_, spl_free (c := 58) a (by rw [h]; simp)⟩
  have := spl_join (c := 58) w
  rw [h] at this
  rw [← this]
  simp [join]
theorem spl_no {w : List UInt8} (h : (spl 58 w).length ≠ 2) (t m : Nat) : ¬ OfferIs w t m := fun ho => h (by rw [ho.spl]; rfl)
theorem rdF_bad {l : List UInt8} (hl : l ≠ []) (h : ∀ x os, Fine os → os ≠ [] → spl 32 l ≠ inter x os) : rdF l = none :=
  rdF_none hl (fun x os hs => absurd (says_words hs) (h x os hs.1 hs.2.1))

theorem spl_mem_len {c : UInt8} : ∀ {l w : List UInt8}, w ∈ spl c l → w.length ≤ l.length
  | [], w, h => by simp [spl] at h; simp [h]
  | b :: l, w, h => by
    rw [spl] at h
    split at h
    · rcases List.mem_cons.1 h with rfl | h
      · simp
      · have := spl_mem_len h; simp; omega
    · split at h
      · next he => exact absurd he (spl_ne c l)
      · next x t he =>
        rcases List.mem_cons.1 h with rfl | h
        · have := spl_mem_len (c := c) (l := l) (w := x) (by rw [he]; simp)
          simp; omega
        · have := spl_mem_len (c := c) (l := l) (w := w) (by rw [he]; simp [h])
          simp; omega
theorem spl_len {c : UInt8} : ∀ (l : List UInt8), (spl c l).length ≤ l.length + 1
  | [] => by simp [spl]
  | b :: l => by
    have ih := spl_len (c := c) l
    rw [spl]
    split
    · simp; omega
    · split
      · next he => simp
      · next x t he => rw [he] at ih; simp at ih ⊢; omega
theorem NumW_some (l : List UInt8) : ∃ v : Int, NumW l v := by
  by_cases h : ∃ m, m ≤ 30 ∧ l = decDigits m
  · obtain ⟨m, hm, e⟩ := h
    exact ⟨m, NumW.yes e (by rw [e]; exact dval_dec hm)⟩
  · exact ⟨-1, NumW.no (by omega) (fun m hm e => h ⟨m, hm, e⟩)⟩
theorem setIs_some (l : List UInt8) : ∃ v, SetIs l v := by
  by_cases h : ∃ t, t < 8 ∧ l = lw t
  · obtain ⟨t, ht, e⟩ := h
    exact ⟨t, SetIs.yes ht e⟩
  · exact ⟨0, SetIs.no (fun t ht e => h ⟨t, ht, e⟩)⟩
/-- The set of a word. -/
noncomputable def setF (l : List UInt8) : Nat := Classical.choose (setIs_some l)
theorem setF_is (l : List UInt8) : SetIs l (setF l) := Classical.choose_spec (setIs_some l)
theorem SreadSet_n (l : List UInt8) (w : World) (hs : l.length ≤ 1099511627776) :
    Calls Try.prog 187 #[.string (sB l)] w fun e w' => e = .returned (.int .i64 (setN (setF l))) ∧ ∃ m, w' = w.drewN m := by
  refine (SreadSet_any (sB l) w (by rw [sB_size]; exact hs)).mono ?_
  rintro e w' ⟨v, hv, rfl, hw⟩
  have hv : SetIs l v := by simpa [sB] using hv
  rw [hv.one (setF_is l)]
  exact ⟨rfl, hw⟩
theorem SreadNumber_n (l : List UInt8) (w : World) (hs : l.length ≤ 1099511627776) :
    Calls Try.prog 188 #[.string (sB l)] w fun e w' => ∃ v : Int, NumW l v ∧ -1 ≤ v ∧ v ≤ 10009 ∧ e = .returned (.int .i64 v) ∧ ∃ m, w' = w.drewN m := by
  refine (SreadNumber_any (sB l) w (by rw [sB_size]; exact hs)).mono ?_
  rintro e w' ⟨v, hv, h⟩
  exact ⟨v, by simpa [sB] using hv, h⟩

/-- Where the loops over the table stand. -/
structure TabAt (w : World) (S ga ca gb cb : Nat) (os : Offers) (zs : List Int) (wr : World) : Prop where
  out : Own wr w.heap.size (some ⟨w.heap.size, 0, none⟩) 8 zs
  sets : Own wr S (some ⟨ga, 0, none⟩) ca (setsO os)
  prices : Own wr S (some ⟨gb, 0, none⟩) cb (pricesO os)
  below : Below w.heap.size w wr
theorem TabAt.drewN {w : World} {S ga ca gb cb : Nat} {os : Offers} {zs : List Int} {wr : World} (h : TabAt w S ga ca gb cb os zs wr) (n : Nat) : TabAt w S ga ca gb cb os zs (wr.drewN n) :=
  ⟨h.out.drewN n, h.sets.drewN n, h.prices.drewN n, below_drewN' h.below n⟩
theorem grow_setU (W : World) (g j : Nat) (v : Value) : W.grownBy (W.setCell ⟨g, j, none⟩ v) (some g) :=
  ⟨rfl, rfl, rfl, by show W.heap.size ≤ (W.heap.modify _ _).size; rw [Array.size_modify]; exact Nat.le_refl _, fun i _ hi => Below.heap_setCell W _ v i (fun e => hi (by rw [e]))⟩
theorem TabAt.set_ {w : World} {S ga ca gb cb : Nat} {os : Offers} {zs : List Int} {wr : World} (h : TabAt w S ga ca gb cb os zs wr) (hS : w.heap.size < S) (i : Nat) (v : Int) : TabAt w S ga ca gb cb os (zs.set i v) (wr.setCell ⟨w.heap.size, i, none⟩ (.int .i64 v)) := by
  have h1 := h.sets.ge
  have h2 := h.prices.ge
  exact ⟨h.out.set_ i v, World.ownsRow.kept h.sets (grow_setU wr w.heap.size i _) (.inr (by show some ga ≠ some w.heap.size; intro e; injection e; omega)), World.ownsRow.kept h.prices (grow_setU wr w.heap.size i _) (.inr (by show some gb ≠ some w.heap.size; intro e; injection e; omega)), h.below.setCell (Nat.le_refl _) _⟩
theorem filled_rest {zs : List Int} {k : Nat} (hk : k < zs.length) : (filled zs k)[k]? = some 0 := by
  unfold filled
  rw [List.getElem?_append_right (by simp; omega)]
  simp [List.getElem?_replicate]; omega
theorem filled_same {zs : List Int} {k : Nat} (hk : k < zs.length) : (filled zs k).set k 0 = filled zs k := by
  apply List.ext_getElem?
  intro i
  rw [List.getElem?_set]
  split
  · next e =>
    subst e
    rw [filled_rest hk]
    split
    · rfl
    · next h => exact absurd (by rw [filled_len _ _ (by omega)]; exact hk) h
  · rfl
theorem xval_take {os : Offers} {i : Nat} {o : Nat × Nat} (h : os[i]? = some o) (s : Nat) : xval (os.take (i + 1)) s = if s &&& o.1 = o.1 then max (xval (os.take i) s) (o.2 : Int) else xval (os.take i) s := by
  rw [List.take_add_one, h, Option.toList_some, xval_snoc]

end Go.Proofs.Ytccbjgajmjcpjaa

/-
  Chapter 4, the model: texts: the contract of readOffer.
-/
namespace Go.Proofs.Ytccbjgajmjcpjaa
open Go.RowKit Go.Lib

theorem SsplitAt_n (s : ByteArray) (c : UInt8) (k : Int) (hk : k = (c.toNat : Int)) (w : World) (hs : s.size ≤ 1099511627776) :
    Calls Try.prog 186 #[.string s, .int .u8 k] w fun e w' => ∃ g cc, e = .returned (.slice (some ⟨g, 0, none⟩) (spl c s.data.toList).length cc) ∧ OwnW w' w.heap.size (.slice (some ⟨g, 0, none⟩) (spl c s.data.toList).length cc) (spl c s.data.toList) ∧ Below w.heap.size w w' := by
  subst hk
  refine (SsplitAt_any s c w hs).mono ?_
  rintro e w' ⟨v, rfl, ho, hb⟩
  rcases ho.shape with ⟨_, h⟩ | ⟨g, cc, rfl⟩
  · exact absurd h (spl_ne _ _)
  · exact ⟨g, cc, rfl, ho, hb⟩

/-- The lists that the loop over the words fills. -/
structure ListsAt (W : List (List UInt8)) (w0 : World) (gW cW gO S : Nat) (xs ys : List Int) (ga ca gb cb : Nat) (wr : World) : Prop where
  words : OwnW wr 0 (.slice (some ⟨gW, 0, none⟩) W.length cW) W
  out : Own wr w0.heap.size (some ⟨gO, 0, none⟩) 8 (List.replicate 8 0)
  sets : Own wr S (some ⟨ga, 0, none⟩) ca xs
  prices : Own wr S (some ⟨gb, 0, none⟩) cb ys
  ne : ga ≠ gb
  below : Below w0.heap.size w0 wr
theorem ListsAt.same {W : List (List UInt8)} {w0 : World} {gW cW gO S : Nat} {xs ys : List Int} {ga ca gb cb : Nat} {wr wr' : World} (h : ListsAt W w0 gW cW gO S xs ys ga ca gb cb wr) (hb : Below wr.heap.size wr wr') : ListsAt W w0 gW cW gO S xs ys ga ca gb cb wr' :=
  ⟨h.words.below hb, h.out.below hb, h.sets.below hb, h.prices.below hb, h.ne, below_then h.below hb⟩
theorem ListsAt.addSet {W : List (List UInt8)} {w0 : World} {gW cW gO S : Nat} {xs ys zs : List Int} {ga ca gb cb gc cc : Nat} {wr wr' : World} (h : ListsAt W w0 gW cW gO S xs ys ga ca gb cb wr) (hg : wr.grownBy wr' (some ga)) (ho : Own wr' S (some ⟨gc, 0, none⟩) cc zs) (hc : gc = ga ∨ gc = wr.heap.size)
    (hW : gW < S) (hO : gO < S) (h0 : w0.heap.size ≤ S) : ListsAt W w0 gW cW gO S zs ys gc cc gb cb wr' := by
  have h1 := h.sets.ge
  have h2 := h.prices.lt
  refine ⟨World.ownsRow.kept h.words hg (.inr (by show some gW ≠ some ga; intro e; injection e; omega)), World.ownsRow.kept h.out hg (.inr (by show some gO ≠ some ga; intro e; injection e; omega)), ho, World.ownsRow.kept h.prices hg (.inr (by show some gb ≠ some ga; intro e; injection e with e; exact h.ne e.symm)), ?_, h.below.grown hg h.below.size (fun k e => by injection e with e; omega)⟩
  rcases hc with rfl | rfl
  · exact h.ne
  · omega
theorem ListsAt.addPrice {W : List (List UInt8)} {w0 : World} {gW cW gO S : Nat} {xs ys zs : List Int} {ga ca gb cb gc cc : Nat} {wr wr' : World} (h : ListsAt W w0 gW cW gO S xs ys ga ca gb cb wr) (hg : wr.grownBy wr' (some gb)) (ho : Own wr' S (some ⟨gc, 0, none⟩) cc zs) (hc : gc = gb ∨ gc = wr.heap.size)
    (hW : gW < S) (hO : gO < S) (h0 : w0.heap.size ≤ S) : ListsAt W w0 gW cW gO S xs zs ga ca gc cc wr' := by
  have h1 := h.prices.ge
  have h2 := h.sets.lt
  refine ⟨World.ownsRow.kept h.words hg (.inr (by show some gW ≠ some gb; intro e; injection e; omega)), World.ownsRow.kept h.out hg (.inr (by show some gO ≠ some gb; intro e; injection e; omega)), World.ownsRow.kept h.sets hg (.inr (by show some ga ≠ some gb; intro e; injection e with e; exact h.ne e)), ho, ?_, h.below.grown hg h.below.size (fun k e => by injection e with e; omega)⟩
  rcases hc with rfl | rfl
  · exact h.ne
  · omega

/-- Where the loop over the words stands. -/
structure WordAt (W : List (List UInt8)) (w0 : World) (gW cW gO S : Nat) (k : Nat) (x : Option Bool) (os : Offers) (ga ca gb cb : Nat) (wr : World) : Prop where
  upto : Upto W k x os
  lists : ListsAt W w0 gW cW gO S (setsO os) (pricesO os) ga ca gb cb wr
theorem WordAt.same {W : List (List UInt8)} {w0 : World} {gW cW gO S k : Nat} {x : Option Bool} {os : Offers} {ga ca gb cb : Nat} {wr wr' : World} (h : WordAt W w0 gW cW gO S k x os ga ca gb cb wr) (hb : Below wr.heap.size wr wr') : WordAt W w0 gW cW gO S k x os ga ca gb cb wr' :=
  ⟨h.upto, h.lists.same hb⟩
theorem OwnW.base0 {w : World} {B : Nat} {v : Value} {ws : List (List UInt8)} (h : OwnW w B v ws) : OwnW w 0 v ws := own_base h (Nat.zero_le _)

set_option maxRecDepth 100000 in
set_option maxHeartbeats 4000000 in
theorem SreadOffer_any (s : ByteArray) (w : World) (hs : s.size ≤ 1048576) :
    Calls Try.prog 176 #[.string s] w (RdIs w s.data.toList) := by
  have HP : Hid (∀ w1, Calls Try.prog 116 #[.int .i64 3] w1 fun e w' => e = .returned (.int .i64 8) ∧ w1 = w') := Lib.hid (fun w1 => Spower_any 3 (by omega) w1)
  obtain ⟨l, hl⟩ : ∃ l, l = s.data.toList := ⟨_, rfl⟩
  have HSB : Hid (s = sB l) := Lib.hid (by rw [hl, sB_list])
  have HSP := Lib.hid (fun w1 => SsplitAt_n s 32 32 rfl w1 (by omega))
  rw [← hl] at HSP ⊢
  clear hl
  rcases hem : s.toList.isEmpty with _ | _
  · have HNE : Hid (l ≠ []) := Lib.hid (by
      rintro rfl
      rw [HSB.out] at hem
      simp [sB] at hem)
    obtain ⟨W, hW⟩ : ∃ W, W = spl 32 l := ⟨_, rfl⟩
    have HW := Lib.hid hW
    rw [← hW] at HSP
    clear hW
    go_enter Try.func176, Try.ntmps176
    go_wp2_with (first
      | (go_at_call 116; refine (HP.out _).mono ?_; rintro e w1 ⟨rfl, rfl⟩)
      | (at_make; refine wpList_make_ints rfl _ _ rfl w.heap.size 8 rfl rfl (by omega) (by simp) ?_; intro w2 ho hb)
      | (go_at_call 186; refine (HSP.out _).mono ?_; rintro e w3 ⟨gW, cW, rfl, oW, b3⟩))
    have hgW := oW.lt
    have hs2 : w.heap.size < w2.heap.size := ho.lt
    have b4 : Below w3.heap.size w3 ((w3.alloc (.cells #[] 3)).alloc (.cells #[] 3)) := ((Below.refl _ w3).alloc (Nat.le_refl _) _).alloc (by simp) _
    have HI0 : Hid (WordAt W w gW cW w.heap.size w3.heap.size 0 none [] w3.heap.size 0 (w3.heap.size + 1) 0 ((w3.alloc (.cells #[] 3)).alloc (.cells #[] 3))) := Lib.hid
      ⟨Upto.start W, ⟨oW.base0.below b4, (ho.below b3).below b4, World.ownsRow.alloc (own_empty w3) _, by have := (own_empty (w3.alloc (.cells #[] 3))).base (B' := w3.heap.size) (by simp); rw [World.size_alloc] at this; exact this, by omega, below_then hb (b3.trans (b4.mono b3.size))⟩⟩
    have hgO : w.heap.size < w3.heap.size := Nat.lt_of_lt_of_le hs2 b3.size
    have hgW2 := hgW.2
    clear oW b3 hb ho b4 hgW hs2
    go_loopw [6, 7, 8, 9] (fun sv pv wv iv wr => ∃ (k ga ca gb cb : Nat) (x : Option Bool) (os : Offers), sv = .slice (some ⟨ga, 0, none⟩) os.length ca ∧ pv = .slice (some ⟨gb, 0, none⟩) os.length cb ∧ wv = .string (sB (sepO x)) ∧ iv = .int .i64 (k : Int) ∧ k ≤ W.length ∧ Hid (WordAt W w gW cW w.heap.size w3.heap.size k x os ga ca gb cb wr))
      (fun _ _ _ i _ => W.length - (intOf i).toNat)
    case atStart => exact ⟨0, w3.heap.size, 0, w3.heap.size + 1, 0, none, [], by first | rfl | simp, by first | rfl | simp, rfl, rfl, Nat.zero_le _, HI0⟩
    case round =>
      obtain ⟨k, ga, ca, gb, cb, x, os, rfl, rfl, rfl, rfl, hk, HI⟩ := hrel
      by_cases hlt : k < W.length
      · obtain ⟨wk, hwk⟩ : ∃ wk, W[k]? = some wk := ⟨_, List.getElem?_eq_getElem hlt⟩
        have HK := Lib.hid hwk
        have HLT := Lib.hid hlt
        have hkb : k ≤ 1048576 := by
          have h1 := spl_len (c := 32) l
          rw [← HW.out] at h1
          rw [HSB.out, sB_size] at hs
          omega
        have hcW := HI.out.lists.words.cell hwk
        have hk0 : (0 : Int) ≤ (k : Int) := by omega
        clear hwk
        by_cases hodd : k % 2 = 1
        · obtain ⟨j, rfl⟩ : ∃ j, k = 2 * j + 1 := ⟨k / 2, by omega⟩
          have hm : ((2 * j + 1 : Nat) : Int) % 2 = 1 := by omega
          by_cases hx1 : wk = sepOf true
          · subst hx1
            clear hodd
            have e1 : (sB (sepOf true)).toList = [120, 111, 114] := by rw [sB_toList]; rfl
            obtain rfl | rfl | rfl : x = none ∨ x = some true ∨ x = some false := by rcases x with _ | _ | _ <;> simp
            · have e2 : (sB (sepO none)).toList = [] := by rw [sB_toList]; rfl
              go_wp2
              refine ⟨⟨2 * j + 1 + 1, ga, ca, gb, cb, some true, os, rfl, rfl, rfl, by go_num, HLT.out, Lib.hid ⟨HI.out.upto.sep (by have := HI.out.upto.len; omega) (.inl rfl) HK.out, HI.out.lists⟩⟩, by
                have := HLT.out
                simp only [intOf]; omega⟩
            · have e2 : (sB (sepO (some true))).toList = [120, 111, 114] := by rw [sB_toList]; rfl
              go_wp2
              refine ⟨⟨2 * j + 1 + 1, ga, ca, gb, cb, some true, os, rfl, rfl, rfl, by go_num, HLT.out, Lib.hid ⟨HI.out.upto.sep (by have := HI.out.upto.len; omega) (.inr rfl) HK.out, HI.out.lists⟩⟩, by
                have := HLT.out
                simp only [intOf]; omega⟩
            · have e2 : (sB (sepO (some false))).toList = [111, 114] := by rw [sB_toList]; rfl
              have HR := Lib.hid (rdF_bad HNE.out (fun y' os' _ _ => by rw [← HW.out]; exact HI.out.upto.no_mix (k := j) HK.out (by decide)))
              go_wp2
              go_ret2
              exact ⟨HI.out.lists.below, .inr ⟨HR.out, rfl⟩⟩
          by_cases hx2 : wk = sepOf false
          · subst hx2
            clear hx1 hodd
            have e1 : (sB (sepOf false)).toList = [111, 114] := by rw [sB_toList]; rfl
            obtain rfl | rfl | rfl : x = none ∨ x = some true ∨ x = some false := by rcases x with _ | _ | _ <;> simp
            · have e2 : (sB (sepO none)).toList = [] := by rw [sB_toList]; rfl
              go_wp2
              refine ⟨⟨2 * j + 1 + 1, ga, ca, gb, cb, some false, os, rfl, rfl, rfl, by go_num, HLT.out, Lib.hid ⟨HI.out.upto.sep (by have := HI.out.upto.len; omega) (.inl rfl) HK.out, HI.out.lists⟩⟩, by
                have := HLT.out
                simp only [intOf]; omega⟩
            · have e2 : (sB (sepO (some true))).toList = [120, 111, 114] := by rw [sB_toList]; rfl
              have HR := Lib.hid (rdF_bad HNE.out (fun y' os' _ _ => by rw [← HW.out]; exact HI.out.upto.no_mix (k := j) HK.out (by decide)))
              go_wp2
              go_ret2
              exact ⟨HI.out.lists.below, .inr ⟨HR.out, rfl⟩⟩
            · have e2 : (sB (sepO (some false))).toList = [111, 114] := by rw [sB_toList]; rfl
              go_wp2
              refine ⟨⟨2 * j + 1 + 1, ga, ca, gb, cb, some false, os, rfl, rfl, rfl, by go_num, HLT.out, Lib.hid ⟨HI.out.upto.sep (by have := HI.out.upto.len; omega) (.inr rfl) HK.out, HI.out.lists⟩⟩, by
                have := HLT.out
                simp only [intOf]; omega⟩
          have e1 : ((sB wk).toList == [120, 111, 114]) = false := by rw [sB_toList, beq_eq_false_iff_ne]; exact hx1
          have e2 : ((sB wk).toList == [111, 114]) = false := by rw [sB_toList, beq_eq_false_iff_ne]; exact hx2
          have HR := Lib.hid (rdF_bad HNE.out (fun y' os' _ _ => by rw [← HW.out]; exact no_odd (k := j) HK.out ⟨hx1, hx2⟩))
          clear hx1 hx2 hodd
          go_wp2
          go_ret2
          exact ⟨HI.out.lists.below, .inr ⟨HR.out, rfl⟩⟩
        · obtain ⟨j, rfl⟩ : ∃ j, k = 2 * j := ⟨k / 2, by omega⟩
          have hm : ((2 * j : Nat) : Int) % 2 = 0 := by omega
          have HKL : Hid (wk.length ≤ 1048576) := Lib.hid (by
            have h1 := spl_mem_len (c := 32) (l := l) (w := wk) (by rw [← HW.out]; exact List.mem_of_getElem? HK.out)
            rw [HSB.out, sB_size] at hs
            omega)
          have HSW : Hid (∀ w1, Calls Try.prog 186 #[.string (sB wk), .int .u8 58] w1 fun e w' => ∃ g cc, e = .returned (.slice (some ⟨g, 0, none⟩) (spl 58 wk).length cc) ∧ OwnW w' w1.heap.size (.slice (some ⟨g, 0, none⟩) (spl 58 wk).length cc) (spl 58 wk) ∧ Below w1.heap.size w1 w') :=
            Lib.hid (fun w1 => by have := SsplitAt_n (sB wk) 58 58 rfl w1 (by rw [sB_size]; have := HKL.out; omega); simpa [sB] using this)
          clear hodd
          go_wp2_with fail
          refine (HSW.out _).mono ?_
          rintro e w4 ⟨gp, cp, rfl, oP, b4⟩
          have HI4 := Lib.hid (HI.out.same b4)
          by_cases hP : (spl 58 wk).length = 2
          · obtain ⟨pa, pb, hab⟩ : ∃ pa pb, spl 58 wk = [pa, pb] := by
              match h : spl 58 wk, hP with
              | [pa, pb], _ => exact ⟨pa, pb, rfl⟩
            rw [hab] at oP
            rw [hP]
            have ca0 := oP.cell (i := 0) rfl
            have ca1 := oP.cell (i := 1) rfl
            obtain ⟨hw2, hpa⟩ := spl_two hab
            have hla : pa.length ≤ 1099511627776 := by have := spl_mem_len (c := 58) (l := wk) (w := pa) (by rw [hab]; simp); have := HKL.out; omega
            have hlb : pb.length ≤ 1099511627776 := by have := spl_mem_len (c := 58) (l := wk) (w := pb) (by rw [hab]; simp); have := HKL.out; omega
            have HRS := Lib.hid (fun w1 => SreadSet_n pa w1 hla)
            have HRN := Lib.hid (fun w1 => SreadNumber_n pb w1 hlb)
            have HW2 := Lib.hid hw2
            have HPA := Lib.hid hpa
            clear hab hP hw2 hpa hla hlb
            have HIR := Lib.hid (fun (n : Int) w1 => inRange_any n 0 30 w1)
            by_cases hv0 : setF pa = 0
            · as_aux_lemma =>
              rw [hv0] at HRS
              have HR := Lib.hid (rdF_bad HNE.out (fun y' os' hf _ => by rw [← HW.out]; exact no_even (k := j) HK.out (offer_no HW2.out HPA.out (setF_is pa) (NumW_some pb).choose_spec (.inl hv0)) hf))
              go_wp2_with fail
              refine (HRS.out _).mono ?_
              rintro e w5 ⟨rfl, m5, rfl⟩
              go_wp2
              go_ret2
              exact ⟨below_drewN' HI4.out.lists.below _, .inr ⟨HR.out, rfl⟩⟩
            · as_aux_lemma =>
              rw [setN_pos hv0] at HRS
              have hv8 := (setF_is pa).1
              go_wp2_with fail
              refine (HRS.out _).mono ?_
              rintro e w5 ⟨rfl, m5, rfl⟩
              go_wp2_with fail
              refine (HRN.out _).mono ?_
              rintro e w6 ⟨n, hn, hn0, hn1, rfl, m6, rfl⟩
              have HNI := Lib.hid hn
              clear hn
              by_cases h30 : 0 ≤ n ∧ n ≤ 30
              · have hir := inR_true.2 h30
                have hn2 : 0 ≤ n := h30.1
                have hn3 : n ≤ 30 := h30.2
                clear h30
                go_wp2_with fail
                refine (HIR.out n _).mono ?_
                rintro e w7 ⟨rfl, rfl⟩
                obtain ⟨q, rfl⟩ : ∃ q : Nat, n = (q : Int) := ⟨n.toNat, by omega⟩
                have HOF : Hid (OfferIs wk (setF pa) q) := Lib.hid (by have := offer_yes HW2.out (setF_is pa) HNI.out hv0 hn2 hn3; simpa using this)
                have HU := Lib.hid (HI4.out.upto.offer (by have := HI4.out.upto.len; omega) HK.out HOF.out)
                have hosl : os.length ≤ 1099511627776 := by have := HI4.out.upto.len; omega
                go_wp2_with fail
                refine (HRS.out _).mono ?_
                rintro e w8 ⟨rfl, m8, rfl⟩
                have HL5 := Lib.hid ((HI4.out.lists.same (below_drewN' (Below.refl _ _) (m5 + m6 + m8))).same ((Below.refl _ (w4.drewN (m5 + m6 + m8))).alloc (Nat.le_refl _) (.cells #[.int .i64 (setF pa : Nat)] 3)))
                have ca5 : ((w4.drewN (m5 + m6 + m8)).alloc (.cells #[.int .i64 (setF pa : Nat)] 3)).cell? ⟨gp, 1, none⟩ = some (.string (sB pb)) := (((below_drewN' (Below.refl w4.heap.size w4) (m5 + m6 + m8)).alloc (by simp) _).cell (p := ⟨gp, 1, none⟩) oP.lt.2).trans ca1
                have hgp : wr.heap.size ≤ gp ∧ gp < w4.heap.size := oP.lt
                have hgal := HI.out.lists.sets.lt
                have hgbl := HI.out.lists.prices.lt
                go_wp2_with (at_builtin; refine wpList_append_int rfl _ _ rfl w3.heap.size ga os.length ca (setsO os) (by simp [setsO]) rfl HL5.out.sets w4.heap.size _ rfl (cell_one_new _ _ _ 0 _ rfl) hosl (by have := HL5.out.sets.ge; have := HL5.out.sets.lt; omega) ?_; intro gc cc w9 o9 g9 h9; have HL9 := Lib.hid (HL5.out.addSet g9 o9 h9 hgW2 hgO (Nat.le_of_lt hgO)); have ca9 : w9.cell? ⟨gp, 1, none⟩ = some (.string (sB pb)) := (grown_cell (p := ⟨gp, 1, none⟩) g9 (by show gp < _; have := hgp.2; simp; omega) (by show gp ≠ ga; omega)).trans ca5; clear o9 g9 h9)
                refine (HRN.out _).mono ?_
                rintro e w10 ⟨n2, hn2', _, _, rfl, m10, rfl⟩
                obtain rfl : n2 = (q : Int) := NumW.one HNI.out hn2' (by omega) hn3
                clear hn2'
                have HL10 := Lib.hid ((HL9.out.same (below_drewN' (Below.refl _ _) m10)).same ((Below.refl _ (w9.drewN m10)).alloc (Nat.le_refl _) (.cells #[.int .i64 (q : Nat)] 3)))
                go_wp2_with (at_builtin; refine wpList_append_int rfl _ _ rfl w3.heap.size gb os.length cb (pricesO os) (by simp [pricesO]) rfl HL10.out.prices w9.heap.size _ rfl (cell_one_new _ _ _ 0 _ rfl) hosl (by have := HL10.out.prices.ge; have := HL10.out.prices.lt; omega) ?_; intro gd cd w11 o11 g11 h11; have HL11 := Lib.hid (HL10.out.addPrice g11 o11 h11 hgW2 hgO (Nat.le_of_lt hgO)); clear o11 g11 h11)
                go_roundw
                case rel => exact ⟨2 * j + 1, gc, cc, gd, cd, x, os ++ [(setF pa, q)], by rw [List.length_append]; rfl, by rw [List.length_append]; rfl, rfl, by go_num, HLT.out, Lib.hid ⟨HU.out, by simpa [setsO, pricesO] using HL11.out⟩⟩
                case measure => have := HLT.out; simp only [intOf]; omega
              · have hir := inR_false.2 h30
                have HR := Lib.hid (rdF_bad HNE.out (fun y' os' hf _ => by rw [← HW.out]; exact no_even (k := j) HK.out (offer_no HW2.out HPA.out (setF_is pa) HNI.out (.inr h30)) hf))
                clear h30
                go_wp2_with fail
                refine (HIR.out n _).mono ?_
                rintro e w7 ⟨rfl, rfl⟩
                go_wp2
                go_ret2
                exact ⟨below_drewN' HI4.out.lists.below _, .inr ⟨HR.out, rfl⟩⟩
          · obtain ⟨q, hq⟩ : ∃ q, (spl 58 wk).length = q := ⟨_, rfl⟩
            have hl2 : ((q : Int) != 2) = true := by rw [bne_iff_ne]; omega
            have HR := Lib.hid (rdF_bad HNE.out (fun y' os' hf _ => by rw [← HW.out]; exact no_even (k := j) HK.out (spl_no hP) hf))
            clear hP
            rw [hq]
            clear hq oP
            go_wp2
            go_ret2
            exact ⟨HI4.out.lists.below, .inr ⟨HR.out, rfl⟩⟩
      · obtain rfl : k = W.length := by omega
        clear hlt
        by_cases hev : W.length % 2 = 0
        · as_aux_lemma =>
          have hm : (W.length : Int) % 2 = 0 := by omega
          have HR := Lib.hid (rdF_bad HNE.out (fun y' os' _ hne => by rw [← HW.out]; exact no_len hev hne))
          clear hev
          go_wp2
          go_ret2
          exact ⟨HI.out.lists.below, .inr ⟨HR.out, rfl⟩⟩
        have hm : (W.length : Int) % 2 = 1 := by omega
        have HSY : Hid (Says l (x.getD true) os) := Lib.hid (by
          have h1 := HI.out.upto
          rw [HW.out] at h1 hev
          exact h1.all (by omega))
        by_cases h7 : 7 < os.length
        · as_aux_lemma =>
          have hl7 : decide (7 < (os.length : Int)) = true := by simp; omega
          have HR := Lib.hid (rdF_none HNE.out (fun y' os' hs' => by rw [← (HSY.out.one hs').2]; exact h7))
          clear hev h7
          go_wp2
          go_ret2
          exact ⟨HI.out.lists.below, .inr ⟨HR.out, rfl⟩⟩
        have hl7 : decide (7 < (os.length : Int)) = false := by simp; omega
        have hl7' : os.length ≤ 7 := by omega
        have HR := Lib.hid (rdF_says HSY.out hl7')
        clear hev h7
        have hx : (sepO x = [111, 114] ∧ x.getD true = false) ∨ (sepO x ≠ [111, 114] ∧ x.getD true = true) := by rcases x with _ | _ | _ <;> simp [sepO, sepOf]
        rcases hx with ⟨hxo, hxy⟩ | ⟨hxo, hxy⟩
        · as_aux_lemma =>
          have e1 : (sB (sepO x)).toList = [111, 114] := by rw [sB_toList, hxo]
          rw [hxy] at HSY HR
          have HT8 : Hid (∀ s, s < 8 → (tabOf false os)[s]? = some (sumF os s)) := Lib.hid (fun s hs => by
            rw [T_at (by rw [tabOf_len]; exact hs)]; exact congrArg some (tor_at HSY.out.1 hs))
          have HTL : Hid ((tabOf false os).length = 8) := Lib.hid (tabOf_len _ _)
          have HF := Lib.hid HSY.out.1
          have hpos : (0 : Int) < (os.length : Int) := by have := HSY.out.2.1; have : os.length ≠ 0 := fun e => this (List.eq_nil_of_length_eq_zero e); omega
          obtain ⟨tab, htab⟩ : ∃ tab, tab = tabOf false os := ⟨_, rfl⟩
          rw [← htab] at HR HT8 HTL
          have HT0 : Hid (TabAt w w3.heap.size ga ca gb cb os (filled tab 0) wr) := Lib.hid (by rw [filled_zero, HTL.out]; exact ⟨HI.out.lists.out, HI.out.lists.sets, HI.out.lists.prices, HI.out.lists.below⟩)
          clear htab hxo hxy HI HSY
          go_wp2_with fail
          clear hm
          go_loopw [11, 12] (fun xv _ wr => ∃ t, xv = .int .i64 (t : Nat) ∧ t ≤ 8 ∧ Hid (TabAt w w3.heap.size ga ca gb cb os (filled tab t) wr)) (fun i _ _ => 8 - (intOf i).toNat)
          case atStart => exact ⟨0, rfl, by omega, HT0⟩
          case round =>
            obtain ⟨t, rfl, ht, HT⟩ := hrel
            by_cases hlt : t < 8
            · have HSF : Hid (Calls Try.prog 189 #[.slice (some ⟨ga, 0, none⟩) os.length ca, .slice (some ⟨gb, 0, none⟩) os.length cb, .int .i64 (t : Int)] wr fun e w' => e = .returned (.int .i64 (sumF os t)) ∧ ∃ m, w' = wr.drewN m) :=
                Lib.hid (SsumFrom_any os.length os (some ⟨ga, 0, none⟩) (some ⟨gb, 0, none⟩) ca cb t wr rfl HF.out hl7' hlt HT.out.sets.rd HT.out.prices.rd (by have := HT.out.sets.cap.1; simpa [setsO] using this) (by have := HT.out.prices.cap.1; simpa [pricesO] using this))
              have hcell := HT.out.out.cell (filled_rest (by rw [HTL.out]; exact hlt))
              have hfree := HT.out.out.free t
              have hc2 : ∀ n, (wr.drewN n).cell? ⟨w.heap.size, t, none⟩ = some (.int .i64 0) := fun n => by simpa using hcell
              have hf2 : ∀ n, (wr.drewN n).frozen? ⟨w.heap.size, t, none⟩ = false := fun n => by simpa using hfree
              have ht0 : (0 : Int) ≤ (t : Int) := by omega
              have ht8 : (t : Int) < 8 := by omega
              have HST : Hid (∀ n, TabAt w w3.heap.size ga ca gb cb os (filled tab (t + 1)) ((wr.drewN n).setCell ⟨w.heap.size, t, none⟩ (.int .i64 (sumF os t)))) := Lib.hid (fun n => by
                rw [← filled_set tab t _ (HT8.out t hlt)]; exact (HT.out.drewN n).set_ hgO t _)
              clear hlt HT hcell hfree
              go_wp2_with fail
              go_loopw [12] (fun iv wr' => iv = .int .i64 0 ∧ wr' = wr) (fun _ _ => 0)
              case atStart => exact ⟨rfl, rfl⟩
              case round =>
                obtain ⟨rfl, rfl⟩ := hrel
                go_wp2_with fail
                refine HSF.out.mono ?_
                rintro e w5 ⟨rfl, m, rfl⟩
                have hc3 := hc2 m
                have hf3 := hf2 m
                clear hc2 hf2
                go_wp2
                go_roundw
                case rel => exact ⟨t + 1, by go_num, by omega, Lib.hid (HST.out m)⟩
                case measure => simp only [intOf]; omega
            · obtain rfl : t = 8 := by omega
              have HTE : Hid (TabAt w w3.heap.size ga ca gb cb os tab wr) := Lib.hid (by have := HT.out; rw [← HTL.out, filled_all] at this; exact this)
              have HV := Lib.hid (fun n => SvalidTable_any (some ⟨w.heap.size, 0, none⟩) 8 tab (wr.drewN n) (HTE.out.out.drewN n).rd (by rw [HTL.out]; omega))
              rw [HTL.out] at HV
              clear hlt HT
              go_wp2_with fail
              refine (HV.out 0).mono ?_
              rintro e w5 ⟨rfl, m, rfl⟩
              go_wp2
              go_ret2
              exact ⟨below_drewN' HTE.out.below m, .inl ⟨tab, w.heap.size, 8, HR.out, rfl, HTE.out.out.drewN m⟩⟩
        · as_aux_lemma =>
          have e1 : ((sB (sepO x)).toList == [111, 114]) = false := by rw [sB_toList, beq_eq_false_iff_ne]; exact hxo
          rw [hxy] at HSY HR
          have HT8 : Hid (∀ s, s < 8 → (tabOf true os)[s]? = some (xval os s)) := Lib.hid (fun s hs => by
            rw [T_at (by rw [tabOf_len]; exact hs)]; exact congrArg some (txor_at hs _ os rfl))
          have HTL : Hid ((tabOf true os).length = 8) := Lib.hid (tabOf_len _ _)
          have HF := Lib.hid HSY.out.1
          have hpos : (0 : Int) < (os.length : Int) := by have := HSY.out.2.1; have : os.length ≠ 0 := fun e => this (List.eq_nil_of_length_eq_zero e); omega
          obtain ⟨tab, htab⟩ : ∃ tab, tab = tabOf true os := ⟨_, rfl⟩
          rw [← htab] at HR HT8 HTL
          have HT0 : Hid (TabAt w w3.heap.size ga ca gb cb os (filled tab 0) wr) := Lib.hid (by rw [filled_zero, HTL.out]; exact ⟨HI.out.lists.out, HI.out.lists.sets, HI.out.lists.prices, HI.out.lists.below⟩)
          clear htab hxo hxy HI HSY
          go_wp2_with fail
          clear hm
          go_loopw [11, 12] (fun xv _ wr => ∃ t, xv = .int .i64 (t : Nat) ∧ t ≤ 8 ∧ Hid (TabAt w w3.heap.size ga ca gb cb os (filled tab t) wr)) (fun i _ _ => 8 - (intOf i).toNat)
          case atStart => exact ⟨0, rfl, by omega, HT0⟩
          case round =>
            obtain ⟨t, rfl, ht, HT⟩ := hrel
            by_cases hlt : t < 8
            · have ht8 : (t : Int) < 8 := by omega
              have ht0 : (0 : Int) ≤ (t : Int) := by omega
              have HIN : Hid (TabAt w w3.heap.size ga ca gb cb os ((filled tab t).set t (xval (os.take 0) t)) wr) := Lib.hid (by
                rw [show xval (os.take 0) t = 0 from rfl, filled_same (by rw [HTL.out]; exact hlt)]; exact HT.out)
              have HSET : Hid ((filled tab t).set t (xval os t) = filled tab (t + 1)) := Lib.hid (filled_set tab t _ (HT8.out t hlt))
              have HFL : Hid (t < (filled tab t).length) := Lib.hid (by rw [filled_len _ _ (by rw [HTL.out]; omega), HTL.out]; exact hlt)
              have htt : t < 8 := hlt
              clear hlt HT
              go_wp2_with fail
              go_loopw [12] (fun iv wr' => ∃ i, iv = .int .i64 (i : Nat) ∧ i ≤ os.length ∧ Hid (TabAt w w3.heap.size ga ca gb cb os ((filled tab t).set t (xval (os.take i) t)) wr')) (fun iv _ => os.length - (intOf iv).toNat)
              case atStart => exact ⟨0, rfl, by omega, HIN⟩
              case round =>
                obtain ⟨i, rfl, hi, HT⟩ := hrel
                by_cases hil : i < os.length
                · obtain ⟨o, ho⟩ : ∃ o, os[i]? = some o := ⟨os[i], List.getElem?_eq_getElem hil⟩
                  obtain ⟨ho1, ho8, ho30⟩ := HF.out o (List.mem_of_getElem? ho)
                  have hc1 := HT.out.sets.cell (i := i) (x := ((o.1 : Nat) : Int)) (by simp [setsO, ho])
                  have hc2 := HT.out.prices.cell (i := i) (x := ((o.2 : Nat) : Int)) (by simp [pricesO, ho])
                  have HTK := Lib.hid (xval_take ho t)
                  have ha := and_nat ho8 htt
                  rw [Nat.and_comm] at ha
                  have hi0 : (0 : Int) ≤ (i : Int) := by omega
                  by_cases hin : t &&& o.1 = o.1
                  · rw [hin] at ha
                    obtain ⟨V, hV⟩ : ∃ V, V = xval (os.take i) t := ⟨_, rfl⟩
                    have hcell := HT.out.out.cell (i := t) (x := V) (by rw [List.getElem?_set_self HFL.out, hV])
                    have hfree := HT.out.out.free t
                    have HST : Hid (∀ n, TabAt w w3.heap.size ga ca gb cb os ((filled tab t).set t (xval (os.take (i + 1)) t)) ((wr.drewN n).setCell ⟨w.heap.size, t, none⟩ (.int .i64 (if V < (o.2 : Int) then (o.2 : Int) else V)))) := Lib.hid (fun n => by
                      have h9 := (HT.out.drewN n).set_ hgO t (if V < (o.2 : Int) then (o.2 : Int) else V)
                      rw [List.set_set] at h9
                      rw [HTK.out, if_pos hin, ← hV, show max V (o.2 : Int) = (if V < (o.2 : Int) then (o.2 : Int) else V) by split <;> omega]
                      exact h9)
                    have hil2 : i + 1 ≤ os.length := hil
                    clear hin ho hil HTK hV
                    go_wp2_with fail
                    go_region
                    go_wp2_with fail
                    go_region
                    go_wp2
                    go_roundw
                    case rel => exact ⟨i + 1, by go_num, hil2, Lib.hid (HST.out 2)⟩
                    case measure => simp only [intOf]; omega
                  · have hne : (((t &&& o.1 : Nat) : Int) == ((o.1 : Nat) : Int)) = false := by rw [beq_eq_false_iff_ne]; omega
                    have HTN : Hid (∀ n, TabAt w w3.heap.size ga ca gb cb os ((filled tab t).set t (xval (os.take (i + 1)) t)) (wr.drewN n)) := Lib.hid (fun n => by rw [HTK.out, if_neg hin]; exact HT.out.drewN n)
                    have hil2 : i + 1 ≤ os.length := hil
                    clear hin ho hil HTK
                    go_wp2_with fail
                    go_region
                    go_wp2
                    go_roundw
                    case rel => exact ⟨i + 1, by go_num, hil2, Lib.hid (HTN.out 1)⟩
                    case measure => simp only [intOf]; omega
                · obtain rfl : i = os.length := by omega
                  have HTE : Hid (TabAt w w3.heap.size ga ca gb cb os (filled tab (t + 1)) wr) := Lib.hid (by have := HT.out; rw [List.take_length, HSET.out] at this; exact this)
                  clear hil HT
                  go_wp2
                  go_roundw
                  case rel => exact ⟨t + 1, by go_num, by omega, HTE⟩
                  case measure => simp only [intOf]; omega
            · obtain rfl : t = 8 := by omega
              have HTE : Hid (TabAt w w3.heap.size ga ca gb cb os tab wr) := Lib.hid (by have := HT.out; rw [← HTL.out, filled_all] at this; exact this)
              have HV := Lib.hid (fun n => SvalidTable_any (some ⟨w.heap.size, 0, none⟩) 8 tab (wr.drewN n) (HTE.out.out.drewN n).rd (by rw [HTL.out]; omega))
              rw [HTL.out] at HV
              clear hlt HT
              go_wp2_with fail
              refine (HV.out 0).mono ?_
              rintro e w5 ⟨rfl, m, rfl⟩
              go_wp2
              go_ret2
              exact ⟨below_drewN' HTE.out.below m, .inl ⟨tab, w.heap.size, 8, HR.out, rfl, HTE.out.out.drewN m⟩⟩
  · have hl0 : l = [] := by
      rw [HSB.out] at hem
      simpa [sB] using hem
    subst hl0
    go_enter Try.func176, Try.ntmps176
    go_wp2_with (first
      | (go_at_call 116; refine (HP.out _).mono ?_; rintro e w1 ⟨rfl, rfl⟩)
      | (at_make; refine wpList_make_ints rfl _ _ rfl w.heap.size 8 rfl rfl (by omega) (by simp) ?_; intro w2 ho hb))
    go_ret2
    exact ⟨hb, .inl ⟨List.replicate 8 0, w.heap.size, 8, rdF_nil, by rw [show vt (List.replicate 8 (0 : Int)) = true from vt_true (txor_vt (os := []) (by intro o ho; simp at ho))]; rfl, ho⟩⟩

end Go.Proofs.Ytccbjgajmjcpjaa
