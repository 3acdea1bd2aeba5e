/-
  Chapter 4, the model: texts: the contract of splitAt.
-/
import Derived.Test.YtfjncipekjnbjabTa
import Derived.Maps.AppendAt
namespace Go.Proofs.Ytfjncipekjnbjab
open Go.RowKit Go.Lib

theorem sB_at (s : ByteArray) {k : Nat} (h : k < s.size) : s.data.toList[k]? = some (s[k]'h) := by
  rw [Array.getElem?_toList]; exact Array.getElem?_eq_getElem h
theorem sB_extract (s : ByteArray) (f k : Nat) : s.extract f k = sB ((s.data.toList.drop f).take (k - f)) := by
  apply ByteArray.ext
  rw [ByteArray.data_extract]
  apply Array.ext'
  simp [sB, List.extract]

/-- Words in a block of the call's own. -/
def OwnW (w : World) (B : Nat) (v : Value) (ws : List (List UInt8)) : Prop := w.ownsRow B 9 1 v ws.length (ws.map (fun l => Value.string (sB l)))
theorem str_info : (Try.prog.info? 9).map (fun i => (i.zero, i.size, i.bytes)) = some (some (.string ⟨#[]⟩), 1, 16) := by kernel_rfl
theorem ownW_empty (w : World) : OwnW (w.alloc (.cells #[] 9)) w.heap.size (.slice (some ⟨w.heap.size, 0, none⟩) 0 0) [] :=
  World.ownsRow_lit w #[] 0 (Nat.le_refl _) (Nat.zero_le _) rfl
theorem OwnW.below {w w' : World} {B : Nat} {v : Value} {ws : List (List UInt8)} (h : OwnW w B v ws) (hb : Below w.heap.size w w') : OwnW w' B v ws :=
  World.ownsRow.kept h (row := none) ⟨hb.os, hb.tape, hb.output, hb.size, fun i hi _ => hb.block i hi⟩ (by cases v.ownBlock <;> simp)

theorem OwnW.shape {w : World} {B : Nat} {v : Value} {ws : List (List UInt8)} (h : OwnW w B v ws) : (v = .slice none 0 0 ∧ ws = []) ∨ ∃ g c, v = .slice (some ⟨g, 0, none⟩) ws.length c := by
  rcases h.2 with ⟨hv, h2⟩ | ⟨g, cap, cur, hv, _⟩
  · exact .inl ⟨hv, by have h3 := h.1; rw [h2] at h3; simpa using h3⟩
  · exact .inr ⟨g, cap, hv⟩

theorem wpList_append_word {ops : Array Oper} {rest : List Oper} {o : Oper} {a : Act} {w : World} {Q : Exit → Act → World → Prop} (hgd : o.guard = none) (s x : Operand)
    (ho : o.op = .call { callee := .builtin .append, args := #[s, x], argTypes := #[114, 114] })
    (w0 : World) (B : Nat) (v : Value) (ws : List (List UInt8)) (hs : a.eval s = v) (hown : OwnW w B v ws) (g : Nat) (l : List UInt8) (hx : a.eval x = .slice (some ⟨g, 0, none⟩) 1 1)
    (hc : w.cell? ⟨g, 0, none⟩ = some (.string (sB l))) (hn : ws.length ≤ 1099511627776) (hB : B ≤ w.heap.size) (hb : Below B w0 w)
    (h : ∀ v' w', OwnW w' B v' (ws ++ [l]) → Below B w0 w' → wpList Try.prog ops Q rest (a.put o.dst v') w') :
    wpList Try.prog ops Q (o :: rest) a w := by
  obtain ⟨i0, hi, hz0, hz1, hz2⟩ := info_parts str_info
  refine wpList_append_own_at _ hgd s x 114 ho B 9 i0 (.string ⟨#[]⟩) 1 16 Try.underlying114 hi hz0 hz1 hz2 rfl (by decide) v ws.length (ws.map (fun l => Value.string (sB l))) hs hown ⟨g, 0, none⟩ 1 1 [.string (sB l)] hx rfl ?_ (by simp [Value.oneCell']) (by unfold maxLen; omega) (by omega) hB ?_
  · intro j u hu
    rcases j with _ | j
    · simp at hu; subst hu; exact hc
    · simp at hu
  · intro v' w' h1 h2 _ _
    refine h v' w' ?_ (hb.grown h2 hB (fun k e => (World.ownsRow.lt hown k e).1))
    unfold OwnW
    rw [List.length_append, List.map_append]
    exact h1

set_option maxHeartbeats 800000 in
theorem SsplitAt_any (s : ByteArray) (c : UInt8) (w : World) (hs : s.size ≤ 1099511627776) :
    Calls Try.prog 169 #[.string s, .int .u8 (c.toNat : Int)] w fun e w' => ∃ v, e = .returned v ∧ OwnW w' w.heap.size v (spl c s.data.toList) ∧ Below w.heap.size w w' := by
  obtain ⟨l, hl⟩ : ∃ l, l = s.data.toList := ⟨_, rfl⟩
  have HSZ : Hid (s.size = l.length) := Lib.hid (by rw [hl, Array.length_toList]; rfl)
  have HAT : Hid (∀ k (h : k < s.size), l[k]? = some (s[k]'h)) := Lib.hid (fun k h => by rw [hl]; exact sB_at s h)
  have HEX : Hid (∀ f k, s.extract f k = sB ((l.drop f).take (k - f))) := Lib.hid (fun f k => by rw [hl]; exact sB_extract s f k)
  rw [← hl]
  clear hl
  go_enter Try.func169, Try.ntmps169
  go_wp2
  go_loopw [5, 6, 7] (fun o f i wr => ∃ (f' k g cc : Nat) (ws : List (List UInt8)), o = .slice (some ⟨g, 0, none⟩) ws.length cc ∧ f = .int .i64 (f' : Int) ∧ i = .int .i64 (k : Int) ∧ f' ≤ k ∧ k ≤ s.size ∧ Hid (OwnW wr w.heap.size (.slice (some ⟨g, 0, none⟩) ws.length cc) ws) ∧ Hid (ws.length ≤ f' ∧ spl c l = ws ++ spl c (l.drop f') ∧ ∀ j, f' ≤ j → j < k → l[j]? ≠ some c) ∧ Below w.heap.size w wr)
    (fun _ _ i _ => s.size - (intOf i).toNat)
  case atStart => exact ⟨0, 0, w.heap.size, 0, [], rfl, rfl, rfl, Nat.le_refl _, Nat.zero_le _, Lib.hid (ownW_empty w), Lib.hid ⟨by simp, by rw [List.drop_zero, List.nil_append], fun j h1 h2 => by omega⟩, (Below.refl _ w).alloc (Nat.le_refl _) _⟩
  case round =>
    obtain ⟨f', k, g, cc, ws, rfl, rfl, rfl, hfk, hks, HO, HS, hb⟩ := hrel
    by_cases hlt : k < s.size
    · by_cases hc : s[k]'hlt = c
      · have e1 : (((s[k]'hlt).toNat : Int) == (c.toNat : Int)) = true := by rw [hc]; simp
        have HN : Hid (ws.length + 1 ≤ k + 1 ∧ spl c l = (ws ++ [(l.drop f').take (k - f')]) ++ spl c (l.drop (k + 1))) := Lib.hid ⟨by have := HS.out.1; omega, by
          rw [HS.out.2.1, spl_at hfk HS.out.2.2 (by rw [HAT.out k hlt, hc])]; simp⟩
        have hwl : ws.length ≤ 1099511627776 := by have := HS.out.1; omega
        have HOW : Hid (OwnW (wr.alloc (.cells #[.string (s.extract f' k)] 9)) w.heap.size (.slice (some ⟨g, 0, none⟩) ws.length cc) ws) := Lib.hid (World.ownsRow.alloc HO.out _)
        have HC : Hid ((wr.alloc (.cells #[.string (s.extract f' k)] 9)).cell? ⟨wr.heap.size, 0, none⟩ = some (.string (sB ((l.drop f').take (k - f'))))) := Lib.hid (by rw [← HEX.out]; exact cell_one_new _ _ _ 0 _ rfl)
        clear hc HS HO
        go_wp2_with (at_builtin; refine wpList_append_word rfl _ _ rfl w w.heap.size _ ws rfl HOW.out wr.heap.size _ rfl HC.out hwl (by have := hb.size; simp; omega) (hb.alloc hb.size _) ?_; intro v' w2 ho2 hb2)
        obtain ⟨g', c', rfl⟩ : ∃ g' c', v' = .slice (some ⟨g', 0, none⟩) (ws.length + 1) c' := by
          rcases ho2.shape with ⟨_, h⟩ | ⟨g', c', h⟩
          · simp at h
          · exact ⟨g', c', by rw [h]; simp⟩
        go_wp2
        go_roundw
        case rel => exact ⟨k + 1, k + 1, g', c', ws ++ [(l.drop f').take (k - f')], by rw [List.length_append]; rfl, by go_num, by go_num, Nat.le_refl _, by omega, Lib.hid (by rw [List.length_append]; exact ho2), Lib.hid ⟨by rw [List.length_append]; exact HN.out.1, HN.out.2, fun j h1 h2 => by omega⟩, hb2⟩
        case measure => simp [intOf]; omega
      · have e1 : (((s[k]'hlt).toNat : Int) == (c.toNat : Int)) = false := by
          rw [beq_eq_false_iff_ne]
          intro e
          exact hc (UInt8.toNat_inj.1 (by omega))
        have HS2 : Hid (ws.length ≤ f' ∧ spl c l = ws ++ spl c (l.drop f') ∧ ∀ j, f' ≤ j → j < k + 1 → l[j]? ≠ some c) := Lib.hid ⟨HS.out.1, HS.out.2.1, fun j h1 h2 => by
          rcases Nat.lt_or_ge j k with h | h
          · exact HS.out.2.2 j h1 h
          · obtain rfl : j = k := by omega
            rw [HAT.out j hlt]
            intro e
            injection e with e
            exact hc e⟩
        clear hc HS
        go_wp2
        go_roundw
        case rel => exact ⟨f', k + 1, g, cc, ws, rfl, rfl, by go_num, by omega, by omega, HO, HS2, hb⟩
        case measure => simp [intOf]; omega
    · obtain rfl : k = s.size := by omega
      have HN : Hid (spl c l = ws ++ [l.drop f']) := Lib.hid (by rw [HS.out.2.1, spl_end (fun j h1 h2 => HS.out.2.2 j h1 (by rw [HSZ.out]; exact h2))])
      have hwl : ws.length ≤ 1099511627776 := by have := HS.out.1; omega
      have HOW : Hid (OwnW (wr.alloc (.cells #[.string (s.extract f' s.size)] 9)) w.heap.size (.slice (some ⟨g, 0, none⟩) ws.length cc) ws) := Lib.hid (World.ownsRow.alloc HO.out _)
      have HC : Hid ((wr.alloc (.cells #[.string (s.extract f' s.size)] 9)).cell? ⟨wr.heap.size, 0, none⟩ = some (.string (sB (l.drop f')))) := Lib.hid (by
        rw [show l.drop f' = (l.drop f').take (s.size - f') by rw [HSZ.out, List.take_of_length_le (by simp)], ← HEX.out]; exact cell_one_new _ _ _ 0 _ rfl)
      clear hlt HS HO
      go_wp2_with (at_builtin; refine wpList_append_word rfl _ _ rfl w w.heap.size _ ws rfl HOW.out wr.heap.size _ rfl HC.out hwl (by have := hb.size; simp; omega) (hb.alloc hb.size _) ?_; intro v' w2 ho2 hb2)
      go_ret
      exact ⟨v', rfl, by rw [HN.out]; exact ho2, hb2⟩

end Go.Proofs.Ytfjncipekjnbjab
