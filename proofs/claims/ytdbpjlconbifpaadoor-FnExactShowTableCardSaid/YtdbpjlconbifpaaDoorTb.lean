/-
  Chapter 4, the model: texts: the contract of splitAt.
-/
import Derived.Test.YtdbpjlconbifpaaDoorTa
import Derived.Maps.AppendAt
namespace Go.Proofs.YtdbpjlconbifpaaDoor
open Go.RowKit Go.Lib

theorem sB_at (s : ByteArray) {k : Nat} (h : k < s.size) : s.data.toList[k]? = some (s[k]'h) := by
  rw [Array.getElem?_toList]; exact Array.getElem?_eq_getElem h
theorem sB_extract (s : ByteArray) (f k : Nat) : s.extract f k = sB ((s.data.toList.drop f).take (k - f)) := by
  apply ByteArray.ext
  rw [ByteArray.data_extract]
  apply Array.ext'
  simp [sB, List.extract]

/-- Words in a block of the call's own. -/
def OwnW (w : World) (B : Nat) (v : Value) (ws : List (List UInt8)) : Prop := w.ownsRow B 9 1 v ws.length (ws.map (fun l => Value.string (sB l)))
theorem str_info : (Tryd.prog.info? 9).map (fun i => (i.zero, i.size, i.bytes)) = some (some (.string ⟨#[]⟩), 1, 16) := by kernel_rfl
theorem ownW_empty (w : World) : OwnW (w.alloc (.cells #[] 9)) w.heap.size (.slice (some ⟨w.heap.size, 0, none⟩) 0 0) [] :=
  World.ownsRow_lit w #[] 0 (Nat.le_refl _) (Nat.zero_le _) rfl
theorem OwnW.below {w w' : World} {B : Nat} {v : Value} {ws : List (List UInt8)} (h : OwnW w B v ws) (hb : Below w.heap.size w w') : OwnW w' B v ws :=
  World.ownsRow.kept h (row := none) ⟨hb.os, hb.tape, hb.output, hb.size, fun i hi _ => hb.block i hi⟩ (by cases v.ownBlock <;> simp)

theorem OwnW.shape {w : World} {B : Nat} {v : Value} {ws : List (List UInt8)} (h : OwnW w B v ws) : (v = .slice none 0 0 ∧ ws = []) ∨ ∃ g c, v = .slice (some ⟨g, 0, none⟩) ws.length c := by
  rcases h.2 with ⟨hv, h2⟩ | ⟨g, cap, cur, hv, _⟩
  · exact .inl ⟨hv, by have h3 := h.1; rw [h2] at h3; simpa using h3⟩
  · exact .inr ⟨g, cap, hv⟩

theorem wpList_append_word {ops : Array Oper} {rest : List Oper} {o : Oper} {a : Act} {w : World} {Q : Exit → Act → World → Prop} (hgd : o.guard = none) (s x : Operand)
    (ho : o.op = .call { callee := .builtin .append, args := #[s, x], argTypes := #[27, 27] })
    (w0 : World) (B : Nat) (v : Value) (ws : List (List UInt8)) (hs : a.eval s = v) (hown : OwnW w B v ws) (g : Nat) (l : List UInt8) (hx : a.eval x = .slice (some ⟨g, 0, none⟩) 1 1)
    (hc : w.cell? ⟨g, 0, none⟩ = some (.string (sB l))) (hn : ws.length ≤ 1099511627776) (hB : B ≤ w.heap.size) (hb : Below B w0 w)
    (h : ∀ v' w', OwnW w' B v' (ws ++ [l]) → Below B w0 w' → wpList Tryd.prog ops Q rest (a.put o.dst v') w') :
    wpList Tryd.prog ops Q (o :: rest) a w := by
  obtain ⟨i0, hi, hz0, hz1, hz2⟩ := info_parts str_info
  refine wpList_append_own_at _ hgd s x 27 ho B 9 i0 (.string ⟨#[]⟩) 1 16 Tryd.underlying27 hi hz0 hz1 hz2 rfl (by decide) v ws.length (ws.map (fun l => Value.string (sB l))) hs hown ⟨g, 0, none⟩ 1 1 [.string (sB l)] hx rfl ?_ (by simp [Value.oneCell']) (by unfold maxLen; omega) (by omega) hB ?_
  · intro j u hu
    rcases j with _ | j
    · simp at hu; subst hu; exact hc
    · simp at hu
  · intro v' w' h1 h2 _ _
    refine h v' w' ?_ (hb.grown h2 hB (fun k e => (World.ownsRow.lt hown k e).1))
    unfold OwnW
    rw [List.length_append, List.map_append]
    exact h1

end Go.Proofs.YtdbpjlconbifpaaDoor
