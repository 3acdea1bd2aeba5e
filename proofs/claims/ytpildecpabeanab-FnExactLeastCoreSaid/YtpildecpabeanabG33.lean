/-
  Chapter 4, the model: texts: the contract of number.
-/
import Derived.Test.YtpildecpabeanabG08
import Derived.Test.YtpildecpabeanabWp
import Derived.Maps.AppendAt
namespace Go.Proofs.Ytpildecpabeanab
open Go.RowKit Go.Lib

/-- A text by its bytes. -/
def sB (l : List UInt8) : ByteArray := ⟨l.toArray⟩
theorem sB_append (a b : List UInt8) : sB a ++ sB b = sB (a ++ b) := by
  unfold sB
  apply ByteArray.ext
  simp [ByteArray.data_append]
theorem sB_list (s : ByteArray) : sB s.data.toList = s := by unfold sB; simp
theorem sB_size (l : List UInt8) : (sB l).size = l.length := by unfold sB; simp [ByteArray.size]
theorem digit_at {n : Nat} (hn : n < 10) : ByteArray.extract ⟨#[48, 49, 50, 51, 52, 53, 54, 55, 56, 57]⟩ n (n + 1) = sB (decDigits n) := by
  rw [dec_small (by omega)]
  have : n = 0 ∨ n = 1 ∨ n = 2 ∨ n = 3 ∨ n = 4 ∨ n = 5 ∨ n = 6 ∨ n = 7 ∨ n = 8 ∨ n = 9 := by omega
  rcases this with rfl | rfl | rfl | rfl | rfl | rfl | rfl | rfl | rfl | rfl <;> rfl

theorem dec_len : ∀ (n : Nat), (decDigits n).length ≤ n + 1 := by
  intro n
  induction n using Nat.strongRecOn with
  | _ n ih =>
    rw [decDigits]
    split
    · simp
    · have := ih (n / 10) (by omega)
      simp; omega
theorem sB_room {a b : List UInt8} (h : a.length + b.length ≤ 1152921504606846976) : ¬ 9223372036854775807 < (sB a).size + (sB b).size := by
  rw [sB_size, sB_size]; omega

/-- What a call hands back: a text. -/
def TextIs (w : World) (l : List UInt8) (e : Ending) (w' : World) : Prop := e = .returned (.string (sB l)) ∧ ∃ m, w' = w.drewN m

end Go.Proofs.Ytpildecpabeanab

/-
  Chapter 4, the model: texts: the contract of splitAt.
-/
namespace Go.Proofs.Ytpildecpabeanab
open Go.RowKit Go.Lib

theorem sB_at (s : ByteArray) {k : Nat} (h : k < s.size) : s.data.toList[k]? = some (s[k]'h) := by
  rw [Array.getElem?_toList]; exact Array.getElem?_eq_getElem h
theorem sB_extract (s : ByteArray) (f k : Nat) : s.extract f k = sB ((s.data.toList.drop f).take (k - f)) := by
  apply ByteArray.ext
  rw [ByteArray.data_extract]
  apply Array.ext'
  simp [sB, List.extract]

/-- Words in a block of the call's own. -/
def OwnW (w : World) (B : Nat) (v : Value) (ws : List (List UInt8)) : Prop := w.ownsRow B 9 1 v ws.length (ws.map (fun l => Value.string (sB l)))
theorem str_info : (Try.prog.info? 9).map (fun i => (i.zero, i.size, i.bytes)) = some (some (.string ⟨#[]⟩), 1, 16) := by kernel_rfl
theorem ownW_empty (w : World) : OwnW (w.alloc (.cells #[] 9)) w.heap.size (.slice (some ⟨w.heap.size, 0, none⟩) 0 0) [] :=
  World.ownsRow_lit w #[] 0 (Nat.le_refl _) (Nat.zero_le _) rfl
theorem OwnW.below {w w' : World} {B : Nat} {v : Value} {ws : List (List UInt8)} (h : OwnW w B v ws) (hb : Below w.heap.size w w') : OwnW w' B v ws :=
  World.ownsRow.kept h (row := none) ⟨hb.os, hb.tape, hb.output, hb.size, fun i hi _ => hb.block i hi⟩ (by cases v.ownBlock <;> simp)

theorem OwnW.shape {w : World} {B : Nat} {v : Value} {ws : List (List UInt8)} (h : OwnW w B v ws) : (v = .slice none 0 0 ∧ ws = []) ∨ ∃ g c, v = .slice (some ⟨g, 0, none⟩) ws.length c := by
  rcases h.2 with ⟨hv, h2⟩ | ⟨g, cap, cur, hv, _⟩
  · exact .inl ⟨hv, by have h3 := h.1; rw [h2] at h3; simpa using h3⟩
  · exact .inr ⟨g, cap, hv⟩

end Go.Proofs.Ytpildecpabeanab

/-
  Chapter 4, the model: texts: the contract of readSet.
-/
namespace Go.Proofs.Ytpildecpabeanab
open Go.RowKit Go.Lib

/-- What readSet hands back. -/
def setN (v : Nat) : Int := if v = 0 then -1 else v

end Go.Proofs.Ytpildecpabeanab

/-
  Chapter 4, the model: texts: the contract of readNumber.
-/
namespace Go.Proofs.Ytpildecpabeanab
open Go.RowKit Go.Lib

theorem sB_toList (l : List UInt8) : (sB l).toList = l := ByteArray.toList_mk l

end Go.Proofs.Ytpildecpabeanab
