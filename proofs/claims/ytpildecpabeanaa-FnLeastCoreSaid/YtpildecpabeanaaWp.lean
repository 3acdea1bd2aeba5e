/-
  Plain words for texts of offers: pieces between the bytes of a kind, the library's pieces, offers, their tables, the shortest text of a table.
-/
import Derived.Test.YtpildecpabeanaaG01
import Derived.Lib.SplitLaws
import Derived.Lib.IndexLaws
import Derived.Lib.CountLaws
import Derived.Lib.ItoaNum
import Derived.Lib.Join
import Derived.Lib.AtoiAll
namespace Go.Proofs.Ytpildecpabeanaa
open Go.Lib

/-! ### Pieces between the bytes of a kind -/

/-- The pieces of a text between the bytes c. -/
def spl (c : UInt8) : List UInt8 → List (List UInt8)
  | [] => [[]]
  | b :: l => if b = c then [] :: spl c l else match spl c l with
    | [] => [[b]]
    | h :: t => (b :: h) :: t
theorem spl_ne (c : UInt8) (l : List UInt8) : spl c l ≠ [] := by
  cases l with
  | nil => simp [spl]
  | cons b l =>
    unfold spl
    split
    · simp
    · split <;> simp
/-- A word without the byte, then the byte. -/
theorem spl_word {c : UInt8} : ∀ {w : List UInt8}, c ∉ w → ∀ l, spl c (w ++ c :: l) = w :: spl c l
  | [], _, l => by simp [spl]
  | b :: w, h, l => by
    have hb : b ≠ c := fun e => h (by simp [e])
    have hw : c ∉ w := fun e => h (by simp [e])
    show spl c (b :: (w ++ c :: l)) = _
    rw [spl, if_neg hb, spl_word hw l]
theorem spl_last {c : UInt8} : ∀ {w : List UInt8}, c ∉ w → spl c w = [w]
  | [], _ => rfl
  | b :: w, h => by
    have hb : b ≠ c := fun e => h (by simp [e])
    have hw : c ∉ w := fun e => h (by simp [e])
    rw [spl, if_neg hb, spl_last hw]
theorem spl_mid {c : UInt8} (a l : List UInt8) : spl c (a ++ c :: l) = spl c a ++ spl c l := by
  induction a with
  | nil => simp [spl]
  | cons b a ih =>
    show spl c (b :: (a ++ c :: l)) = _
    rw [spl, spl, ih]
    by_cases hb : b = c
    · simp [hb]
    · rw [if_neg hb, if_neg hb]
      cases hs : spl c a with
      | nil => exact absurd hs (spl_ne c a)
      | cons h t => rfl
theorem spl_free {c : UInt8} : ∀ {l : List UInt8}, ∀ w ∈ spl c l, c ∉ w
  | [], w, h => by simp [spl] at h; simp [h]
  | b :: l, w, h => by
    rw [spl] at h
    split at h
    · rcases List.mem_cons.1 h with rfl | h
      · simp
      · exact spl_free w h
    · next hb =>
      cases hs : spl c l with
      | nil => exact absurd hs (spl_ne c l)
      | cons x t =>
        rw [hs] at h
        rcases List.mem_cons.1 h with rfl | h
        · have := spl_free x (by rw [hs]; simp)
          simp [this]
          exact fun e => hb e.symm
        · exact spl_free w (by rw [hs]; simp [h])
theorem spl_join {c : UInt8} (l : List UInt8) : join (spl c l) [c] = l := by
  induction l with
  | nil => rfl
  | cons b l ih =>
    rw [spl]
    cases hs : spl c l with
    | nil => exact absurd hs (spl_ne c l)
    | cons h t =>
      rw [hs, join_cons] at ih
      split
      · next hb => subst hb; rw [join_cons]; simp [joinTail]; simpa [joinTail] using ih
      · rw [join_cons]; simp [joinTail]; simpa [joinTail] using ih

/-! ### The library's pieces -/

theorem index_free {w : List UInt8} {c : UInt8} {t : List UInt8} (h : c ∉ w) (r : List UInt8) : index (w ++ (c :: t) ++ r) (c :: t) = w.length := by
  refine index_first (by simp) (by simp [occAt]) (fun j hj => ?_)
  cases ho : occAt (w ++ (c :: t) ++ r) (c :: t) j with
  | false => rfl
  | true =>
    exfalso
    have := occAt_head rfl ho
    rw [List.append_assoc, List.getElem?_append_left hj] at this
    exact h (List.mem_of_getElem? this)
theorem index_not {w : List UInt8} {c : UInt8} {t : List UInt8} (h : c ∉ w) : index w (c :: t) = -1 := by
  refine index_none (fun j hj => ?_)
  cases ho : occAt w (c :: t) j with
  | false => rfl
  | true => exact absurd (List.mem_of_getElem? (occAt_head rfl ho)) h
theorem count_join {c : UInt8} {t : List UInt8} : ∀ (r : List (List UInt8)) (w : List UInt8), (∀ x ∈ w :: r, c ∉ x) → count (join (w :: r) (c :: t)) (c :: t) = r.length
  | [], w, h => by rw [join_one, count_miss (index_not (h w (by simp)))]; rfl
  | x :: r, w, h => by
    have e : join (w :: x :: r) (c :: t) = w ++ (c :: t) ++ join (x :: r) (c :: t) := by rw [join_cons, join_cons]; simp [joinTail]
    rw [e, count_hit (by simp) (index_free (h w (by simp)) _)]
    rw [show (w ++ (c :: t) ++ join (x :: r) (c :: t)).drop (w.length + (c :: t).length) = join (x :: r) (c :: t) by rw [← List.length_append, List.drop_left]]
    rw [count_join r x (fun y hy => h y (by simp [List.mem_cons.1 hy]))]
    simp; omega
theorem splitK_join {c : UInt8} {t : List UInt8} : ∀ (r : List (List UInt8)) (w : List UInt8), (∀ x ∈ w :: r, c ∉ x) → splitK (c :: t) 0 r.length (join (w :: r) (c :: t)) = w :: r
  | [], w, h => by simp [splitK, join_one]
  | x :: r, w, h => by
    have e : join (w :: x :: r) (c :: t) = w ++ (c :: t) ++ join (x :: r) (c :: t) := by rw [join_cons, join_cons]; simp [joinTail]
    rw [e]
    simp only [List.length_cons, splitK]
    rw [index_free (h w (by simp))]
    rw [if_neg (by simp)]
    have e1 : (w ++ (c :: t) ++ join (x :: r) (c :: t)).take (((w.length : Nat) : Int).toNat + 0) = w := by simp
    have e2 : (w ++ (c :: t) ++ join (x :: r) (c :: t)).drop (((w.length : Nat) : Int).toNat + (t.length + 1)) = join (x :: r) (c :: t) := by
      rw [Int.toNat_natCast, ← List.length_cons (a := c), ← List.length_append, List.drop_left]
    rw [e1, e2, splitK_join r x (fun y hy => h y (by simp [List.mem_cons.1 hy]))]
theorem split_join {c : UInt8} {t : List UInt8} (r : List (List UInt8)) (w : List UInt8) (h : ∀ x ∈ w :: r, c ∉ x) : split (join (w :: r) (c :: t)) (c :: t) = w :: r := by
  unfold split
  rw [count_join r w h, splitK_join r w h]
theorem occ_cut {s sub : List UInt8} {i : Nat} (h : index s sub = i) : s = s.take i ++ sub ++ s.drop (i + sub.length) := by
  have ho : occAt s sub i = true := by
    induction s generalizing i with
    | nil =>
      unfold index at h
      split at h
      · next he => have : i = 0 := by omega
                   subst this; simp at he; simp [occAt, he]
      · omega
    | cons b l ih =>
      unfold index at h
      split at h
      · next hp => have : i = 0 := by omega
                   subst this; simpa [occAt] using hp
      · split at h
        · omega
        · obtain ⟨j, rfl⟩ : ∃ j : Nat, i = j + 1 := ⟨i - 1, by have := index_ge l sub; next h0 => simp at h0; omega⟩
          have := ih (i := j) (by omega)
          simpa [occAt] using this
  have := List.isPrefixOf_iff_prefix.1 ho
  obtain ⟨r, hr⟩ := this
  have e : s.drop (i + sub.length) = r := by rw [← List.drop_drop, ← hr, List.drop_left]
  rw [e, List.append_assoc, hr, List.take_append_drop]
theorem join_splitK {sep : List UInt8} : ∀ (k : Nat) (s : List UInt8), join (splitK sep 0 k s) sep = s ∧ splitK sep 0 k s ≠ []
  | 0, s => by simp [splitK, join_one]
  | k + 1, s => by
    unfold splitK
    split
    · simp [join_one]
    · next h =>
      have h0 := index_ge s sep
      have hi : index s sep = ((index s sep).toNat : Nat) := by simp at h; omega
      have hc := occ_cut hi
      obtain ⟨h1, h2⟩ := join_splitK k (s.drop ((index s sep).toNat + sep.length))
      refine ⟨?_, by simp⟩
      cases hs : splitK sep 0 k (s.drop ((index s sep).toNat + sep.length)) with
      | nil => exact absurd hs h2
      | cons x r =>
        rw [hs] at h1
        rw [join_cons]
        rw [join_cons] at h1
        have e : joinTail sep (x :: r) = sep ++ (x ++ joinTail sep r) := by simp [joinTail]
        rw [e, h1, Nat.add_zero, ← List.append_assoc]
        exact hc.symm
theorem join_split (s sep : List UInt8) : join (split s sep) sep = s := (join_splitK _ _).1
theorem split_ne (s sep : List UInt8) : split s sep ≠ [] := (join_splitK _ _).2

/-- A word between two bytes of a kind is one of the pieces. -/
theorem spl_has {c : UInt8} {s w : List UInt8} (hw : c ∉ w) {i : Nat} (h : index s (c :: w ++ [c]) = i) : w ∈ spl c s := by
  have e := occ_cut h
  rw [e]
  rw [show s.take i ++ (c :: w ++ [c]) ++ s.drop (i + (c :: w ++ [c]).length) = s.take i ++ c :: (w ++ c :: s.drop (i + (c :: w ++ [c]).length)) by simp]
  rw [spl_mid, spl_word hw]
  simp


/-- The letters of a set. -/
def lw (t : Nat) : List UInt8 := (if t % 2 = 1 then [97] else []) ++ (if t / 2 % 2 = 1 then [98] else []) ++ (if t / 4 % 2 = 1 then [99] else [])
/-- A word is the offer of m for the set t. -/
structure OfferIs (w : List UInt8) (t m : Nat) : Prop where
  t1 : 1 ≤ t
  t8 : t < 8
  m30 : m ≤ 30
  eq : w = lw t ++ 58 :: decDigits m

theorem lw_inj {t u : Nat} (ht : t < 8) (hu : u < 8) (h : lw t = lw u) : t = u := by
  have : ∀ t, t < 8 → ∀ u, u < 8 → lw t = lw u → t = u := by decide
  exact this t ht u hu h
theorem lw_colon {t : Nat} (ht : t < 8) : 58 ∉ lw t := by
  have : ∀ t, t < 8 → 58 ∉ lw t := by decide
  exact this t ht
theorem lw_space {t : Nat} (ht : t < 8) : 32 ∉ lw t := by
  have : ∀ t, t < 8 → 32 ∉ lw t := by decide
  exact this t ht
/-- The decimals up to 30, spelt. -/
def dec30 (m : Nat) : List UInt8 := if m < 10 then [UInt8.ofNat (48 + m)] else [UInt8.ofNat (48 + m / 10), UInt8.ofNat (48 + m % 10)]
theorem dec_small {m : Nat} (h : m ≤ 30) : decDigits m = dec30 m := by
  unfold dec30
  rw [decDigits]
  split
  · rfl
  · rw [decDigits, dif_pos (by omega)]; rfl
theorem dec30_inj {m n : Nat} (hm : m ≤ 30) (hn : n ≤ 30) (h : dec30 m = dec30 n) : m = n := by
  have : ∀ m, m < 31 → ∀ n, n < 31 → dec30 m = dec30 n → m = n := by decide
  exact this m (by omega) n (by omega) h
theorem dec_colon {m : Nat} (h : m ≤ 30) : 58 ∉ decDigits m := by
  rw [dec_small h]
  have : ∀ m, m < 31 → 58 ∉ dec30 m := by decide
  exact this m (by omega)
theorem dec_space {m : Nat} (h : m ≤ 30) : 32 ∉ decDigits m := by
  rw [dec_small h]
  have : ∀ m, m < 31 → 32 ∉ dec30 m := by decide
  exact this m (by omega)
theorem dec_inj {m n : Nat} (hm : m ≤ 30) (hn : n ≤ 30) (h : decDigits m = decDigits n) : m = n := by
  rw [dec_small hm, dec_small hn] at h; exact dec30_inj hm hn h

theorem OfferIs.spl {w : List UInt8} {t m : Nat} (h : OfferIs w t m) : spl 58 w = [lw t, decDigits m] := by
  rw [h.eq, spl_word (lw_colon h.t8), spl_last (dec_colon h.m30)]
theorem OfferIs.one {w : List UInt8} {t m t' m' : Nat} (h : OfferIs w t m) (h' : OfferIs w t' m') : t = t' ∧ m = m' := by
  have := h.spl.symm.trans h'.spl
  injection this with h1 h2
  injection h2 with h2 _
  exact ⟨lw_inj h.t8 h'.t8 h1, dec_inj h.m30 h'.m30 h2⟩
theorem OfferIs.free {w : List UInt8} {t m : Nat} (h : OfferIs w t m) : 32 ∉ w := by
  rw [h.eq]
  simp
  exact ⟨lw_space h.t8, dec_space h.m30⟩

/-- Offers, and their words. -/
abbrev Offers := List (Nat × Nat)
def word (o : Nat × Nat) : List UInt8 := lw o.1 ++ 58 :: decDigits o.2
def Fine (os : Offers) : Prop := ∀ o ∈ os, 1 ≤ o.1 ∧ o.1 < 8 ∧ o.2 ≤ 30
theorem Fine.word {os : Offers} (h : Fine os) {o : Nat × Nat} (ho : o ∈ os) : OfferIs (word o) o.1 o.2 := ⟨(h o ho).1, (h o ho).2.1, (h o ho).2.2, rfl⟩
theorem word_one {o o' : Nat × Nat} {w : List UInt8} (h : OfferIs w o.1 o.2) (h' : OfferIs w o'.1 o'.2) : o = o' := Prod.ext (h.one h').1 (h.one h').2
theorem words_one : ∀ {os os' : Offers}, Fine os → Fine os' → os.map word = os'.map word → os = os'
  | [], [], _, _, _ => rfl
  | o :: os, o' :: os', h, h', e => by
    simp at e
    have h1 := h.word (o := o) (by simp)
    have h2 := h'.word (o := o') (by simp)
    rw [e.1] at h1
    rw [word_one h1 h2, words_one (fun x hx => h x (by simp [hx])) (fun x hx => h' x (by simp [hx])) e.2]
  | [], _ :: _, _, _, e => by simp at e
  | _ :: _, [], _, _, e => by simp at e

/-- The words between offers: xor, or. -/
def sepOf : Bool → List UInt8
  | true => [120, 111, 114]
  | false => [111, 114]
def sepW (x : Bool) : List UInt8 := 32 :: (sepOf x ++ [32])
theorem sep_free (x : Bool) : 32 ∉ sepOf x := by cases x <;> decide
/-- The text of offers. -/
def text (x : Bool) (os : Offers) : List UInt8 := join (os.map word) (sepW x)

/-- The words of a text: offers, and what is between. -/
def inter (x : Bool) : Offers → List (List UInt8)
  | [] => []
  | [o] => [word o]
  | o :: os => word o :: sepOf x :: inter x os
theorem spl_text (x : Bool) : ∀ {os : Offers}, os ≠ [] → Fine os → spl 32 (text x os) = inter x os
  | [o], _, h => by
    have h1 := h.word (o := o) (by simp)
    simp only [text, List.map_cons, List.map_nil, join_one, inter]
    exact spl_last h1.free
  | o :: p :: os, _, h => by
    have h1 := h.word (o := o) (by simp)
    have e : text x (o :: p :: os) = word o ++ 32 :: (sepOf x ++ 32 :: text x (p :: os)) := by
      simp only [text, List.map_cons]
      rw [join_cons, join_cons]
      simp [joinTail, sepW]
    rw [e, spl_word h1.free, spl_word (sep_free x), spl_text x (by simp) (fun q hq => h q (by simp [List.mem_cons.1 hq]))]
    rfl
theorem split_text (x : Bool) {os : Offers} (hne : os ≠ []) (h : Fine os) : split (text x os) (sepW x) = os.map word := by
  cases os with
  | nil => exact absurd rfl hne
  | cons o os =>
    unfold text sepW
    rw [List.map_cons]
    exact split_join _ _ (fun w hw => by
      rw [← List.map_cons] at hw
      obtain ⟨q, hq, rfl⟩ := List.mem_map.1 hw
      exact (h.word hq).free)
theorem inter_mem {x : Bool} : ∀ {os : Offers} {w : List UInt8}, w ∈ inter x os → w = sepOf x ∨ ∃ o ∈ os, w = word o
  | [o], w, h => by simp [inter] at h; exact .inr ⟨o, by simp, h⟩
  | o :: p :: os, w, h => by
    simp only [inter, List.mem_cons] at h
    rcases h with h | h | h
    · exact .inr ⟨o, by simp, h⟩
    · exact .inl h
    · rcases inter_mem h with h | ⟨q, hq, h⟩
      · exact .inl h
      · exact .inr ⟨q, by simp [List.mem_cons.1 hq], h⟩
theorem word_sep {o : Nat × Nat} (x : Bool) : word o ≠ sepOf x := by
  intro h
  have : (58 : UInt8) ∈ word o := by simp [word]
  rw [h] at this
  cases x <;> simp [sepOf] at this
/-- A text by xor has no or. -/
theorem xor_no_or {os : Offers} (hne : os ≠ []) (h : Fine os) : index (text true os) (sepW false) = -1 := by
  rcases Int.lt_or_le (index (text true os) (sepW false)) 0 with h0 | h0
  · have := index_ge (text true os) (sepW false); omega
  · exfalso
    have hi : index (text true os) (sepW false) = ((index (text true os) (sepW false)).toNat : Nat) := by omega
    have := spl_has (c := 32) (w := sepOf false) (by decide) hi
    rw [spl_text true hne h] at this
    rcases inter_mem this with h1 | ⟨o, _, h1⟩
    · revert h1; decide
    · exact word_sep false h1.symm
/-- A text by or, of two offers or more, has it. -/
theorem or_has_or {o p : Nat × Nat} {os : Offers} (h : Fine (o :: p :: os)) : index (text false (o :: p :: os)) (sepW false) = (word o).length := by
  have h1 := h.word (o := o) (by simp)
  have e : text false (o :: p :: os) = word o ++ sepW false ++ text false (p :: os) := by
    simp only [text, List.map_cons]
    rw [join_cons, join_cons]
    simp [joinTail]
  rw [e]
  exact index_free h1.free _

/-- What a text says: offers by xor (true), one among them, or two or more by or (false). -/
def Says (l : List UInt8) (x : Bool) (os : Offers) : Prop := Fine os ∧ os ≠ [] ∧ (x = false → 2 ≤ os.length) ∧ l = text x os
theorem inter_len (x : Bool) : ∀ {os : Offers}, os ≠ [] → (inter x os).length = 2 * os.length - 1
  | [o], _ => rfl
  | o :: p :: os, _ => by simp only [inter, List.length_cons]; rw [inter_len x (by simp)]; simp; omega
theorem Says.one {l : List UInt8} {x x' : Bool} {os os' : Offers} (h : Says l x os) (h' : Says l x' os') : x = x' ∧ os = os' := by
  have hx : ∀ {os os' : Offers}, Says l true os → Says l false os' → False := by
    rintro os os' ⟨f1, n1, _, e1⟩ ⟨f2, n2, l2, e2⟩
    have h1 := xor_no_or n1 f1
    rw [← e1] at h1
    match os', n2, l2, f2, e2 with
    | [o], _, l2, _, _ => simp at l2
    | o :: p :: r, _, _, f2, e2 =>
      have h2 := or_has_or f2
      rw [← e2, h1] at h2
      omega
  have hxx : x = x' := by
    cases x <;> cases x'
    · rfl
    · exact (hx h' h).elim
    · exact (hx h h').elim
    · rfl
  subst hxx
  refine ⟨rfl, words_one h.1 h'.1 ?_⟩
  rw [← split_text x h.2.1 h.1, ← split_text x h'.2.1 h'.1, ← h.2.2.2, ← h'.2.2.2]


/-! ### What the program's pieces say -/

theorem says_in {l : List UInt8} {x : Bool} {os : Offers} (h : Says l x os) : contains l (sepW false) = !x ∧ split l (sepW x) = os.map word := by
  refine ⟨?_, by rw [h.2.2.2]; exact split_text x h.2.1 h.1⟩
  unfold contains
  rw [h.2.2.2]
  match x, os, h with
  | true, os, h => rw [xor_no_or h.2.1 h.1]; rfl
  | false, [], h => exact absurd rfl h.2.1
  | false, [o], h => have := h.2.2.1 rfl; simp at this
  | false, o :: p :: r, h => rw [or_has_or h.1]; simp
theorem says_of {l : List UInt8} {x : Bool} {os : Offers} (hc : contains l (sepW false) = !x) (hs : split l (sepW x) = os.map word) (hf : Fine os) : Says l x os := by
  have hne : os ≠ [] := by
    rintro rfl
    exact split_ne _ _ hs
  refine ⟨hf, hne, ?_, by rw [text, ← hs, join_split]⟩
  rintro rfl
  match os, hne, hs with
  | [o], _, hs =>
    exfalso
    have e := join_split l (sepW false)
    rw [hs, List.map_cons, List.map_nil, join_one] at e
    have hfr := (hf.word (o := o) (by simp)).free
    rw [← e] at hc
    unfold contains at hc
    rw [show sepW false = 32 :: (sepOf false ++ [32]) from rfl, index_not hfr] at hc
    revert hc; decide
  | o :: p :: r, _, _ => simp

/-! ### Tables of offers -/

/-- The table of an offer alone. -/
def offT (o : Nat × Nat) : List Int := (List.range 8).map (fun s => if s &&& o.1 = o.1 then (o.2 : Int) else 0)
theorem offT_at (o : Nat × Nat) {s : Nat} (hs : s < 8) : T (offT o) s = if s &&& o.1 = o.1 then (o.2 : Int) else 0 := by
  unfold T offT; rw [List.getD_eq_getElem?_getD]; simp [hs]
theorem offT_len (o : Nat × Nat) : (offT o).length = 8 := by simp [offT]
/-- The greater of both. -/
def grT (a b : List Int) : List Int := (List.range 8).map (fun s => max (T a s) (T b s))
theorem grT_at (a b : List Int) {s : Nat} (hs : s < 8) : T (grT a b) s = max (T a s) (T b s) := by
  unfold grT T; rw [List.getD_eq_getElem?_getD]; simp [hs]
theorem zero_at (s : Nat) : T (List.replicate 8 0) s = 0 := by
  unfold T; rw [List.getD_eq_getElem?_getD, List.getElem?_replicate]; split <;> rfl
/-- What offers by xor say of a set. -/
def xval (os : Offers) (s : Nat) : Int := os.foldl (fun m o => if s &&& o.1 = o.1 then max m (o.2 : Int) else m) 0
theorem xval_snoc (os : Offers) (o : Nat × Nat) (s : Nat) : xval (os ++ [o]) s = if s &&& o.1 = o.1 then max (xval os s) (o.2 : Int) else xval os s := by simp [xval]
theorem xval_from (os : Offers) (s : Nat) : ∀ b : Int, b ≤ os.foldl (fun m o => if s &&& o.1 = o.1 then max m (o.2 : Int) else m) b ∧ (∀ o ∈ os, s &&& o.1 = o.1 → (o.2 : Int) ≤ os.foldl (fun m o => if s &&& o.1 = o.1 then max m (o.2 : Int) else m) b) ∧
    ∀ c, b ≤ c → (∀ o ∈ os, s &&& o.1 = o.1 → (o.2 : Int) ≤ c) → os.foldl (fun m o => if s &&& o.1 = o.1 then max m (o.2 : Int) else m) b ≤ c := by
  induction os with
  | nil => intro b; simp
  | cons a l ih =>
    intro b
    simp only [List.foldl_cons]
    by_cases ha : s &&& a.1 = a.1
    · rw [if_pos ha]
      obtain ⟨h1, h2, h3⟩ := ih (max b (a.2 : Int))
      refine ⟨by omega, fun o ho hs => ?_, fun c hb hc => h3 c (by have := hc a (by simp) ha; omega) (fun o ho => hc o (by simp [ho]))⟩
      rcases List.mem_cons.1 ho with rfl | ho
      · omega
      · exact h2 o ho hs
    · rw [if_neg ha]
      obtain ⟨h1, h2, h3⟩ := ih b
      refine ⟨h1, fun o ho hs => ?_, fun c hb hc => h3 c hb (fun o ho => hc o (by simp [ho]))⟩
      rcases List.mem_cons.1 ho with rfl | ho
      · exact absurd hs ha
      · exact h2 o ho hs
theorem xval_nonneg (os : Offers) (s : Nat) : 0 ≤ xval os s := (xval_from os s 0).1
theorem le_xval {os : Offers} {s : Nat} {o : Nat × Nat} (ho : o ∈ os) (hs : s &&& o.1 = o.1) : (o.2 : Int) ≤ xval os s := (xval_from os s 0).2.1 o ho hs
theorem xval_le {os : Offers} {s : Nat} {c : Int} (h0 : 0 ≤ c) (h : ∀ o ∈ os, s &&& o.1 = o.1 → (o.2 : Int) ≤ c) : xval os s ≤ c := (xval_from os s 0).2.2 c h0 h
/-- Offers by xor, one after another. -/
def txor (os : Offers) : List Int := os.foldl (fun a o => grT a (offT o)) (List.replicate 8 0)
theorem txor_snoc (os : Offers) (o : Nat × Nat) : txor (os ++ [o]) = grT (txor os) (offT o) := by simp [txor]
theorem snoc_cases {α : Type} (l : List α) : l = [] ∨ ∃ i x, l = i ++ [x] := by
  rcases List.eq_nil_or_concat l with h | ⟨i, x, h⟩
  · exact .inl h
  · exact .inr ⟨i, x, by rw [h, List.concat_eq_append]⟩
theorem txor_len (os : Offers) : (txor os).length = 8 := by
  rcases snoc_cases os with rfl | ⟨i, x, rfl⟩
  · rfl
  · rw [txor_snoc]; simp [grT]
theorem txor_at {s : Nat} (hs : s < 8) : ∀ (n : Nat) (os : Offers), os.length = n → T (txor os) s = xval os s := by
  intro n
  induction n with
  | zero => intro os h; have := List.eq_nil_of_length_eq_zero h; subst this; exact zero_at s
  | succ n ih =>
    intro os h
    rcases snoc_cases os with rfl | ⟨i, x, rfl⟩
    · simp at h
    · rw [txor_snoc, grT_at _ _ hs, offT_at _ hs, xval_snoc, ih i (by simpa using h)]
      have := xval_nonneg i s
      split <;> omega

/-- What offers by or say of a set. -/
def sumF : Offers → Nat → Int
  | [], _ => 0
  | o :: os, x => max (sumF os x) (if x &&& o.1 = o.1 then (o.2 : Int) + sumF os (x - o.1) else 0)
theorem sumF_nonneg : ∀ (os : Offers) (x : Nat), 0 ≤ sumF os x
  | [], _ => by simp [sumF]
  | o :: os, x => by have := sumF_nonneg os x; simp only [sumF]; omega
theorem offT_zero {o : Nat × Nat} (h : 1 ≤ o.1) : T (offT o) 0 = 0 := by
  rw [offT_at _ (by omega), if_neg (by simp; omega)]
theorem fine_zero {os : Offers} (h : Fine os) : ∀ t ∈ os.map offT, T t 0 = 0 := by
  intro t ht
  obtain ⟨o, ho, rfl⟩ := List.mem_map.1 ht
  exact offT_zero (h o ho).1
theorem sv_off : ∀ {os : Offers}, Fine os → ∀ {x : Nat}, x < 8 → sv (os.map offT) x = sumF os x
  | [], _, _, _ => rfl
  | o :: os, h, x, hx => by
    have hf : Fine os := fun q hq => h q (by simp [hq])
    have ho := h o (by simp)
    have ih := fun {y : Nat} (hy : y < 8) => sv_off hf hy
    have hz := fine_zero hf
    simp only [List.map_cons, sv, sumF]
    apply Int.le_antisymm
    · refine mx_le (by have := sumF_nonneg os x; omega) (fun s hs => ?_)
      have hs8 := subs_lt hs
      rw [offT_at _ hs8]
      by_cases hso : s &&& o.1 = o.1
      · rw [if_pos hso]
        have h1 := all3 (p := fun x s t => !(s &&& x == s) || !(s &&& t == t) || (x &&& t == t && (x - s) &&& (x - t) == x - s)) (by decide) hx hs8 ho.2.1
        simp [subs_and hs, hso] at h1
        rw [if_pos h1.1]
        have h2 := sv_more hz (show x - o.1 < 8 by omega) (show x - s ∈ subs (x - o.1) by simp [subs, h1.2]; omega)
        rw [ih (show x - o.1 < 8 by omega)] at h2
        omega
      · rw [if_neg hso]
        have h2 := sv_more hz hx (sub_rest hx hs).1
        rw [ih hx] at h2
        omega
    · have h1 := le_mx (f := fun s => T (offT o) s + sv (os.map offT) (x - s)) (sub_zero x)
      simp only [offT_zero ho.1, Nat.sub_zero, ih hx] at h1
      by_cases hxo : x &&& o.1 = o.1
      · rw [if_pos hxo]
        have hm : o.1 ∈ subs x := by simp [subs, ho.2.1]; rw [Nat.and_comm]; exact hxo
        have h2 := le_mx (f := fun s => T (offT o) s + sv (os.map offT) (x - s)) hm
        simp only [offT_at o ho.2.1, ih (show x - o.1 < 8 by omega), Nat.and_self, if_true] at h2
        omega
      · rw [if_neg hxo]
        have := sumF_nonneg os x
        omega
/-- Offers by or, one after another. -/
def tor (os : Offers) : List Int := jnAll (os.map offT)
theorem tor_snoc (os : Offers) (o : Nat × Nat) : tor (os ++ [o]) = tg (T (tor os)) (T (offT o)) := by unfold tor; rw [List.map_append, List.map_cons, List.map_nil, jnAll_snoc]
theorem tor_len (os : Offers) : (tor os).length = 8 := jnAll_len _
theorem tor_at {os : Offers} (h : Fine os) {s : Nat} (hs : s < 8) : T (tor os) s = sumF os s := by
  unfold tor
  rw [jnAll_at (fine_zero h) hs, sv_off h hs]

/-- The table of offers. -/
def tabOf (x : Bool) (os : Offers) : List Int := if x then txor os else tor os
theorem tabOf_len (x : Bool) (os : Offers) : (tabOf x os).length = 8 := by cases x <;> simp [tabOf, txor_len, tor_len]

/-- Tables that are the same everywhere. -/
theorem tab_ext {a b : List Int} (ha : a.length = 8) (hb : b.length = 8) (h : ∀ s, s < 8 → T a s = T b s) : a = b := by
  apply List.ext_getElem?
  intro i
  rcases Nat.lt_or_ge i 8 with hi | hi
  · rw [T_at (by omega), T_at (by omega), h i hi]
  · rw [List.getElem?_eq_none (by omega), List.getElem?_eq_none (by omega)]

/-- The table that a text tells, if any. -/
noncomputable def rdF (l : List UInt8) : Option (List Int) :=
  if l = [] then some (List.replicate 8 0)
  else @dite _ (∃ p : Bool × Offers, Says l p.1 p.2 ∧ p.2.length ≤ 7) (Classical.propDecidable _) (fun h => some (tabOf (Classical.choose h).1 (Classical.choose h).2)) (fun _ => none)
noncomputable def tabF (l : List UInt8) : Option (List Int) := match rdF l with
  | some t => if vt t then some t else none
  | none => none
theorem rdF_nil : rdF [] = some (List.replicate 8 0) := by simp [rdF]
theorem text_ne {x : Bool} {os : Offers} (h : os ≠ []) : text x os ≠ [] := by
  cases os with
  | nil => exact absurd rfl h
  | cons o os =>
    unfold text
    rw [List.map_cons, join_cons]
    simp [word]
theorem rdF_says {l : List UInt8} {x : Bool} {os : Offers} (h : Says l x os) (h7 : os.length ≤ 7) : rdF l = some (tabOf x os) := by
  have hl : l ≠ [] := by rw [h.2.2.2]; exact text_ne h.2.1
  unfold rdF
  rw [if_neg hl]
  have hex : ∃ p : Bool × Offers, Says l p.1 p.2 ∧ p.2.length ≤ 7 := ⟨(x, os), h, h7⟩
  rw [dif_pos hex]
  obtain ⟨h1, h2⟩ := (Classical.choose_spec hex).1.one h
  rw [h1, h2]
theorem rdF_none {l : List UInt8} (hl : l ≠ []) (h : ∀ x os, Says l x os → 7 < os.length) : rdF l = none := by
  unfold rdF
  rw [if_neg hl, dif_neg]
  rintro ⟨p, hp, h7⟩
  have := h _ _ hp
  omega
theorem rdF_len {l : List UInt8} {t : List Int} (h : rdF l = some t) : t.length = 8 := by
  unfold rdF at h
  split at h
  · cases h; rfl
  · split at h
    · cases h; exact tabOf_len _ _
    · cases h
theorem tabF_vt {l : List UInt8} {t : List Int} (h : tabF l = some t) : VT t := by
  unfold tabF at h
  split at h
  · split at h
    · next hv => cases h; exact vt_iff.1 hv
    · cases h
  · cases h


/-- The offers of a table, of the sets below k. -/
def shTo (t : List Int) : Nat → Offers
  | 0 => []
  | k + 1 => if bl t k < T t k then shTo t k ++ [(k, (T t k).toNat)] else shTo t k
def shF (t : List Int) : Offers := shTo t 8
theorem shTo_mem {t : List Int} {o : Nat × Nat} : ∀ {k : Nat}, o ∈ shTo t k ↔ o.1 < k ∧ bl t o.1 < T t o.1 ∧ o.2 = (T t o.1).toNat := by
  intro k
  induction k with
  | zero => simp [shTo]
  | succ k ih =>
    simp only [shTo]
    split
    · next h =>
      rw [List.mem_append, ih]
      constructor
      · rintro (⟨h1, h2⟩ | h1)
        · exact ⟨by omega, h2⟩
        · simp at h1; subst h1; exact ⟨by simp, h, rfl⟩
      · rintro ⟨h1, h2, h3⟩
        rcases Nat.lt_or_ge o.1 k with hk | hk
        · exact .inl ⟨hk, h2, h3⟩
        · obtain rfl : o.1 = k := by omega
          exact .inr (by simp [← h3])
    · next h =>
      rw [ih]
      constructor
      · rintro ⟨h1, h2⟩; exact ⟨by omega, h2⟩
      · rintro ⟨h1, h2, h3⟩
        refine ⟨?_, h2, h3⟩
        rcases Nat.lt_or_ge o.1 k with hk | hk
        · exact hk
        · obtain rfl : o.1 = k := by omega
          exact absurd h2 h
theorem bl_zero (t : List Int) : bl t 0 = 0 := by simp [bl, blTo]
theorem shF_fine {t : List Int} (h : VT t) : Fine (shF t) := by
  intro o ho
  obtain ⟨h1, h2, h3⟩ := shTo_mem.1 ho
  have hb := (h.2.2 o.1 h1).1
  refine ⟨?_, h1, by omega⟩
  rcases Nat.eq_zero_or_pos o.1 with h0 | h0
  · rw [h0, bl_zero, h.2.1] at h2; omega
  · exact h0
theorem shTo_len (t : List Int) : ∀ k, (shTo t k).length ≤ k
  | 0 => by simp [shTo]
  | k + 1 => by have := shTo_len t k; simp only [shTo]; split <;> simp <;> omega
theorem shF_len {t : List Int} (h : VT t) : (shF t).length ≤ 7 := by
  have h1 : shTo t 1 = [] := by rw [shTo, if_neg (by rw [bl_zero, h.2.1]; omega), shTo]
  have : ∀ k, (shTo t (k + 1)).length ≤ k := by
    intro k
    induction k with
    | zero => rw [h1]; simp
    | succ k ih =>
      rw [shTo]
      split
      · rw [List.length_append, List.length_singleton]; omega
      · omega
  exact this 7
/-- More things are worth no less. -/
theorem VT.mono {t : List Int} (h : VT t) {a b : Nat} (ha : a < 8) (hb : b < 8) (hs : b &&& a = a) : T t a ≤ T t b := by
  obtain ⟨h0, h1, h2, h3, h4, h5, h6, h7, c1, c2, c3, c4, c5, c6, c7, c8, c9⟩ := h.all
  rcases nat8 ha with rfl | rfl | rfl | rfl | rfl | rfl | rfl | rfl <;> rcases nat8 hb with rfl | rfl | rfl | rfl | rfl | rfl | rfl | rfl <;> first | omega | (exfalso; revert hs; decide)
/-- Where a set is worth no more than one thing less, it is worth just so much. -/
theorem VT.less {t : List Int} (h : VT t) {s : Nat} (hs : s < 8) (hb : ¬ bl t s < T t s) : T t s = 0 ∨ ∃ a, a < s ∧ s &&& a = a ∧ T t a = T t s := by
  have b := bl_vals t
  have p := (h.2.2 s hs).1
  have h0 := h.2.1
  have hh := h.all
  rcases nat8 hs with rfl | rfl | rfl | rfl | rfl | rfl | rfl | rfl
  · exact .inl h0
  · exact .inl (by omega)
  · exact .inl (by omega)
  · by_cases h1 : T t 2 = T t 3
    · exact .inr ⟨2, by omega, by decide, h1⟩
    · by_cases h2 : T t 1 = T t 3
      · exact .inr ⟨1, by omega, by decide, h2⟩
      · exact .inl (by omega)
  · exact .inl (by omega)
  · by_cases h1 : T t 4 = T t 5
    · exact .inr ⟨4, by omega, by decide, h1⟩
    · by_cases h2 : T t 1 = T t 5
      · exact .inr ⟨1, by omega, by decide, h2⟩
      · exact .inl (by omega)
  · by_cases h1 : T t 4 = T t 6
    · exact .inr ⟨4, by omega, by decide, h1⟩
    · by_cases h2 : T t 2 = T t 6
      · exact .inr ⟨2, by omega, by decide, h2⟩
      · exact .inl (by omega)
  · by_cases h1 : T t 6 = T t 7
    · exact .inr ⟨6, by omega, by decide, h1⟩
    · by_cases h2 : T t 5 = T t 7
      · exact .inr ⟨5, by omega, by decide, h2⟩
      · by_cases h3 : T t 3 = T t 7
        · exact .inr ⟨3, by omega, by decide, h3⟩
        · exact .inl (by omega)
theorem sub_trans {a b c : Nat} (ha : a < 8) (hb : b < 8) (hc : c < 8) (h1 : c &&& b = b) (h2 : b &&& a = a) : c &&& a = a := by
  have h := all3 (p := fun a b c => !(c &&& b == b) || !(b &&& a == a) || c &&& a == a) (by decide) ha hb hc
  simpa [h1, h2] using h
/-- Some offer says what a set is worth. -/
theorem shF_has {t : List Int} (h : VT t) : ∀ (n s : Nat), s ≤ n → s < 8 → T t s = 0 ∨ ∃ o ∈ shF t, s &&& o.1 = o.1 ∧ (o.2 : Int) = T t s := by
  intro n
  induction n with
  | zero => intro s h0 _; obtain rfl : s = 0 := by omega
            exact .inl h.2.1
  | succ n ih =>
    intro s hn hs
    have hp := (h.2.2 s hs).1
    by_cases hb : bl t s < T t s
    · exact .inr ⟨(s, (T t s).toNat), shTo_mem.2 ⟨hs, hb, rfl⟩, by simp, by simp; omega⟩
    · rcases h.less hs hb with h0 | ⟨a, ha, hsa, he⟩
      · exact .inl h0
      · rcases ih a (by omega) (by omega) with h0 | ⟨o, ho, h1, h2⟩
        · exact .inl (by omega)
        · exact .inr ⟨o, ho, sub_trans (shTo_mem.1 ho).1 (by omega) hs hsa h1, by omega⟩
theorem xval_sh {t : List Int} (h : VT t) {s : Nat} (hs : s < 8) : xval (shF t) s = T t s := by
  have hp := (h.2.2 s hs).1
  apply Int.le_antisymm
  · refine xval_le hp.1 (fun o ho hos => ?_)
    obtain ⟨h1, h2, h3⟩ := shTo_mem.1 ho
    have := h.mono h1 hs hos
    have := (h.2.2 o.1 h1).1
    omega
  · rcases shF_has h 8 s (by omega) hs with h0 | ⟨o, ho, h1, h2⟩
    · have := xval_nonneg (shF t) s; omega
    · have := le_xval ho h1; omega
theorem txor_sh {t : List Int} (h : VT t) : txor (shF t) = t :=
  tab_ext (txor_len _) h.1 (fun s hs => by rw [txor_at hs _ _ rfl, xval_sh h hs])
/-- Offers by xor are a table. -/
theorem txor_vt {os : Offers} (h : Fine os) : VT (txor os) := by
  refine ⟨txor_len _, ?_, fun s hs => ⟨?_, fun j hj hb => ?_⟩⟩
  · rw [txor_at (by omega) _ _ rfl]
    refine Int.le_antisymm (xval_le (by omega) (fun o ho hs => ?_)) (xval_nonneg _ _)
    have := (h o ho).1
    simp at hs
    omega
  · rw [txor_at hs _ _ rfl]
    exact ⟨xval_nonneg _ _, xval_le (by omega) (fun o ho _ => by have := (h o ho).2.2; omega)⟩
  · have hs2 : s + 2 ^ j < 8 ∧ (s + 2 ^ j) &&& s = s := by
      rcases nat8 hs with rfl | rfl | rfl | rfl | rfl | rfl | rfl | rfl <;> rcases nat3 hj with rfl | rfl | rfl <;> first | decide | (exfalso; revert hb; decide)
    rw [txor_at hs _ _ rfl, txor_at hs2.1 _ _ rfl]
    exact xval_le (xval_nonneg _ _) (fun o ho hos => le_xval ho (sub_trans (h o ho).2.1 hs hs2.1 hs2.2 hos))

/-- The text of offers by xor, of none too. -/
def textX (os : Offers) : List UInt8 := if os = [] then [] else text true os
theorem textX_nil : textX [] = [] := rfl
theorem tabF_text {os : Offers} (h : Fine os) (h7 : os.length ≤ 7) : tabF (textX os) = some (txor os) := by
  unfold textX
  split
  · next he => subst he; unfold tabF; rw [rdF_nil]; rw [show txor [] = List.replicate 8 0 from rfl]; simp only [show vt (List.replicate 8 (0 : Int)) = true from vt_true (txor_vt (os := []) (by intro o ho; simp at ho))]; rfl
  · next he =>
    have hs : Says (text true os) true os := ⟨h, he, (fun h => by cases h), rfl⟩
    unfold tabF
    rw [rdF_says hs h7]
    simp [tabOf, vt_true (txor_vt h)]
theorem tabF_long {os : Offers} (h : Fine os) (h7 : 7 < os.length) : tabF (textX os) = none := by
  have he : os ≠ [] := by rintro rfl; simp at h7
  unfold textX
  rw [if_neg he]
  have hs : Says (text true os) true os := ⟨h, he, (fun h => by cases h), rfl⟩
  unfold tabF
  rw [rdF_none (text_ne he) (fun x os' h' => by rw [(h'.one hs).2]; exact h7)]
/-- The shortest text of a table. -/
def shw (t : List Int) : List UInt8 := textX (shF t)
/-- Tables are shown and read. -/
theorem tabF_shw {t : List Int} (h : VT t) : tabF (shw t) = some t := by
  unfold shw
  rw [tabF_text (shF_fine h) (shF_len h), txor_sh h]

/-- Without the last offer it is another table. -/
theorem shw_short {t : List Int} {os : Offers} {o : Nat × Nat} (h : VT t) (he : shF t = os ++ [o]) : Fine os ∧ os.length ≤ 7 ∧ txor os ≠ t := by
  have hf := shF_fine h
  have hl := shF_len h
  rw [he] at hf hl
  have hf' : Fine os := fun q hq => hf q (by simp [hq])
  refine ⟨hf', by simp at hl; omega, fun e => ?_⟩
  have ho : o ∈ shF t := by rw [he]; simp
  obtain ⟨h1, h2, h3⟩ := shTo_mem.1 ho
  have hp := (h.2.2 o.1 h1).1
  -- the others are of smaller sets
  have hlt : ∀ k, ∀ os o, shTo t k = os ++ [o] → ∀ q ∈ os, q.1 < o.1 := by
    intro k
    induction k with
    | zero => intro os o h; simp [shTo] at h
    | succ k ih =>
      intro os o h q hq
      simp only [shTo] at h
      split at h
      · have := List.append_inj' h rfl
        have h2 : (k, (T t k).toNat) = o := by simpa using this.2
        rw [← this.1] at hq
        have := (shTo_mem.1 hq).1
        rw [← h2]; exact this
      · exact ih os o h q hq
  have hx : T (txor os) o.1 ≤ bl t o.1 := by
    rw [txor_at h1 _ _ rfl]
    have hb0 : 0 ≤ bl t o.1 := by
      have b := bl_vals t
      rcases nat8 h1 with e | e | e | e | e | e | e | e <;> rw [e] <;> omega
    refine xval_le hb0 (fun q hq hs => ?_)
    have hq1 := hlt 8 os o he q hq
    have hqm : q ∈ shF t := by rw [he]; simp [hq]
    obtain ⟨q1, q2, q3⟩ := shTo_mem.1 hqm
    have hpq := (h.2.2 q.1 q1).1
    have hv : T t q.1 ≤ bl t o.1 := by
      have b := bl_vals t
      have a := h.all
      rcases nat8 h1 with e | e | e | e | e | e | e | e <;> rcases nat8 q1 with f | f | f | f | f | f | f | f <;> rw [e] at hs hq1 <;> rw [f] at hs hq1 <;> rw [e, f] <;> first | omega | (exfalso; revert hs; decide)
    omega
  rw [e] at hx
  omega

/-- Offers side by side are the greatest. -/
theorem xval_append (a b : Offers) (s : Nat) : xval (a ++ b) s = max (xval a s) (xval b s) := by
  apply Int.le_antisymm
  · refine xval_le (by have := xval_nonneg a s; omega) (fun o ho hs => ?_)
    rcases List.mem_append.1 ho with h | h
    · have := le_xval h hs; omega
    · have := le_xval h hs; omega
  · have h1 : xval a s ≤ xval (a ++ b) s := xval_le (xval_nonneg _ _) (fun o ho hs => le_xval (List.mem_append_left _ ho) hs)
    have h2 : xval b s ≤ xval (a ++ b) s := xval_le (xval_nonneg _ _) (fun o ho hs => le_xval (List.mem_append_right _ ho) hs)
    omega
theorem txor_append {a b : List Int} (ha : VT a) (hb : VT b) : txor (shF a ++ shF b) = grT a b :=
  tab_ext (txor_len _) (by simp [grT]) (fun s hs => by rw [txor_at hs _ _ rfl, xval_append, xval_sh ha hs, xval_sh hb hs, grT_at _ _ hs])


/-! ### Pieces, byte by byte -/

theorem spl_at {c : UInt8} {l : List UInt8} {f i : Nat} (hfi : f ≤ i) (hno : ∀ k, f ≤ k → k < i → l[k]? ≠ some c) (hi : l[i]? = some c) : spl c (l.drop f) = (l.drop f).take (i - f) :: spl c (l.drop (i + 1)) := by
  obtain ⟨hl, he⟩ := List.getElem?_eq_some_iff.1 hi
  have e : l.drop f = (l.drop f).take (i - f) ++ c :: l.drop (i + 1) := by
    have h1 : (l.drop f).drop (i - f) = c :: l.drop (i + 1) := by rw [List.drop_drop, show f + (i - f) = i by omega, List.drop_eq_getElem_cons hl, he]
    rw [← h1, List.take_append_drop]
  have hw : c ∉ (l.drop f).take (i - f) := by
    intro hm
    obtain ⟨k, hk, h1⟩ := List.getElem_of_mem hm
    simp at hk
    rw [List.getElem_take, List.getElem_drop] at h1
    exact hno (f + k) (by omega) (by omega) (by rw [List.getElem?_eq_getElem (by omega), h1])
  rw [e, spl_word hw, List.take_left']
  simp; omega
theorem spl_end {c : UInt8} {l : List UInt8} {f : Nat} (hno : ∀ k, f ≤ k → k < l.length → l[k]? ≠ some c) : spl c (l.drop f) = [l.drop f] := by
  apply spl_last
  intro hm
  obtain ⟨k, hk, h1⟩ := List.getElem_of_mem hm
  simp at hk
  rw [List.getElem_drop] at h1
  exact hno (f + k) (by omega) (by omega) (by rw [List.getElem?_eq_getElem (by omega), h1])

/-! ### Letters -/

theorem lw_step {u j : Nat} (hu : u < 8) (hj : j < 3) (h : u < 2 ^ j) : u + 2 ^ j < 8 ∧ lw (u + 2 ^ j) = lw u ++ [UInt8.ofNat (97 + j)] := by
  have : ∀ u, u < 8 → ∀ j, j < 3 → u < 2 ^ j → u + 2 ^ j < 8 ∧ lw (u + 2 ^ j) = lw u ++ [UInt8.ofNat (97 + j)] := by decide
  exact this u hu j hj h
theorem lw_stop {u i : Nat} {l : List UInt8} {b : UInt8} (hu : u < 8) (hp : l.take i = lw u) (hb : l[i]? = some b) (hn : ¬ ∃ j, j < 3 ∧ b = UInt8.ofNat (97 + j) ∧ u < 2 ^ j) {t : Nat} (ht : t < 8) : l ≠ lw t := by
  rintro rfl
  apply hn
  have hi : i = (lw u).length := by
    have := congrArg List.length hp
    rw [List.length_take] at this
    have := (List.getElem?_eq_some_iff.1 hb).1
    omega
  subst hi
  have : ∀ u, u < 8 → ∀ t, t < 8 → (lw t).take (lw u).length = lw u → ((lw t)[(lw u).length]? = none ∨ ∃ j, j < 3 ∧ (lw t)[(lw u).length]? = some (UInt8.ofNat (97 + j)) ∧ u < 2 ^ j) := by decide
  rcases this u hu t ht hp with h | ⟨j, hj, h1, h2⟩
  · rw [h] at hb; cases hb
  · rw [h1] at hb; exact ⟨j, hj, (Option.some.inj hb).symm, h2⟩
/-- The letter ahead, if there is one, is the greatest of the set. -/
theorem lw_ahead {u i j : Nat} {l : List UInt8} {b : UInt8} (hu : u < 8) (hp : l.take (i + 1) = lw u) (hb : l[i]? = some b) (hj : j < 3) : (b < UInt8.ofNat (97 + j) ↔ u < 2 ^ j) := by
  have hl := (List.getElem?_eq_some_iff.1 hb).1
  have hlen : (lw u).length = i + 1 := by rw [← hp, List.length_take]; omega
  have hb' : (lw u)[i]? = some b := by rw [← hp, List.getElem?_take, if_pos (by omega)]; exact hb
  have : ∀ u, u < 8 → ∀ i, i < 3 → ∀ j, j < 3 → (lw u).length = i + 1 → ∀ b, (lw u)[i]? = some b → (b < UInt8.ofNat (97 + j) ↔ u < 2 ^ j) := by
    intro u hu i hi j hj hl b hb
    have : ∀ u, u < 8 → ∀ i, i < 3 → ∀ j, j < 3 → (lw u).length = i + 1 → ((lw u).getD i 0 < UInt8.ofNat (97 + j) ↔ u < 2 ^ j) := by decide
    have := this u hu i hi j hj hl
    rw [List.getD_eq_getElem?_getD, hb] at this
    exact this
  have hi3 : i < 3 := by
    have : ∀ u, u < 8 → (lw u).length ≤ 3 := by decide
    have := this u hu
    omega
  exact this u hu i hi3 j hj hlen b hb'
theorem lw_first {u j : Nat} (hu : u < 8) (h : lw u = []) (hj : j < 3) : u < 2 ^ j := by
  have : ∀ u, u < 8 → ∀ j, j < 3 → lw u = [] → u < 2 ^ j := by decide
  exact this u hu j hj h
theorem lw_zero {u : Nat} (hu : u < 8) : lw u = [] ↔ u = 0 := by
  have : ∀ u, u < 8 → (lw u = [] ↔ u = 0) := by decide
  exact this u hu

/-- The set that a word tells, 0 if none. -/
def SetIs (l : List UInt8) (v : Nat) : Prop := v < 8 ∧ (v ≠ 0 → l = lw v) ∧ ∀ t, 1 ≤ t → t < 8 → l = lw t → v = t
theorem SetIs.no {l : List UInt8} (h : ∀ t, t < 8 → l ≠ lw t) : SetIs l 0 := ⟨by omega, (fun h => absurd rfl h), fun t _ ht e => absurd e (h t ht)⟩
theorem SetIs.yes {l : List UInt8} {u : Nat} (hu : u < 8) (h : l = lw u) : SetIs l u := ⟨hu, fun _ => h, fun _ _ ht e => lw_inj hu ht (h.symm.trans e)⟩

/-! ### Numbers -/

def dval (l : List UInt8) : Nat := l.foldl (fun n b => 10 * n + (b.toNat - 48)) 0
theorem dval_snoc (l : List UInt8) (b : UInt8) : dval (l ++ [b]) = 10 * dval l + (b.toNat - 48) := by simp [dval]
/-- The number up to 30 that a word tells, another one if none. -/
def NumW (l : List UInt8) (v : Int) : Prop := ∀ m : Nat, m ≤ 30 → (v = m ↔ l = decDigits m)
theorem dval_dec {m : Nat} (h : m ≤ 30) : dval (decDigits m) = m := by
  rw [dec_small h]
  have : ∀ m, m < 31 → dval (dec30 m) = m := by decide
  exact this m (by omega)
theorem dval_pre {m : Nat} (h : m ≤ 30) (k : Nat) : dval ((decDigits m).take k) ≤ 30 := by
  rw [dec_small h]
  have : ∀ m, m < 31 → ∀ k, k < 3 → dval ((dec30 m).take k) ≤ 30 := by decide
  rcases Nat.lt_or_ge k 3 with hk | hk
  · exact this m (by omega) k hk
  · have h2 : ∀ m, m < 31 → (dec30 m).length ≤ 2 := by decide
    rw [List.take_of_length_le (by have := h2 m (by omega); omega)]
    have h3 : ∀ m, m < 31 → dval (dec30 m) ≤ 30 := by decide
    exact h3 m (by omega)
theorem dec_digit {m : Nat} (h : m ≤ 30) {b : UInt8} (hb : b ∈ decDigits m) : 48 ≤ b ∧ b ≤ 57 := by
  rw [dec_small h] at hb
  have : ∀ m, m < 31 → ∀ b ∈ dec30 m, 48 ≤ b ∧ b ≤ 57 := by decide
  exact this m (by omega) b hb
theorem dec_ne (m : Nat) : decDigits m ≠ [] := by
  rw [decDigits]; split <;> simp
theorem NumW.yes {l : List UInt8} {n : Nat} (h : l = decDigits n) (hv : dval l = n) : NumW l n := by
  intro m hm
  constructor
  · intro e; rw [h]; congr 1; omega
  · intro e; rw [e, dval_dec hm] at hv; omega
theorem NumW.no {l : List UInt8} {v : Int} (hv : v < 0) (h : ∀ m, m ≤ 30 → l ≠ decDigits m) : NumW l v := by
  intro m hm
  constructor
  · intro e; omega
  · intro e; exact absurd e (h m hm)
theorem no_digit {l : List UInt8} {i : Nat} {b : UInt8} (hb : l[i]? = some b) (hn : ¬ (48 ≤ b ∧ b ≤ 57)) : ∀ m, m ≤ 30 → l ≠ decDigits m := by
  rintro m hm rfl
  exact hn (dec_digit hm (List.mem_of_getElem? hb))
theorem no_big {l : List UInt8} {i : Nat} (hn : 30 < dval (l.take i)) : ∀ m, m ≤ 30 → l ≠ decDigits m := by
  rintro m hm rfl
  have := dval_pre hm i
  omega
theorem no_other {l : List UInt8} {n : Nat} (hv : dval l = n) (hn : l ≠ decDigits n) : ∀ m, m ≤ 30 → l ≠ decDigits m := by
  rintro m hm rfl
  rw [dval_dec hm] at hv
  subst hv
  exact hn rfl
theorem atoi_dec {m : Nat} (h : m ≤ 30) : atoiAll (decDigits m) = .ok (m : Int) := by
  rw [dec_small h]
  have : ∀ m, m < 31 → atoiAll (dec30 m) = .ok (m : Int) := by
    intro m hm
    have h : ∀ m, m < 31 → (match atoiAll (dec30 m) with | .ok v => decide (v = (m : Int)) | _ => false) = true := by decide
    have := h m hm
    split at this
    · next v hv => rw [hv]; simp at this; rw [this]
    · cases this
  exact this m (by omega)
theorem itoa_dec (n : Nat) : itoa (n : Int) = decDigits n := by
  unfold itoa; rw [if_neg (by omega)]; rfl
/-- What the program's numbers tell. -/
theorem NumW.itoa {l : List UInt8} {n : Nat} (h : l = decDigits n) (hv : atoiAll l = .ok (n : Int)) : NumW l n := by
  intro m hm
  constructor
  · intro e; rw [h]; congr 1; omega
  · intro e; rw [e, atoi_dec hm] at hv; injection hv with hv; omega

/-- An offer: a set and a number. -/
theorem offer_yes {w a b : List UInt8} {v : Nat} {n : Int} (hw : w = a ++ 58 :: b) (hs : SetIs a v) (hn : NumW b n) (hv : v ≠ 0) (h0 : 0 ≤ n) (h1 : n ≤ 30) : OfferIs w v n.toNat := by
  refine ⟨by omega, hs.1, by omega, ?_⟩
  have := (hn n.toNat (by omega)).1 (by omega)
  rw [hw, ← hs.2.1 hv, ← this]
theorem offer_no {w a b : List UInt8} {v : Nat} {n : Int} (hw : w = a ++ 58 :: b) (ha : 58 ∉ a) (hs : SetIs a v) (hn : NumW b n) (h : v = 0 ∨ ¬ (0 ≤ n ∧ n ≤ 30)) (t m : Nat) : ¬ OfferIs w t m := by
  intro ho
  have e := ho.spl
  rw [hw, spl_word ha] at e
  injection e with e1 e2
  have e3 : b = decDigits m := by
    have := congrArg (fun x => join x [58]) e2
    simpa [spl_join, join_one] using this
  have h1 := hs.2.2 t ho.t1 ho.t8 e1
  have h2 := (hn m ho.m30).2 e3
  have := ho.t1
  have := ho.m30
  omega
theorem offer_none {w : List UInt8} (h : 58 ∉ w) (t m : Nat) : ¬ OfferIs w t m := by
  intro ho; exact h (by rw [ho.eq]; simp)

/-! ### Words and what is between -/

theorem inter_even {x : Bool} : ∀ {os : Offers} (k : Nat), (inter x os)[2 * k]? = os[k]?.map word
  | [], k => by simp [inter]
  | [o], 0 => rfl
  | [o], k + 1 => by simp [inter]
  | o :: p :: os, 0 => rfl
  | o :: p :: os, k + 1 => by
    have := inter_even (x := x) (os := p :: os) k
    show (word o :: sepOf x :: inter x (p :: os))[2 * k + 2]? = _
    simpa using this
theorem inter_odd {x : Bool} : ∀ {os : Offers} (k : Nat) {w : List UInt8}, (inter x os)[2 * k + 1]? = some w → w = sepOf x ∧ k + 1 < os.length
  | [], k, w, h => by simp [inter] at h
  | [o], k, w, h => by simp [inter] at h
  | o :: p :: os, 0, w, h => by simp [inter] at h; exact ⟨h.symm, by simp⟩
  | o :: p :: os, k + 1, w, h => by
    have e : (word o :: sepOf x :: inter x (p :: os))[2 * (k + 1) + 1]? = (inter x (p :: os))[2 * k + 1]? := by rw [show 2 * (k + 1) + 1 = 2 * k + 1 + 1 + 1 by omega]; simp
    change (word o :: sepOf x :: inter x (p :: os))[2 * (k + 1) + 1]? = some w at h
    rw [e] at h
    have := inter_odd k h
    exact ⟨this.1, by have := this.2; simp at this ⊢; omega⟩
  termination_by os _ _ _ => os.length
theorem inter_snoc (x : Bool) : ∀ {os : Offers} (o : Nat × Nat), os ≠ [] → inter x (os ++ [o]) = inter x os ++ [sepOf x, word o]
  | [p], o, _ => rfl
  | p :: q :: os, o, _ => by
    have := inter_snoc x (os := q :: os) o (by simp)
    show word p :: sepOf x :: inter x ((q :: os) ++ [o]) = _
    rw [this]; rfl
/-- A text by its words. -/
theorem text_of {l : List UInt8} {x : Bool} {os : Offers} (hne : os ≠ []) (hf : Fine os) (h : spl 32 l = inter x os) : l = text x os := by
  rw [← spl_join (c := 32) l, h, ← spl_text x hne hf, spl_join]

/-- Behind the first words: the offers so far, and the word between them, if there was one. -/
structure Upto (ws : List (List UInt8)) (i : Nat) (x : Option Bool) (os : Offers) : Prop where
  fine : Fine os
  len : i = 2 * os.length ∨ i + 1 = 2 * os.length
  none : x = Option.none → os.length ≤ 1 ∧ i ≤ 1
  some : ∀ y, x = Option.some y → 2 ≤ i ∧ ws[1]? = Option.some (sepOf y)
  at_ : ∀ y, (x = Option.none ∨ x = Option.some y) → ws.take i = (inter y os ++ [sepOf y]).take i
theorem Upto.start (ws : List (List UInt8)) : Upto ws 0 Option.none [] := ⟨by intro o h; simp at h, .inl rfl, fun _ => ⟨by simp, by omega⟩, (fun y h => by cases h), (fun y _ => by simp)⟩
theorem Upto.offer {ws : List (List UInt8)} {i t m : Nat} {x : Option Bool} {os : Offers} {w : List UInt8} (h : Upto ws i x os) (hi : i = 2 * os.length) (hw : ws[i]? = Option.some w) (ho : OfferIs w t m) : Upto ws (i + 1) x (os ++ [(t, m)]) := by
  refine ⟨?_, .inr (by simp; omega), fun hx => ?_, fun y hy => ⟨by have := (h.some y hy).1; omega, (h.some y hy).2⟩, fun y hy => ?_⟩
  · intro o hm
    rcases List.mem_append.1 hm with hm | hm
    · exact h.fine o hm
    · simp at hm; subst hm; exact ⟨ho.t1, ho.t8, ho.m30⟩
  · have := h.none hx
    rw [List.length_append, List.length_singleton]
    omega
  · have hwd : w = word (t, m) := ho.eq
    rw [List.take_add_one, hw, h.at_ y hy]
    rcases Nat.eq_zero_or_pos os.length with h0 | h0
    · have := List.eq_nil_of_length_eq_zero h0
      subst this
      have : i = 0 := by simpa using hi
      subst this
      simp [inter, hwd]
    · have hne : os ≠ [] := by rintro rfl; simp at h0
      have hl := inter_len y hne
      have e1 : (inter y os ++ [sepOf y]).take i = inter y os ++ [sepOf y] := List.take_of_length_le (by simp; omega)
      have e2 : (inter y (os ++ [(t, m)]) ++ [sepOf y]).take (i + 1) = inter y (os ++ [(t, m)]) := by
        rw [inter_snoc y _ hne, List.take_append_of_le_length (by simp; omega), List.take_of_length_le (by simp; omega)]
      rw [e1, e2, inter_snoc y _ hne, hwd]
      simp
theorem Upto.sep {ws : List (List UInt8)} {i : Nat} {x : Option Bool} {os : Offers} {y : Bool} (h : Upto ws i x os) (hi : i + 1 = 2 * os.length) (hx : x = Option.none ∨ x = Option.some y) (hw : ws[i]? = Option.some (sepOf y)) : Upto ws (i + 1) (Option.some y) os := by
  have hne : os ≠ [] := by rintro rfl; simp at hi
  have hl := inter_len y hne
  refine ⟨h.fine, .inl hi, (fun e => by cases e), fun z hz => ?_, fun z hz => ?_⟩
  · cases hz
    refine ⟨by have : 1 ≤ os.length := Nat.pos_of_ne_zero (by intro e; exact hne (List.eq_nil_of_length_eq_zero e)); omega, ?_⟩
    rcases hx with hx | hx
    · have := h.none hx
      have : i = 1 := by omega
      subst this; exact hw
    · exact (h.some y hx).2
  · rcases hz with hz | hz
    · cases hz
    · cases hz
      rw [List.take_add_one, hw, h.at_ y hx, List.take_append_of_le_length (by omega), List.take_of_length_le (by omega), List.take_of_length_le (by simp; omega)]
      simp
theorem no_even {ws : List (List UInt8)} {k : Nat} {w : List UInt8} (hw : ws[2 * k]? = some w) (hn : ∀ t m, ¬ OfferIs w t m) {y : Bool} {os : Offers} (hf : Fine os) : ws ≠ inter y os := by
  rintro rfl
  rw [inter_even] at hw
  cases ho : os[k]? with
  | none => rw [ho] at hw; cases hw
  | some o =>
    rw [ho] at hw
    have hm := hf.word (List.mem_of_getElem? ho)
    rw [show word o = w from Option.some.inj hw] at hm
    exact hn _ _ hm
theorem no_odd {ws : List (List UInt8)} {k : Nat} {w : List UInt8} (hw : ws[2 * k + 1]? = some w) (hn : w ≠ sepOf true ∧ w ≠ sepOf false) {y : Bool} {os : Offers} : ws ≠ inter y os := by
  rintro rfl
  have := (inter_odd k hw).1
  cases y
  · exact hn.2 this
  · exact hn.1 this
theorem Upto.no_mix {ws : List (List UInt8)} {i k : Nat} {z : Bool} {os : Offers} {w : List UInt8} (h : Upto ws i (Option.some z) os) (hw : ws[2 * k + 1]? = Option.some w) (hn : w ≠ sepOf z) {y : Bool} {os' : Offers} : ws ≠ inter y os' := by
  rintro rfl
  have h1 := (inter_odd k hw).1
  have h2 := (inter_odd 0 (h.some z rfl).2).1
  exact hn (h1.trans h2.symm)
theorem no_len {ws : List (List UInt8)} (h0 : ws.length % 2 = 0) {y : Bool} {os : Offers} (hne : os ≠ []) : ws ≠ inter y os := by
  rintro rfl
  rw [inter_len y hne] at h0
  have : os.length ≠ 0 := fun e => hne (List.eq_nil_of_length_eq_zero e)
  omega
theorem says_words {l : List UInt8} {y : Bool} {os : Offers} (h : Says l y os) : spl 32 l = inter y os := by rw [h.2.2.2]; exact spl_text y h.2.1 h.1
/-- All words. -/
theorem Upto.all {l : List UInt8} {x : Option Bool} {os : Offers} (h : Upto (spl 32 l) (spl 32 l).length x os) (hodd : (spl 32 l).length % 2 = 1) : Says l (x.getD true) os := by
  have hlen : (spl 32 l).length + 1 = 2 * os.length := by rcases h.len with e | e <;> omega
  have hne : os ≠ [] := by rintro rfl; simp at hlen
  have hx : x = Option.none ∨ x = Option.some (x.getD true) := by cases x <;> simp
  have ha := h.at_ _ hx
  have hl := inter_len (x.getD true) hne
  rw [List.take_of_length_le (Nat.le_refl _), List.take_append_of_le_length (by omega), List.take_of_length_le (by omega)] at ha
  refine ⟨h.fine, hne, fun hf => ?_, text_of hne h.fine ha⟩
  cases x with
  | none => cases hf
  | some z => have := (h.some z rfl).1; omega

end Go.Proofs.Ytpildecpabeanaa
