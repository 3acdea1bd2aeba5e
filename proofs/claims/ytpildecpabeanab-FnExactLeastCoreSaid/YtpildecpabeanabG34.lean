/-
  Chapter 4, the model: texts: the contract of sumFrom.
-/
import Derived.Test.YtpildecpabeanabG33
import Derived.Test.YtpildecpabeanabG10
namespace Go.Proofs.Ytpildecpabeanab
open Go.RowKit Go.Lib

def setsO (os : Offers) : List Int := os.map (fun o => ((o.1 : Nat) : Int))
def pricesO (os : Offers) : List Int := os.map (fun o => ((o.2 : Nat) : Int))
theorem sumF_bd : ∀ {os : Offers}, Fine os → ∀ x, sumF os x ≤ 30 * os.length
  | [], _, x => by simp [sumF]
  | o :: os, h, x => by
    have h1 := sumF_bd (os := os) (fun p hp => h p (by simp [hp])) x
    have h2 := sumF_bd (os := os) (fun p hp => h p (by simp [hp])) (x - o.1)
    have h3 := (h o (by simp)).2.2
    simp only [sumF, List.length_cons]
    split <;> omega
theorem calls_q4 {P : Program} {f : FuncId} {args : Array Value} {w : World} {m : Nat} {v : Value} (h : Calls P f args (w.drewN m) fun e w' => e = .returned v ∧ ∃ k, w' = (w.drewN m).drewN k) :
    Calls P f args (w.drewN m) fun e w'' => e = .returned v ∧ ∃ k, w'' = w.drewN k := h.mono fun _ _ ⟨he, k, hw⟩ => ⟨he, m + k, by rw [hw]; simp⟩

theorem Rd.cutAny {w : World} {b off c k c2 : Nat} {zs : List Int} (h : Rd w (some ⟨b, off, none⟩) c zs) (hl : zs.length ≤ c) : Rd w (if c = k then some ⟨b, off, none⟩ else some ⟨b, off + k, none⟩) c2 (zs.drop k) := by
  split
  · rw [List.drop_eq_nil_of_le (by omega)]
    exact .inl ⟨rfl, fun h => by cases h⟩
  · exact h.drop_ k

end Go.Proofs.Ytpildecpabeanab

/-
  Chapter 4, the model: texts: plain words for readOffer, an append of one number.
-/
namespace Go.Proofs.Ytpildecpabeanab
open Go.RowKit Go.Lib

theorem wpList_append_int {ops : Array Oper} {rest : List Oper} {o : Oper} {a : Act} {w : World} {Q : Exit → Act → World → Prop} (hgd : o.guard = none) (s x : Operand)
    (ho : o.op = .call { callee := .builtin .append, args := #[s, x], argTypes := #[22, 22] })
    (B : Nat) (ga n ca : Nat) (xs : List Int) (hxs : xs.length = n) (hs : a.eval s = .slice (some ⟨ga, 0, none⟩) n ca) (hown : Own w B (some ⟨ga, 0, none⟩) ca xs) (g : Nat) (y : Int) (hx : a.eval x = .slice (some ⟨g, 0, none⟩) 1 1)
    (hc : w.cell? ⟨g, 0, none⟩ = some (.int .i64 y)) (hn : n ≤ 1099511627776) (hB : B ≤ w.heap.size)
    (h : ∀ gb cb w', Own w' B (some ⟨gb, 0, none⟩) cb (xs ++ [y]) → w.grownBy w' (some ga) → (gb = ga ∨ gb = w.heap.size) → wpList Try.prog ops Q rest (a.put o.dst (.slice (some ⟨gb, 0, none⟩) (n + 1) cb)) w') :
    wpList Try.prog ops Q (o :: rest) a w := by
  subst hxs
  obtain ⟨i0, hi, hz0, hz1, hz2⟩ := info_parts int_info
  refine wpList_append_own_at _ hgd s x 22 ho B 3 i0 (.int .i64 0) 1 8 Try.underlying22 hi hz0 hz1 hz2 rfl (by decide) (.slice (some ⟨ga, 0, none⟩) xs.length ca) xs.length (xs.map (Value.int .i64)) hs hown ⟨g, 0, none⟩ 1 1 [.int .i64 y] hx rfl ?_ (by simp [Value.oneCell']) (by unfold maxLen; omega) (by omega) hB ?_
  · intro j u hu
    rcases j with _ | j
    · simp at hu; subst hu; exact hc
    · simp at hu
  · intro v' w' h1 h2 _ h4
    have h5 : w'.ownsRow B 3 1 v' (xs ++ [y]).length ((xs ++ [y]).map (Value.int .i64)) := by
      rw [List.length_append, List.map_append]; exact h1
    obtain ⟨_, hsh⟩ := own_shape h5
    rcases hsh with ⟨_, hnil⟩ | ⟨gb, cb, rfl⟩
    · simp at hnil
    · have e : Value.slice (some (⟨gb, 0, none⟩ : Addr)) (xs ++ [y]).length cb = .slice (some ⟨gb, 0, none⟩) (xs.length + 1) cb := by rw [List.length_append]; rfl
      have h6 : Own w' B (some ⟨gb, 0, none⟩) cb (xs ++ [y]) := h5
      rw [e]
      refine h gb cb w' h6 h2 ?_
      rcases h4 with h4 | h4
      · exact .inl (Option.some.inj h4)
      · exact .inr (Option.some.inj h4)

theorem grown_cell {w w' : World} {r : Nat} {p : Addr} (hg : w.grownBy w' (some r)) (h1 : p.block < w.heap.size) (h2 : p.block ≠ r) : w'.cell? p = w.cell? p := by
  unfold World.cell?
  rw [hg.block _ h1 (fun e => h2 (Option.some.inj e))]
theorem OwnW.cell {w : World} {B g c : Nat} {ws : List (List UInt8)} (h : OwnW w B (.slice (some ⟨g, 0, none⟩) ws.length c) ws) {i : Nat} {l : List UInt8} (hl : ws[i]? = some l) : w.cell? ⟨g, i, none⟩ = some (.string (sB l)) := by
  have hi := (List.getElem?_eq_some_iff.1 hl).1
  have := World.ownsRow.cellAt h i (by omega)
  rw [this, List.getElem?_map, hl]; rfl
theorem OwnW.lt {w : World} {B g n c : Nat} {ws : List (List UInt8)} (h : OwnW w B (.slice (some ⟨g, 0, none⟩) n c) ws) : B ≤ g ∧ g < w.heap.size := World.ownsRow.lt h g rfl

/-- The word between offers, if there was one. -/
def sepO : Option Bool → List UInt8
  | none => []
  | some y => sepOf y
theorem SetIs.one {l : List UInt8} {v v' : Nat} (h : SetIs l v) (h' : SetIs l v') : v = v' := by
  by_cases h0 : v = 0
  · by_cases h1 : v' = 0
    · rw [h0, h1]
    · exact h.2.2 v' (by omega) h'.1 (h'.2.1 h1)
  · exact (h'.2.2 v (by omega) h.1 (h.2.1 h0)).symm
theorem NumW.one {l : List UInt8} {v v' : Int} (h : NumW l v) (h' : NumW l v') (h0 : 0 ≤ v) (h1 : v ≤ 30) : v' = v := by
  have e : v = ((v.toNat : Nat) : Int) := by omega
  have := (h v.toNat (by omega)).1 e
  rw [e]
  exact (h' v.toNat (by omega)).2 this
theorem setN_neg {v : Nat} : setN v < 0 ↔ v = 0 := by unfold setN; split <;> omega
theorem setN_pos {v : Nat} (h : v ≠ 0) : setN v = v := by unfold setN; simp [h]

/-- What a text tells: its table, told as it lies, and whether it is one. -/
def RdIs (w : World) (l : List UInt8) (e : Ending) (w' : World) : Prop :=
  Below w.heap.size w w' ∧ ((∃ t g c, rdF l = some t ∧ e = .returned (.tuple #[.slice (some ⟨g, 0, none⟩) 8 c, .bool (vt t)]) ∧ Own w' w.heap.size (some ⟨g, 0, none⟩) c t) ∨ (rdF l = none ∧ e = .returned (.tuple #[.slice none 0 0, .bool false])))

theorem spl_two {w a b : List UInt8} (h : spl 58 w = [a, b]) : w = a ++ 58 :: b ∧ 58 ∉ a := by
  refine ⟨?_, spl_free (c := 58) a (by rw [h]; simp)⟩
  have := spl_join (c := 58) w
  rw [h] at this
  rw [← this]
  simp [join]
theorem spl_no {w : List UInt8} (h : (spl 58 w).length ≠ 2) (t m : Nat) : ¬ OfferIs w t m := fun ho => h (by rw [ho.spl]; rfl)
theorem rdF_bad {l : List UInt8} (hl : l ≠ []) (h : ∀ x os, Fine os → os ≠ [] → spl 32 l ≠ inter x os) : rdF l = none :=
  rdF_none hl (fun x os hs => absurd (says_words hs) (h x os hs.1 hs.2.1))

theorem spl_mem_len {c : UInt8} : ∀ {l w : List UInt8}, w ∈ spl c l → w.length ≤ l.length
  | [], w, h => by simp [spl] at h; simp [h]
  | b :: l, w, h => by
    rw [spl] at h
    split at h
    · rcases List.mem_cons.1 h with rfl | h
      · simp
      · have := spl_mem_len h; simp; omega
    · split at h
      · next he => exact absurd he (spl_ne c l)
      · next x t he =>
        rcases List.mem_cons.1 h with rfl | h
        · have := spl_mem_len (c := c) (l := l) (w := x) (by rw [he]; simp)
          simp; omega
        · have := spl_mem_len (c := c) (l := l) (w := w) (by rw [he]; simp [h])
          simp; omega
theorem spl_len {c : UInt8} : ∀ (l : List UInt8), (spl c l).length ≤ l.length + 1
  | [] => by simp [spl]
  | b :: l => by
    have ih := spl_len (c := c) l
    rw [spl]
    split
    · simp; omega
    · split
      · next he => simp
      · next x t he => rw [he] at ih; simp at ih ⊢; omega
theorem NumW_some (l : List UInt8) : ∃ v : Int, NumW l v := by
  by_cases h : ∃ m, m ≤ 30 ∧ l = decDigits m
  · obtain ⟨m, hm, e⟩ := h
    exact ⟨m, NumW.yes e (by rw [e]; exact dval_dec hm)⟩
  · exact ⟨-1, NumW.no (by omega) (fun m hm e => h ⟨m, hm, e⟩)⟩
theorem setIs_some (l : List UInt8) : ∃ v, SetIs l v := by
  by_cases h : ∃ t, t < 8 ∧ l = lw t
  · obtain ⟨t, ht, e⟩ := h
    exact ⟨t, SetIs.yes ht e⟩
  · exact ⟨0, SetIs.no (fun t ht e => h ⟨t, ht, e⟩)⟩
/-- The set of a word. -/
noncomputable def setF (l : List UInt8) : Nat := Classical.choose (setIs_some l)
theorem setF_is (l : List UInt8) : SetIs l (setF l) := Classical.choose_spec (setIs_some l)
/-- Where the loops over the table stand. -/
structure TabAt (w : World) (S ga ca gb cb : Nat) (os : Offers) (zs : List Int) (wr : World) : Prop where
  out : Own wr w.heap.size (some ⟨w.heap.size, 0, none⟩) 8 zs
  sets : Own wr S (some ⟨ga, 0, none⟩) ca (setsO os)
  prices : Own wr S (some ⟨gb, 0, none⟩) cb (pricesO os)
  below : Below w.heap.size w wr
theorem TabAt.drewN {w : World} {S ga ca gb cb : Nat} {os : Offers} {zs : List Int} {wr : World} (h : TabAt w S ga ca gb cb os zs wr) (n : Nat) : TabAt w S ga ca gb cb os zs (wr.drewN n) :=
  ⟨h.out.drewN n, h.sets.drewN n, h.prices.drewN n, below_drewN' h.below n⟩
theorem grow_setU (W : World) (g j : Nat) (v : Value) : W.grownBy (W.setCell ⟨g, j, none⟩ v) (some g) :=
  ⟨rfl, rfl, rfl, by show W.heap.size ≤ (W.heap.modify _ _).size; rw [Array.size_modify]; exact Nat.le_refl _, fun i _ hi => Below.heap_setCell W _ v i (fun e => hi (by rw [e]))⟩
theorem TabAt.set_ {w : World} {S ga ca gb cb : Nat} {os : Offers} {zs : List Int} {wr : World} (h : TabAt w S ga ca gb cb os zs wr) (hS : w.heap.size < S) (i : Nat) (v : Int) : TabAt w S ga ca gb cb os (zs.set i v) (wr.setCell ⟨w.heap.size, i, none⟩ (.int .i64 v)) := by
  have h1 := h.sets.ge
  have h2 := h.prices.ge
  exact ⟨h.out.set_ i v, World.ownsRow.kept h.sets (grow_setU wr w.heap.size i _) (.inr (by show some ga ≠ some w.heap.size; intro e; injection e; omega)), World.ownsRow.kept h.prices (grow_setU wr w.heap.size i _) (.inr (by show some gb ≠ some w.heap.size; intro e; injection e; omega)), h.below.setCell (Nat.le_refl _) _⟩
theorem filled_rest {zs : List Int} {k : Nat} (hk : k < zs.length) : (filled zs k)[k]? = some 0 := by
  unfold filled
  rw [List.getElem?_append_right (by simp; omega)]
  simp [List.getElem?_replicate]; omega
theorem filled_same {zs : List Int} {k : Nat} (hk : k < zs.length) : (filled zs k).set k 0 = filled zs k := by
  apply List.ext_getElem?
  intro i
  rw [List.getElem?_set]
  split
  · next e =>
    subst e
    rw [filled_rest hk]
    split
    · rfl
    · next h => exact absurd (by rw [filled_len _ _ (by omega)]; exact hk) h
  · rfl
theorem xval_take {os : Offers} {i : Nat} {o : Nat × Nat} (h : os[i]? = some o) (s : Nat) : xval (os.take (i + 1)) s = if s &&& o.1 = o.1 then max (xval (os.take i) s) (o.2 : Int) else xval (os.take i) s := by
  rw [List.take_add_one, h, Option.toList_some, xval_snoc]

end Go.Proofs.Ytpildecpabeanab

/-
  Chapter 6, the model: the contract of JoinTables.
-/
namespace Go.Proofs.Ytpildecpabeanab
open Go.RowKit

/-- The table of two as one. -/
def jnT (a b : List Int) : List Int := (List.range 8).map (fun s => sv [a, b] s)
theorem jnT_len (a b : List Int) : (jnT a b).length = 8 := by simp [jnT]
theorem jnT_at (a b : List Int) {s : Nat} (hs : s < 8) : (jnT a b)[s]? = some (sv [a, b] s) := by simp [jnT, hs]
theorem jnT_snoc (a b : List Int) {s : Nat} (hs : s < 8) : (jnT a b).take (s + 1) = (jnT a b).take s ++ [sv [a, b] s] := by rw [List.take_add_one, jnT_at a b hs]; rfl

theorem cell_new2 (w : World) (u v : Value) (T : TypeId) : (w.alloc (.cells #[u, v] T)).cell? ⟨w.heap.size, 0 + 0, none⟩ = some u ∧ (w.alloc (.cells #[u, v] T)).cell? ⟨w.heap.size, 0 + (0 + 1), none⟩ = some v := by
  have h := World.ownsRow_lit (e := T) (size := 1) (base := w.heap.size) w #[u, v] 2 (Nat.le_refl _) (by unfold maxLen; omega) rfl
  exact ⟨World.ownsRow.cellAt h 0 (by omega), World.ownsRow.cellAt h 1 (by omega)⟩
/-- What JoinTables hands back. -/
def JnIs (w : World) (a b : List Int) (e : Ending) (w' : World) : Prop :=
  Below w.heap.size w w' ∧ ((VT a ∧ VT b ∧ VT (jnT a b) ∧ ∃ g c, e = .returned (.slice (some ⟨g, 0, none⟩) 8 c) ∧ Own w' w.heap.size (some ⟨g, 0, none⟩) c (jnT a b)) ∨ (¬ (VT a ∧ VT b ∧ VT (jnT a b)) ∧ e = .returned (.slice none 0 0)))

end Go.Proofs.Ytpildecpabeanab
