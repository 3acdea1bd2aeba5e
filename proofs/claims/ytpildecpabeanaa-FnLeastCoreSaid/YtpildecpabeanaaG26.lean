/-
  Chapter 4, the model: texts: plain words for readOffer, an append of one number.
-/
import Derived.Test.YtpildecpabeanaaG25
import Derived.Test.YtpildecpabeanaaG08
import Derived.Test.YtpildecpabeanaaG23
import Derived.Test.YtpildecpabeanaaG04
namespace Go.Proofs.Ytpildecpabeanaa
open Go.RowKit Go.Lib

theorem wpList_append_int {ops : Array Oper} {rest : List Oper} {o : Oper} {a : Act} {w : World} {Q : Exit → Act → World → Prop} (hgd : o.guard = none) (s x : Operand)
    (ho : o.op = .call { callee := .builtin .append, args := #[s, x], argTypes := #[23, 23] })
    (B : Nat) (ga n ca : Nat) (xs : List Int) (hxs : xs.length = n) (hs : a.eval s = .slice (some ⟨ga, 0, none⟩) n ca) (hown : Own w B (some ⟨ga, 0, none⟩) ca xs) (g : Nat) (y : Int) (hx : a.eval x = .slice (some ⟨g, 0, none⟩) 1 1)
    (hc : w.cell? ⟨g, 0, none⟩ = some (.int .i64 y)) (hn : n ≤ 1099511627776) (hB : B ≤ w.heap.size)
    (h : ∀ gb cb w', Own w' B (some ⟨gb, 0, none⟩) cb (xs ++ [y]) → w.grownBy w' (some ga) → (gb = ga ∨ gb = w.heap.size) → wpList Try.prog ops Q rest (a.put o.dst (.slice (some ⟨gb, 0, none⟩) (n + 1) cb)) w') :
    wpList Try.prog ops Q (o :: rest) a w := by
  subst hxs
  obtain ⟨i0, hi, hz0, hz1, hz2⟩ := info_parts int_info
  refine wpList_append_own_at _ hgd s x 23 ho B 3 i0 (.int .i64 0) 1 8 Try.underlying23 hi hz0 hz1 hz2 rfl (by decide) (.slice (some ⟨ga, 0, none⟩) xs.length ca) xs.length (xs.map (Value.int .i64)) hs hown ⟨g, 0, none⟩ 1 1 [.int .i64 y] hx rfl ?_ (by simp [Value.oneCell']) (by unfold maxLen; omega) (by omega) hB ?_
  · intro j u hu
    rcases j with _ | j
    · simp at hu; subst hu; exact hc
    · simp at hu
  · intro v' w' h1 h2 _ h4
    have h5 : w'.ownsRow B 3 1 v' (xs ++ [y]).length ((xs ++ [y]).map (Value.int .i64)) := by
      rw [List.length_append, List.map_append]; exact h1
    obtain ⟨_, hsh⟩ := own_shape h5
    rcases hsh with ⟨_, hnil⟩ | ⟨gb, cb, rfl⟩
    · simp at hnil
    · have e : Value.slice (some (⟨gb, 0, none⟩ : Addr)) (xs ++ [y]).length cb = .slice (some ⟨gb, 0, none⟩) (xs.length + 1) cb := by rw [List.length_append]; rfl
      have h6 : Own w' B (some ⟨gb, 0, none⟩) cb (xs ++ [y]) := h5
      rw [e]
      refine h gb cb w' h6 h2 ?_
      rcases h4 with h4 | h4
      · exact .inl (Option.some.inj h4)
      · exact .inr (Option.some.inj h4)

theorem grown_cell {w w' : World} {r : Nat} {p : Addr} (hg : w.grownBy w' (some r)) (h1 : p.block < w.heap.size) (h2 : p.block ≠ r) : w'.cell? p = w.cell? p := by
  unfold World.cell?
  rw [hg.block _ h1 (fun e => h2 (Option.some.inj e))]
theorem OwnW.cell {w : World} {B g c : Nat} {ws : List (List UInt8)} (h : OwnW w B (.slice (some ⟨g, 0, none⟩) ws.length c) ws) {i : Nat} {l : List UInt8} (hl : ws[i]? = some l) : w.cell? ⟨g, i, none⟩ = some (.string (sB l)) := by
  have hi := (List.getElem?_eq_some_iff.1 hl).1
  have := World.ownsRow.cellAt h i (by omega)
  rw [this, List.getElem?_map, hl]; rfl
theorem OwnW.lt {w : World} {B g n c : Nat} {ws : List (List UInt8)} (h : OwnW w B (.slice (some ⟨g, 0, none⟩) n c) ws) : B ≤ g ∧ g < w.heap.size := World.ownsRow.lt h g rfl

/-- The word between offers, if there was one. -/
def sepO : Option Bool → List UInt8
  | none => []
  | some y => sepOf y
theorem SetIs.one {l : List UInt8} {v v' : Nat} (h : SetIs l v) (h' : SetIs l v') : v = v' := by
  by_cases h0 : v = 0
  · by_cases h1 : v' = 0
    · rw [h0, h1]
    · exact h.2.2 v' (by omega) h'.1 (h'.2.1 h1)
  · exact (h'.2.2 v (by omega) h.1 (h.2.1 h0)).symm
theorem NumW.one {l : List UInt8} {v v' : Int} (h : NumW l v) (h' : NumW l v') (h0 : 0 ≤ v) (h1 : v ≤ 30) : v' = v := by
  have e : v = ((v.toNat : Nat) : Int) := by omega
  have := (h v.toNat (by omega)).1 e
  rw [e]
  exact (h' v.toNat (by omega)).2 this
theorem setN_neg {v : Nat} : setN v < 0 ↔ v = 0 := by unfold setN; split <;> omega
theorem setN_pos {v : Nat} (h : v ≠ 0) : setN v = v := by unfold setN; simp [h]

/-- What a text tells: its table, told as it lies, and whether it is one. -/
def RdIs (w : World) (l : List UInt8) (e : Ending) (w' : World) : Prop :=
  Below w.heap.size w w' ∧ ((∃ t g c, rdF l = some t ∧ e = .returned (.tuple #[.slice (some ⟨g, 0, none⟩) 8 c, .bool (vt t)]) ∧ Own w' w.heap.size (some ⟨g, 0, none⟩) c t) ∨ (rdF l = none ∧ e = .returned (.tuple #[.slice none 0 0, .bool false])))

theorem spl_two {w a b : List UInt8} (h : spl 58 w = [a, b]) : w = a ++ 58 :: b ∧ 58 ∉ a := by
  refine ⟨?_, spl_free (c := 58) a (by rw [h]; simp)⟩
  have := spl_join (c := 58) w
  rw [h] at this
  rw [← this]
  simp [join]
theorem spl_no {w : List UInt8} (h : (spl 58 w).length ≠ 2) (t m : Nat) : ¬ OfferIs w t m := fun ho => h (by rw [ho.spl]; rfl)
theorem rdF_bad {l : List UInt8} (hl : l ≠ []) (h : ∀ x os, Fine os → os ≠ [] → spl 32 l ≠ inter x os) : rdF l = none :=
  rdF_none hl (fun x os hs => absurd (says_words hs) (h x os hs.1 hs.2.1))

theorem spl_mem_len {c : UInt8} : ∀ {l w : List UInt8}, w ∈ spl c l → w.length ≤ l.length
  | [], w, h => by simp [spl] at h; simp [h]
  | b :: l, w, h => by
    rw [spl] at h
    split at h
    · rcases List.mem_cons.1 h with rfl | h
      · simp
      · have := spl_mem_len h; simp; omega
    · split at h
      · next he => exact absurd he (spl_ne c l)
      · next x t he =>
        rcases List.mem_cons.1 h with rfl | h
        · have := spl_mem_len (c := c) (l := l) (w := x) (by rw [he]; simp)
          simp; omega
        · have := spl_mem_len (c := c) (l := l) (w := w) (by rw [he]; simp [h])
          simp; omega
theorem spl_len {c : UInt8} : ∀ (l : List UInt8), (spl c l).length ≤ l.length + 1
  | [] => by simp [spl]
  | b :: l => by
    have ih := spl_len (c := c) l
    rw [spl]
    split
    · simp; omega
    · split
      · next he => simp
      · next x t he => rw [he] at ih; simp at ih ⊢; omega
theorem NumW_some (l : List UInt8) : ∃ v : Int, NumW l v := by
  by_cases h : ∃ m, m ≤ 30 ∧ l = decDigits m
  · obtain ⟨m, hm, e⟩ := h
    exact ⟨m, NumW.yes e (by rw [e]; exact dval_dec hm)⟩
  · exact ⟨-1, NumW.no (by omega) (fun m hm e => h ⟨m, hm, e⟩)⟩
theorem setIs_some (l : List UInt8) : ∃ v, SetIs l v := by
  by_cases h : ∃ t, t < 8 ∧ l = lw t
  · obtain ⟨t, ht, e⟩ := h
    exact ⟨t, SetIs.yes ht e⟩
  · exact ⟨0, SetIs.no (fun t ht e => h ⟨t, ht, e⟩)⟩
/-- The set of a word. -/
noncomputable def setF (l : List UInt8) : Nat := Classical.choose (setIs_some l)
theorem setF_is (l : List UInt8) : SetIs l (setF l) := Classical.choose_spec (setIs_some l)
theorem SreadSet_n (l : List UInt8) (w : World) (hs : l.length ≤ 1099511627776) :
    Calls Try.prog 179 #[.string (sB l)] w fun e w' => e = .returned (.int .i64 (setN (setF l))) ∧ ∃ m, w' = w.drewN m := by
  refine (SreadSet_any (sB l) w (by rw [sB_size]; exact hs)).mono ?_
  rintro e w' ⟨v, hv, rfl, hw⟩
  have hv : SetIs l v := by simpa [sB] using hv
  rw [hv.one (setF_is l)]
  exact ⟨rfl, hw⟩
theorem SreadNumber_n (l : List UInt8) (w : World) (hs : l.length ≤ 1099511627776) :
    Calls Try.prog 180 #[.string (sB l)] w fun e w' => ∃ v : Int, NumW l v ∧ -1 ≤ v ∧ v ≤ 10009 ∧ e = .returned (.int .i64 v) ∧ ∃ m, w' = w.drewN m := by
  refine (SreadNumber_any (sB l) w (by rw [sB_size]; exact hs)).mono ?_
  rintro e w' ⟨v, hv, h⟩
  exact ⟨v, by simpa [sB] using hv, h⟩

/-- Where the loops over the table stand. -/
structure TabAt (w : World) (S ga ca gb cb : Nat) (os : Offers) (zs : List Int) (wr : World) : Prop where
  out : Own wr w.heap.size (some ⟨w.heap.size, 0, none⟩) 8 zs
  sets : Own wr S (some ⟨ga, 0, none⟩) ca (setsO os)
  prices : Own wr S (some ⟨gb, 0, none⟩) cb (pricesO os)
  below : Below w.heap.size w wr
theorem TabAt.drewN {w : World} {S ga ca gb cb : Nat} {os : Offers} {zs : List Int} {wr : World} (h : TabAt w S ga ca gb cb os zs wr) (n : Nat) : TabAt w S ga ca gb cb os zs (wr.drewN n) :=
  ⟨h.out.drewN n, h.sets.drewN n, h.prices.drewN n, below_drewN' h.below n⟩
theorem grow_setU (W : World) (g j : Nat) (v : Value) : W.grownBy (W.setCell ⟨g, j, none⟩ v) (some g) :=
  ⟨rfl, rfl, rfl, by show W.heap.size ≤ (W.heap.modify _ _).size; rw [Array.size_modify]; exact Nat.le_refl _, fun i _ hi => Below.heap_setCell W _ v i (fun e => hi (by rw [e]))⟩
theorem TabAt.set_ {w : World} {S ga ca gb cb : Nat} {os : Offers} {zs : List Int} {wr : World} (h : TabAt w S ga ca gb cb os zs wr) (hS : w.heap.size < S) (i : Nat) (v : Int) : TabAt w S ga ca gb cb os (zs.set i v) (wr.setCell ⟨w.heap.size, i, none⟩ (.int .i64 v)) := by
  have h1 := h.sets.ge
  have h2 := h.prices.ge
  exact ⟨h.out.set_ i v, World.ownsRow.kept h.sets (grow_setU wr w.heap.size i _) (.inr (by show some ga ≠ some w.heap.size; intro e; injection e; omega)), World.ownsRow.kept h.prices (grow_setU wr w.heap.size i _) (.inr (by show some gb ≠ some w.heap.size; intro e; injection e; omega)), h.below.setCell (Nat.le_refl _) _⟩
theorem filled_rest {zs : List Int} {k : Nat} (hk : k < zs.length) : (filled zs k)[k]? = some 0 := by
  unfold filled
  rw [List.getElem?_append_right (by simp; omega)]
  simp [List.getElem?_replicate]; omega
theorem filled_same {zs : List Int} {k : Nat} (hk : k < zs.length) : (filled zs k).set k 0 = filled zs k := by
  apply List.ext_getElem?
  intro i
  rw [List.getElem?_set]
  split
  · next e =>
    subst e
    rw [filled_rest hk]
    split
    · rfl
    · next h => exact absurd (by rw [filled_len _ _ (by omega)]; exact hk) h
  · rfl
theorem xval_take {os : Offers} {i : Nat} {o : Nat × Nat} (h : os[i]? = some o) (s : Nat) : xval (os.take (i + 1)) s = if s &&& o.1 = o.1 then max (xval (os.take i) s) (o.2 : Int) else xval (os.take i) s := by
  rw [List.take_add_one, h, Option.toList_some, xval_snoc]

end Go.Proofs.Ytpildecpabeanaa

/-
  Chapter 6, the model: the contract of JoinTables.
-/
namespace Go.Proofs.Ytpildecpabeanaa
open Go.RowKit

/-- The table of two as one. -/
def jnT (a b : List Int) : List Int := (List.range 8).map (fun s => sv [a, b] s)
theorem jnT_len (a b : List Int) : (jnT a b).length = 8 := by simp [jnT]
theorem jnT_at (a b : List Int) {s : Nat} (hs : s < 8) : (jnT a b)[s]? = some (sv [a, b] s) := by simp [jnT, hs]
theorem jnT_snoc (a b : List Int) {s : Nat} (hs : s < 8) : (jnT a b).take (s + 1) = (jnT a b).take s ++ [sv [a, b] s] := by rw [List.take_add_one, jnT_at a b hs]; rfl

theorem cell_new2 (w : World) (u v : Value) (T : TypeId) : (w.alloc (.cells #[u, v] T)).cell? ⟨w.heap.size, 0 + 0, none⟩ = some u ∧ (w.alloc (.cells #[u, v] T)).cell? ⟨w.heap.size, 0 + (0 + 1), none⟩ = some v := by
  have h := World.ownsRow_lit (e := T) (size := 1) (base := w.heap.size) w #[u, v] 2 (Nat.le_refl _) (by unfold maxLen; omega) rfl
  exact ⟨World.ownsRow.cellAt h 0 (by omega), World.ownsRow.cellAt h 1 (by omega)⟩
/-- What JoinTables hands back. -/
def JnIs (w : World) (a b : List Int) (e : Ending) (w' : World) : Prop :=
  Below w.heap.size w w' ∧ ((VT a ∧ VT b ∧ VT (jnT a b) ∧ ∃ g c, e = .returned (.slice (some ⟨g, 0, none⟩) 8 c) ∧ Own w' w.heap.size (some ⟨g, 0, none⟩) c (jnT a b)) ∨ (¬ (VT a ∧ VT b ∧ VT (jnT a b)) ∧ e = .returned (.slice none 0 0)))

set_option maxHeartbeats 2000000 in
set_option maxRecDepth 100000 in
theorem SJoinTables_any (A B : Option Addr) (ca cb : Nat) (a b : List Int) (w : World) (hA : Rd w A ca a) (hB : Rd w B cb b) (hla : a.length ≤ ca) (hlb : b.length ≤ cb) (ha : a.length ≤ 1099511627776) (hb : b.length ≤ 1099511627776) :
    Calls Try.prog 123 #[.slice A a.length ca, .slice B b.length cb] w (JnIs w a b) := by
  have HVA := Lib.hid (fun w1 (h : Rd w1 A ca a) => SvalidTable_any A ca a w1 h ha)
  have HVB := Lib.hid (fun w1 (h : Rd w1 B cb b) => SvalidTable_any B cb b w1 h hb)
  rcases hva : vt a with _ | _
  · have hna : ¬ VT a := fun h => by rw [vt_true h] at hva; cases hva
    rw [hva] at HVA
    clear hva
    go_enter Try.func123, Try.ntmps123
    go_wp2_with fail
    refine (HVA.out w hA).mono ?_
    rintro e w1 ⟨rfl, n, rfl⟩
    go_wp2
    go_ret
    exact ⟨below_drewN' (Below.refl _ _) n, .inr ⟨fun h => hna h.1, rfl⟩⟩
  rcases hvb : vt b with _ | _
  · have hnb : ¬ VT b := fun h => by rw [vt_true h] at hvb; cases hvb
    rw [hva] at HVA
    rw [hvb] at HVB
    clear hva hvb
    go_enter Try.func123, Try.ntmps123
    go_wp2_with fail
    refine (HVA.out w hA).mono ?_
    rintro e w1 ⟨rfl, n, rfl⟩
    go_wp2_with fail
    refine (HVB.out _ (hB.drewN n)).mono ?_
    rintro e w2 ⟨rfl, m, rfl⟩
    go_wp2
    go_ret
    exact ⟨below_drewN' (Below.refl _ _) (n + m), .inr ⟨fun h => hnb h.2.1, rfl⟩⟩
  have hVA : VT a := vt_iff.1 hva
  have hVB : VT b := vt_iff.1 hvb
  rw [hva] at HVA
  rw [hvb] at HVB
  have h8a := hVA.1
  have h8b := hVB.1
  rw [h8a] at HVA hla ⊢
  rw [h8b] at HVB hlb ⊢
  have HV : Hid (∀ t ∈ [a, b], VT t) := Lib.hid (by intro t ht; simp at ht; rcases ht with rfl | rfl <;> assumption)
  clear hva hvb
  go_enter Try.func123, Try.ntmps123
  go_wp2_with fail
  refine (HVA.out w hA).mono ?_
  rintro e w1 ⟨rfl, n, rfl⟩
  go_wp2_with fail
  refine (HVB.out _ (hB.drewN n)).mono ?_
  rintro e w2 ⟨rfl, m, rfl⟩
  go_wp2
  have HO : Hid (Own ((w.drewN (n + m)).alloc (.cells #[] 3)) w.heap.size (some ⟨w.heap.size, 0, none⟩) 0 ((jnT a b).take 0)) := Lib.hid (own_empty (w.drewN (n + m)))
  have hb0 : Below w.heap.size w ((w.drewN (n + m)).alloc (.cells #[] 3)) := (below_drewN' (Below.refl _ w) (n + m)).alloc (by simp) _
  go_loopw [5, 6] (fun o iv wr => ∃ (s g c : Nat), o = .slice (some ⟨g, 0, none⟩) s c ∧ iv = .int .i64 (s : Int) ∧ s ≤ 8 ∧ Hid (Own wr w.heap.size (some ⟨g, 0, none⟩) c ((jnT a b).take s)) ∧ Below w.heap.size w wr) (fun _ i _ => 8 - (intOf i).toNat)
  case atStart => exact ⟨0, w.heap.size, 0, rfl, rfl, by omega, HO, hb0⟩
  case round =>
    obtain ⟨s, g, c, rfl, rfl, hs, HO, hbl⟩ := hrel
    by_cases hlt : s < 8
    · have hs8 : (s : Int) < 8 := by omega
      have HRR : Hid (RdR (wr.alloc (.cells #[.slice A 8 ca, .slice B 8 cb] 23)) (some ⟨wr.heap.size, 0, none⟩) 2 [a, b]) := Lib.hid (by
        have hbA := (Below.refl _ wr).alloc (Nat.le_refl _) (.cells #[.slice A 8 ca, .slice B 8 cb] 23)
        refine ⟨by simp, .inr ⟨wr.heap.size, 0, rfl, fun k r hk => ?_⟩⟩
        rcases k with _ | _ | k
        · obtain rfl : a = r := by simpa using hk
          exact ⟨.slice A 8 ca, cell_new2 wr _ _ 23 |>.1, A, ca, by rw [h8a], by omega, (hA.below hbl).below hbA⟩
        · obtain rfl : b = r := by simpa using hk
          exact ⟨.slice B 8 cb, cell_new2 wr _ _ 23 |>.2, B, cb, by rw [h8b], by omega, (hB.below hbl).below hbA⟩
        · simp at hk)
      have HSV := Lib.hid (SsplitValue_any [a, b] (some ⟨wr.heap.size, 0, none⟩) 2 s _ HRR.out HV.out (by simp) hlt)
      have HSN := Lib.hid (jnT_snoc a b hlt)
      have HLN : Hid (((jnT a b).take s).length = s) := Lib.hid (by rw [List.length_take, jnT_len]; omega)
      have hs1 : s + 1 ≤ 8 := hlt
      have HOA : Hid (∀ j, Own (((wr.alloc (.cells #[.slice A 8 ca, .slice B 8 cb] 23)).drewN j).alloc (.cells #[.int .i64 (sv [a, b] s)] 3)) w.heap.size (some ⟨g, 0, none⟩) c ((jnT a b).take s)) := Lib.hid (fun j => World.ownsRow.alloc ((show Own (wr.alloc _) _ _ _ _ from World.ownsRow.alloc HO.out _).drewN j) _)
      have hbA : ∀ j, Below w.heap.size w (((wr.alloc (.cells #[.slice A 8 ca, .slice B 8 cb] 23)).drewN j).alloc (.cells #[.int .i64 (sv [a, b] s)] 3)) := fun j => (below_drewN' (hbl.alloc hbl.size _) j).alloc (by have := hbl.size; simp; omega) _
      have HBA := Lib.hid hbA
      have hz := hbl.size
      clear hlt HRR HO hbA
      go_wp2_with fail
      refine HSV.out.mono ?_
      rintro e w3 ⟨rfl, j, rfl⟩
      have hcn : (((wr.alloc (.cells #[.slice A 8 ca, .slice B 8 cb] 23)).drewN j).alloc (.cells #[.int .i64 (sv [a, b] s)] 3)).cell? ⟨wr.heap.size + 1, 0, none⟩ = some (.int .i64 (sv [a, b] s)) := by
        have := (own_lit ((wr.alloc (.cells #[.slice A 8 ca, .slice B 8 cb] 23)).drewN j) [sv [a, b] s] (by simp)).cell (i := 0) rfl
        simpa [World.size_alloc] using this
      have hsz : w.heap.size ≤ (((wr.alloc (.cells #[.slice A 8 ca, .slice B 8 cb] 23)).drewN j).alloc (.cells #[.int .i64 (sv [a, b] s)] 3)).heap.size := (HBA.out j).size
      have hgg := (HOA.out j).ge
      go_wp2_with (at_builtin; refine wpList_append_int rfl _ _ rfl w.heap.size g s c ((jnT a b).take s) HLN.out rfl (HOA.out j) (wr.heap.size + 1) _ rfl hcn (by omega) hsz ?_; intro g2 c2 w4 o4 g4 h4; have hb4 := (HBA.out j).grown g4 hsz (fun k e => by injection e with e; omega))
      go_roundw
      case rel => exact ⟨s + 1, g2, c2, rfl, by go_num, hs1, Lib.hid (by rw [HSN.out]; exact o4), hb4⟩
      case measure => simp only [intOf]; omega
    · obtain rfl : s = 8 := by omega
      have HOT : Hid (Own wr w.heap.size (some ⟨g, 0, none⟩) c (jnT a b)) := Lib.hid (by have := HO.out; rw [← jnT_len a b, List.take_length] at this; exact this)
      have HVT := Lib.hid (SvalidTable_any (some ⟨g, 0, none⟩) c (jnT a b) wr HOT.out.rd (by rw [jnT_len]; omega))
      rw [jnT_len] at HVT
      clear hlt HO
      rcases hvt : vt (jnT a b) with _ | _
      · have hn : ¬ VT (jnT a b) := fun h => by rw [vt_true h] at hvt; cases hvt
        rw [hvt] at HVT
        clear hvt
        go_wp2_with fail
        refine HVT.out.mono ?_
        rintro e w3 ⟨rfl, j, rfl⟩
        go_wp2
        go_ret
        exact ⟨below_drewN' hbl j, .inr ⟨fun h => hn h.2.2, rfl⟩⟩
      · have hy : VT (jnT a b) := vt_iff.1 hvt
        rw [hvt] at HVT
        clear hvt
        go_wp2_with fail
        refine HVT.out.mono ?_
        rintro e w3 ⟨rfl, j, rfl⟩
        go_wp2
        go_ret
        exact ⟨below_drewN' hbl j, .inl ⟨hVA, hVB, hy, g, c, rfl, HOT.out.drewN j⟩⟩

end Go.Proofs.Ytpildecpabeanaa

/-
  Chapter 6: the program's JoinTables.
-/
namespace Go.Proofs.Ytpildecpabeanaa
open Go.RowKit

/-- What is handed back for the joined table l. -/
def JtIs (w : World) (l : List Int) (e : Ending) (w' : World) : Prop := Below w.heap.size w w' ∧ ((vt l = true ∧ ∃ M, e = .returned (.slice (some ⟨M, 0, none⟩) 8 8) ∧ w.heap.size ≤ M ∧ Arr w' M l) ∨ (vt l = false ∧ e = .returned (.slice none 0 0)))
end Go.Proofs.Ytpildecpabeanaa

/-
  Chapter 6: JoinTables: both sides at whatever arguments; a table of one's own that is marked.
-/
namespace Go.Proofs.Ytpildecpabeanaa
open Go.RowKit

theorem grown_set (w : World) (M j : Nat) (v : Value) : w.grownBy (w.setCell ⟨M, j, none⟩ v) (some M) :=
  ⟨rfl, rfl, rfl, by simp [World.setCell], fun i _ hne => Below.heap_setCell w ⟨M, j, none⟩ v i (fun e => hne (by show some i = some M; rw [e]))⟩

/-- A slice of the call's own, or a table of its own that is sliced. -/
def Own2 (w : World) (B : Nat) (A : Option Addr) (c : Nat) (zs : List Int) : Prop := Own w B A c zs ∨ ∃ M, A = some ⟨M, 0, none⟩ ∧ c = 8 ∧ B ≤ M ∧ Arr w M zs
theorem Own2.rd {w : World} {B : Nat} {A : Option Addr} {c : Nat} {zs : List Int} (h : Own2 w B A c zs) : Rd w A c zs := by
  rcases h with h | ⟨M, rfl, rfl, _, h⟩
  · exact h.rd
  · exact h.rd 8
theorem Own2.below {w w' : World} {B : Nat} {A : Option Addr} {c : Nat} {zs : List Int} (h : Own2 w B A c zs) (hb : Below w.heap.size w w') : Own2 w' B A c zs := by
  rcases h with h | ⟨M, rfl, rfl, hB, h⟩
  · exact .inl (h.below hb)
  · exact .inr ⟨M, rfl, rfl, hB, h.keep (hb.block _ h.lt)⟩
theorem Own2.drewN {w : World} {B : Nat} {A : Option Addr} {c : Nat} {zs : List Int} (h : Own2 w B A c zs) (n : Nat) : Own2 (w.drewN n) B A c zs := h
theorem Own2.base {w : World} {B B' : Nat} {A : Option Addr} {c : Nat} {zs : List Int} (h : Own2 w B A c zs) (hB : B' ≤ B) : Own2 w B' A c zs := by
  rcases h with h | ⟨M, rfl, rfl, hM, h⟩
  · exact .inl (h.base hB)
  · exact .inr ⟨M, rfl, rfl, Nat.le_trans hB hM, h⟩
theorem Own2.blk {w : World} {B k : Nat} {A : Option Addr} {c : Nat} {xs : List Int} (h : Own2 w B A c xs) (hk : ofA A = some k) : B ≤ k ∧ k < w.heap.size := by
  rcases h with h | ⟨M, rfl, rfl, hM, h⟩
  · exact own_blk h hk
  · obtain rfl : M = k := by simpa [ofA] using hk
    exact ⟨hM, h.lt⟩
theorem Own2.apart {wa wb : World} {B1 B2 : Nat} {A1 A2 : Option Addr} {c1 c2 : Nat} {xs ys : List Int} (h1 : Own2 wa B1 A1 c1 xs) (h2 : Own2 wb B2 A2 c2 ys) (hlt : wa.heap.size ≤ B2) : (ofA A1 = none ∨ ofA A1 ≠ ofA A2) ∧ (ofA A2 = none ∨ ofA A2 ≠ ofA A1) := by
  have e : ∀ k, ofA A1 = some k → ofA A2 = some k → False := fun _ hk1 hk2 => by
    have l1 := (h1.blk hk1).2
    have l2 := (h2.blk hk2).1
    omega
  constructor
  · rcases hA : ofA A1 with _ | k
    · exact .inl rfl
    · exact .inr (fun hh => e k hA hh.symm)
  · rcases hA : ofA A2 with _ | k
    · exact .inl rfl
    · exact .inr (fun hh => e k hh.symm hA)
theorem Own2.kept_ {w w' : World} {B : Nat} {A A2 : Option Addr} {c : Nat} {xs : List Int} (h : Own2 w B A c xs) (hg : w.grownBy w' (ofA A2)) (hne : ofA A = none ∨ ofA A ≠ ofA A2) : Own2 w' B A c xs := by
  rcases h with h | ⟨M, rfl, rfl, hM, h⟩
  · exact .inl (Own.kept_ h hg hne)
  · exact .inr ⟨M, rfl, rfl, hM, h.keep (hg.block _ h.lt (fun e => by
      rcases hne with h1 | h1
      · cases h1
      · exact h1 e))⟩
theorem Own2.grownBelow0 {w w' wa : World} {B : Nat} {A0 : Option Addr} {c0 : Nat} {xs : List Int} (hb : Below B wa w) (ho : Own2 w B A0 c0 xs) (hs : B ≤ w.heap.size) (hg : w.grownBy w' (ofA A0)) : Below B wa w' :=
  hb.grown hg hs (fun _ hk => (ho.blk hk).1)
def Own2Is (w : World) (zs : List Int) (e : Ending) (w' : World) : Prop := ∃ A c, e = .returned (.slice A zs.length c) ∧ Own2 w' w.heap.size A c zs ∧ Below w.heap.size w w'

theorem sv_one {t : List Int} (h : VT t) {x : Nat} (hx : x < 8) : sv [t] x = T t x := by
  have a := h.all
  obtain ⟨e0, e1, e2, e3, e4, e5, e6, e7⟩ := subs_vals
  apply Int.le_antisymm
  · refine mx_le (h.bd hx).1 (fun s hs => ?_)
    simp only [sv]
    rcases nat8 hx with rfl | rfl | rfl | rfl | rfl | rfl | rfl | rfl
    · rw [e0] at hs; simp at hs; subst hs; omega
    · rw [e1] at hs; simp at hs; rcases hs with rfl | rfl <;> omega
    · rw [e2] at hs; simp at hs; rcases hs with rfl | rfl <;> omega
    · rw [e3] at hs; simp at hs; rcases hs with rfl | rfl | rfl | rfl <;> omega
    · rw [e4] at hs; simp at hs; rcases hs with rfl | rfl <;> omega
    · rw [e5] at hs; simp at hs; rcases hs with rfl | rfl | rfl | rfl <;> omega
    · rw [e6] at hs; simp at hs; rcases hs with rfl | rfl | rfl | rfl <;> omega
    · rw [e7] at hs; simp at hs; rcases hs with rfl | rfl | rfl | rfl | rfl | rfl | rfl | rfl <;> omega
  · have h1 := le_mx (f := fun s => T t s + sv [] (x - s)) (sub_self hx)
    simp only [sv] at h1 ⊢
    omega
theorem jnT_tg {a b : List Int} (_ha : VT a) (hb : VT b) : jnT a b = tg (T a) (T b) := ext8 (jnT_len a b) (tg_len _ _) (fun x hx => by
  rw [T_of (jnT_at a b hx), tg_at _ _ hx]
  exact mx_congr (fun s hs => by rw [sv_one hb (by omega)]))
/-- What JoinTables hands back. -/
noncomputable def joF (a b : List Int) : List Int := @ite _ (VT a ∧ VT b ∧ VT (jnT a b)) (Classical.propDecidable _) (jnT a b) []
theorem joF_yes {a b : List Int} (h : VT a ∧ VT b ∧ VT (jnT a b)) : joF a b = jnT a b := by unfold joF; rw [if_pos h]
theorem joF_no {a b : List Int} (h : ¬ (VT a ∧ VT b ∧ VT (jnT a b))) : joF a b = [] := by unfold joF; rw [if_neg h]
theorem joF_len (a b : List Int) : (joF a b).length ≤ 8 := by
  by_cases h : VT a ∧ VT b ∧ VT (jnT a b)
  · rw [joF_yes h, jnT_len]; omega
  · rw [joF_no h]; simp

theorem SJoinTables_own (A B : Option Addr) (c d : Nat) (a b : List Int) (w : World) (h : Rd w A c a) (g : Rd w B d b) (hc : a.length ≤ c) (hd : b.length ≤ d) (ha : a.length ≤ 1099511627776) (hb : b.length ≤ 1099511627776) :
    Calls Try.prog 123 #[.slice A a.length c, .slice B b.length d] w (OwnIs w (joF a b)) :=
  (SJoinTables_any A B c d a b w h g hc hd ha hb).mono fun e w' ⟨hbl, hr⟩ => by
    rcases hr with ⟨h1, h2, h3, g, c, he, ho⟩ | ⟨hn, he⟩
    · rw [joF_yes ⟨h1, h2, h3⟩]
      exact ⟨_, c, by rw [jnT_len]; exact he, ho, hbl⟩
    · rw [joF_no hn]
      exact ⟨none, 0, he, own_none _ _, hbl⟩

end Go.Proofs.Ytpildecpabeanaa
