/-
  The laws of chapter 4: what they reckon with, and the law of IsModest.
-/
import Derived.Test.YtpildecpabeanaaG32
import Derived.Test.YtpildecpabeanaaG05
import Derived.Test.YtpildecpabeanaaG14
import Derived.Test.YtpildecpabeanaaG33
import Derived.Test.YtpildecpabeanaaG09
import Derived.Test.YtpildecpabeanaaG02
import Derived.Test.YtpildecpabeanaaG10
import Derived.Test.YtpildecpabeanaaG07
import Derived.Deep.RegionHeld3
import Derived.Deep.AppendLies
namespace Go.Proofs.Ytpildecpabeanaa
open Go.RowKit Go.Lib

/-- What is drawn: a list of numbers. -/
def DrawnT (w : World) (e : Ending) (w' : World) : Prop :=
  ∃ (g c : Nat) (t : List Int), e = .returned (.slice (some ⟨g, 0, none⟩) t.length c) ∧ Rd w' (some ⟨g, 0, none⟩) c t ∧ t.length ≤ 8 ∧ t.length ≤ c ∧ Below w.heap.size w w'
/-- Modest tables are no more than their parts. -/
theorem mod_parts {t : List Int} (h : VT t) (hm : Mod t) {s : Nat} (hs : s < 8) : T t s ≤ ((s / 2 ^ 0 % 2 : Nat) : Int) * T t 1 + ((s / 2 ^ 1 % 2 : Nat) : Int) * T t 2 + ((s / 2 ^ 2 % 2 : Nat) : Int) * T t 4 := by
  have h0 := h.2.1
  have m12 := hm 1 (by omega) 2 (by omega)
  have m14 := hm 1 (by omega) 4 (by omega)
  have m24 := hm 2 (by omega) 4 (by omega)
  have m34 := hm 3 (by omega) 4 (by omega)
  simp only [show (1 ||| 2 : Nat) = 3 by decide, show (1 &&& 2 : Nat) = 0 by decide, show (1 ||| 4 : Nat) = 5 by decide, show (1 &&& 4 : Nat) = 0 by decide, show (2 ||| 4 : Nat) = 6 by decide, show (2 &&& 4 : Nat) = 0 by decide, show (3 ||| 4 : Nat) = 7 by decide, show (3 &&& 4 : Nat) = 0 by decide] at m12 m14 m24 m34
  rcases nat8 hs with rfl | rfl | rfl | rfl | rfl | rfl | rfl | rfl <;> simp <;> omega

/-- What the first j things alone are worth together, of those in the set. -/
def prt (t : List Int) (s : Nat) : Nat → Int
  | 0 => 0
  | j + 1 => prt t s j + ((s / 2 ^ j % 2 : Nat) : Int) * T t (2 ^ j)

theorem prt_bd {t : List Int} (h : ∀ s, s < 8 → 0 ≤ T t s ∧ T t s ≤ 30) {s : Nat} (_hs : s < 8) : ∀ j, j ≤ 3 → 0 ≤ prt t s j ∧ prt t s j ≤ 30 * j := by
  intro j
  induction j with
  | zero => intro _; simp [prt]
  | succ j ih =>
    intro hj
    have h1 := ih (by omega)
    have h2 := h (2 ^ j) (by rcases nat3 (show j < 3 by omega) with rfl | rfl | rfl <;> decide)
    simp only [prt]
    generalize T t (2 ^ j) = v at h2 ⊢
    rcases (show s / 2 ^ j % 2 = 0 ∨ s / 2 ^ j % 2 = 1 by omega) with e | e <;> rw [e]
    · simp only [Int.natCast_zero, Int.zero_mul]; omega
    · simp only [Int.natCast_one, Int.one_mul]; omega

end Go.Proofs.Ytpildecpabeanaa

/-
  Chapter 4: both sides of BestSplit.
-/
namespace Go.Proofs.Ytpildecpabeanaa
open Go.RowKit

/-- What is handed back: numbers in a block of their own, and a number. -/
def PlIs (w : World) (zs : List Int) (m : Int) (e : Ending) (w' : World) : Prop :=
  ∃ A c, e = .returned (.tuple #[.slice A zs.length c, .int .i64 m]) ∧ Own w' w.heap.size A c zs ∧ Below w.heap.size w w'
open Classical in
/-- The sets of the best split, nil for others. -/
noncomputable def bsF (ts : List (List Int)) : List Int := if VTs ts then setsF (wayF ts) ts.length else []
open Classical in
/-- What they are worth, -1 for others. -/
noncomputable def bwF (ts : List (List Int)) : Int := if VTs ts then worthF ts (wayF ts) else -1
theorem BsIs.pl {w : World} {ts : List (List Int)} {e : Ending} {w' : World} (h : BsIs w ts e w') : PlIs w (bsF ts) (bwF ts) e w' := by
  obtain ⟨A, c, xs, m, rfl, ho, hb, h | h⟩ := h
  · obtain ⟨h1, rfl, rfl⟩ := h
    unfold bsF bwF
    rw [if_pos h1, if_pos h1]
    exact ⟨A, c, rfl, ho, hb⟩
  · obtain ⟨h1, rfl, rfl⟩ := h
    unfold bsF bwF
    rw [if_neg h1, if_neg h1]
    exact ⟨A, c, rfl, ho, hb⟩
theorem bsF_len (ts : List (List Int)) : (bsF ts).length ≤ 1000 := by
  unfold bsF
  split
  · rename_i h
    rw [setsF_len']; have := h.1.2; omega
  · simp
end Go.Proofs.Ytpildecpabeanaa

/-
  The laws of chapter 4: the law of SplitWorth.
-/
namespace Go.Proofs.Ytpildecpabeanaa
open Go.RowKit Go.Lib

theorem eight_of {ps : List (Nat × Nat × List Int)} (hl : ps.length ≤ 4) (h : ∀ p ∈ ps, p.2.2.length ≤ 8) : (ps.map (·.2.2)).length ≤ 4 ∧ ∀ r ∈ ps.map (·.2.2), r.length ≤ 8 :=
  ⟨by simpa using hl, fun r hr => by obtain ⟨p, hp, rfl⟩ := List.mem_map.1 hr; exact h p hp⟩
/-- What is drawn: tables and a set. -/
def DrawnS (w : World) (e : Ending) (w' : World) : Prop :=
  ∃ (A : Option Addr) (c : Nat) (rows : List (List Int)) (n : Int), e = .returned (.tuple #[.slice A rows.length c, .int .i64 n]) ∧ RdR w' A c rows ∧ rows.length ≤ 4 ∧ (∀ r ∈ rows, r.length ≤ 8) ∧ -1 ≤ n ∧ n ≤ 8 ∧ Below w.heap.size w w'

theorem spF_yes {rows : List (List Int)} {x : Int} (hv : VTs rows) (h0 : 0 ≤ x) (h7 : x ≤ 7) : spF rows x = sv rows x.toNat := by
  unfold spF; rw [if_pos ⟨vtsB_true hv, h0, h7⟩]
theorem spF_no {rows : List (List Int)} {x : Int} (h : ¬ (VTs rows ∧ 0 ≤ x ∧ x ≤ 7)) : spF rows x = -1 := by
  unfold spF; rw [if_neg]; exact fun hh => h ⟨vtsB_iff.1 hh.1, hh.2⟩
theorem spF_neg {rows : List (List Int)} {x : Int} : spF rows x < 0 ↔ ¬ (VTs rows ∧ 0 ≤ x ∧ x ≤ 7) := by
  constructor
  · rintro h ⟨h1, h2, h3⟩
    rw [spF_yes h1 h2 h3] at h
    have := sv_nonneg rows x.toNat
    omega
  · intro h; rw [spF_no h]; decide
/-- What the law says of tables and a set. -/
structure SplitSays (rows : List (List Int)) (x : Int) : Prop where
  less : ∀ j, j < 3 → x.toNat / 2 ^ j % 2 = 1 → spF rows (x - ((2 ^ j : Nat) : Int)) ≤ spF rows x
  all : spF rows 7 = bwF rows
  le : spF rows x ≤ bwF rows
  fewer : spF (rows.take (rows.length - 1)) x ≤ spF rows x
theorem split_says {rows : List (List Int)} {x : Int} (hv : VTs rows) (h0 : 0 ≤ x) (h7 : x ≤ 7) : SplitSays rows x := by
  have hz : ∀ t ∈ rows, T t 0 = 0 := fun t ht => (hv.2 t ht).2.1
  obtain ⟨s, rfl⟩ := Int.eq_ofNat_of_zero_le h0
  have hs : s < 8 := by omega
  have hx := spF_yes hv h0 h7
  have hall : spF rows 7 = bwF rows := by
    rw [spF_yes hv (by omega) (by omega)]
    unfold bwF
    rw [if_pos hv, wayF_worth hz hv.1.2]
    rfl
  refine ⟨fun j hj hb => ?_, hall, ?_, ?_⟩
  · have hb : s / 2 ^ j % 2 = 1 := hb
    have h3 : 2 ^ j ≤ s := by
      rcases Nat.lt_or_ge s (2 ^ j) with h | h
      · rw [Nat.div_eq_of_lt h] at hb; simp at hb
      · exact h
    have hn : ((s : Int) - ((2 ^ j : Nat) : Int)) = ((s - 2 ^ j : Nat) : Int) := by omega
    have h87 : s - 2 ^ j ≤ 7 := Nat.le_trans (Nat.sub_le _ _) (by omega)
    rw [hn, hx, spF_yes hv (Int.natCast_nonneg _) (by exact_mod_cast h87)]
    refine sv_more hz (by simpa using hs) ?_
    show ((s - 2 ^ j : Nat) : Int).toNat ∈ subs ((s : Int).toNat)
    rw [Int.toNat_natCast, Int.toNat_natCast]
    rcases nat8 hs with rfl | rfl | rfl | rfl | rfl | rfl | rfl | rfl <;> rcases nat3 hj with rfl | rfl | rfl <;> first | decide | (exfalso; revert hb; decide)
  · rw [← hall, hx, spF_yes hv (by omega) (by omega)]
    refine sv_more hz (by decide) ?_
    rw [Int.toNat_natCast]
    have : ∀ s, s < 8 → s ∈ subs 7 := by decide
    exact this s hs
  · rw [hx]
    by_cases h1 : rows.length = 1
    · rw [spF_no]
      · have := sv_nonneg rows (s : Int).toNat; omega
      · rintro ⟨⟨⟨hh, _⟩, _⟩, _⟩
        rw [List.length_take, h1] at hh
        simp at hh
    · obtain ⟨i, t, rfl⟩ : ∃ i t, rows = i ++ [t] := ⟨rows.dropLast, rows.getLast (by intro e; rw [e] at hv; simpa using hv.1.1), (List.dropLast_concat_getLast _).symm⟩
      have ht : (i ++ [t]).take ((i ++ [t]).length - 1) = i := by simp
      have hl := hv.1
      simp at hl h1
      have hvi : VTs i := ⟨⟨by cases i <;> simp_all, by omega⟩, fun u hu => hv.2 u (by simp [hu])⟩
      rw [ht, spF_yes hvi h0 h7]
      exact sv_last (fun u hu => hz u (by simp [hu])) (hz t (by simp)) (by simpa using hs)

end Go.Proofs.Ytpildecpabeanaa

/-
  The laws of chapter 9: what they draw.
-/
namespace Go.Proofs.Ytpildecpabeanaa
open Go.RowKit Go.Lib

/-- What is drawn: tables and a set of bidders. -/
def DrawnW (w : World) (e : Ending) (w' : World) : Prop :=
  ∃ (A : Option Addr) (c : Nat) (rows : List (List Int)) (n : Int), e = .returned (.tuple #[.slice A rows.length c, .int .i64 n]) ∧ RdR w' A c rows ∧ rows.length ≤ 4 ∧ (∀ r ∈ rows, r.length ≤ 8) ∧ -1 ≤ n ∧ n ≤ 16 ∧ Below w.heap.size w w'

end Go.Proofs.Ytpildecpabeanaa

/-
  Chapter 5, the program: the contracts of worthWithout and of the function that it hands back.
-/
namespace Go.Proofs.Ytpildecpabeanaa
open Go.RowKit

theorem splice_erase (cur vs : List Value) (i m : Nat) (hc : cur.length = m) (hv : vs.length = m + 1) (hi : i < m + 1) : splice (splice cur 0 (vs.take i)) i (vs.drop (i + 1)) = vs.eraseIdx i := by
  have e1 : (vs.take i).length = i := by rw [List.length_take]; omega
  have e2 : (splice cur 0 (vs.take i)).take i = vs.take i := by
    unfold splice
    rw [List.take_zero, List.nil_append, List.take_append_of_le_length (by omega), List.take_of_length_le (by omega)]
  have e3 : (splice cur 0 (vs.take i)).length = m := by rw [length_splice _ _ _ (by omega), hc]
  show (splice cur 0 (vs.take i)).take i ++ (vs.drop (i + 1) ++ (splice cur 0 (vs.take i)).drop (i + (vs.drop (i + 1)).length)) = _
  have e4 : (splice cur 0 (vs.take i)).drop (i + (vs.drop (i + 1)).length) = [] := List.drop_of_length_le (by rw [e3, List.length_drop]; omega)
  rw [e2, e4, List.append_nil, erase_cut]

theorem grown_box {w w' : World} {g p : Nat} {v : Value} (hg : w.grownBy w' (some g)) (hp : w.cell? ⟨p, 0, none⟩ = some v) (hne : p ≠ g) : w'.cell? ⟨p, 0, none⟩ = some v :=
  (hg.cell_far ⟨p, 0, none⟩ (World.block_lt_of_cell? w _ hp) (by simp; exact hne)).trans hp

/-- What is known of the tables, their rows, and the block that the others are copied to. -/
structure WoAt (W0 : World) (b off c m p q g : Nat) (vs : List Value) (ts : List (List Int)) (w : World) : Prop where
  rows : RowsV W0 vs ts
  below : Below W0.heap.size W0 w
  far : W0.heap.size ≤ g
  pg : p ≠ g
  qg : q ≠ g
  boxp : w.cell? ⟨p, 0, none⟩ = some (.slice (some ⟨g, 0, none⟩) m m)
  boxq : w.cell? ⟨q, 0, none⟩ = some (.slice (some ⟨b, off, none⟩) (m + 1) c)
  cells : ∀ (k : Nat) (v : Value), vs[k]? = some v → W0.cell? ⟨b, off + k, none⟩ = some v
  block : ∃ cur : List Value, cur.length = m ∧ w.heap[g]? = some (.cells cur.toArray 23 (0, 0))
theorem WoAt.grown {W0 w w' : World} {b off c m p q g r : Nat} {vs : List Value} {ts : List (List Int)} (h : WoAt W0 b off c m p q g vs ts w) (hg : w.grownBy w' (some r)) (hr : W0.heap.size ≤ r) (h1 : p ≠ r) (h2 : q ≠ r) (h3 : g ≠ r) : WoAt W0 b off c m p q g vs ts w' :=
  ⟨h.rows, h.below.grown hg h.below.size (fun k e => by cases e; exact hr), h.far, h.pg, h.qg, grown_box hg h.boxp h1, grown_box hg h.boxq h2, h.cells, by
    obtain ⟨cur, hc, hh⟩ := h.block
    exact ⟨cur, hc, (hg.block g (Array.getElem?_eq_some_iff.1 hh).1 (by simp; exact h3)).trans hh⟩⟩
theorem WoAt.belowW {W0 w w' : World} {b off c m p q g : Nat} {vs : List Value} {ts : List (List Int)} (h : WoAt W0 b off c m p q g vs ts w) (hb : Below w.heap.size w w') : WoAt W0 b off c m p q g vs ts w' :=
  ⟨h.rows, h.below.trans (hb.mono h.below.size), h.far, h.pg, h.qg, (hb.cell (p := ⟨p, 0, none⟩) (World.block_lt_of_cell? w _ h.boxp)).trans h.boxp, (hb.cell (p := ⟨q, 0, none⟩) (World.block_lt_of_cell? w _ h.boxq)).trans h.boxq, h.cells, by
    obtain ⟨cur, hc, hh⟩ := h.block
    exact ⟨cur, hc, (hb.block g (Array.getElem?_eq_some_iff.1 hh).1).trans hh⟩⟩


/-- What the function that is handed back tells: what all is worth to the others. -/
def WoIs (W0 : World) (b off c m p q g : Nat) (vs : List Value) (ts : List (List Int)) (i : Nat) (w : World) (e : Ending) (w' : World) : Prop :=
  e = .returned (.int .i64 (sv (ts.eraseIdx i) 7)) ∧ w.grownBy w' (some g) ∧ WoAt W0 b off c m p q g vs ts w'

set_option maxHeartbeats 2000000 in
theorem Wo_any (W0 : World) (b off c m p q g i : Nat) (vs : List Value) (ts : List (List Int)) (w : World) (h : WoAt W0 b off c m p q g vs ts w) (hv : ∀ t ∈ ts, VT t) (hn : ts.length = m + 1) (hm : m ≤ 3) (hi : i < m + 1) (hmc : m + 1 ≤ c) :
    Calls Try.prog 143 #[.int .i64 i, .pointer (some ⟨p, 0, none⟩), .pointer (some ⟨q, 0, none⟩)] w (WoIs W0 b off c m p q g vs ts i w) := by
  obtain ⟨cur, hcl, hgb⟩ := h.block
  have hpc := h.boxp
  have hqc := h.boxq
  have hvl : vs.length = m + 1 := by rw [h.rows.1, hn]
  have HO := Lib.hid h.rows.oneCell
  have HF := Lib.hid h.far
  have HB := Lib.hid h.below
  have hpg := h.pg
  have hqg := h.qg
  have HW := Lib.hid h
  have hadd : ∀ o j, (⟨b, o, none⟩ : Addr).add j = ⟨b, o + j, none⟩ := fun o j => by unfold Addr.add; split <;> simp_all
  have HC := Lib.hid (fun (w1 : World) (hb : Below W0.heap.size W0 w1) (k : Nat) (v : Value) (hk : vs[k]? = some v) => (hb.cell (p := ⟨b, off + k, none⟩) (World.block_lt_of_cell? W0 _ (h.cells k v hk))).trans (h.cells k v hk))
  have HN1 : Hid (∀ (W : World), Below W0.heap.size W0 W → ∀ j u, (vs.take i)[j]? = some u → W.cell? ((⟨b, off, none⟩ : Addr).add j) = some u) := Lib.hid (fun W hW j u hu => by
    rw [hadd]; refine HC.out W hW j u ?_
    rw [List.getElem?_take] at hu; split at hu
    · exact hu
    · cases hu)
  have HN2 : Hid (∀ (W : World), Below W0.heap.size W0 W → ∀ j u, (vs.drop (i + 1))[j]? = some u → W.cell? ((⟨b, off + (i + 1), none⟩ : Addr).add j) = some u) := Lib.hid (fun W hW j u hu => by
    rw [hadd, Nat.add_assoc]; refine HC.out W hW _ u ?_
    rw [List.getElem?_drop] at hu
    exact hu)
  have htl : (vs.take i).length = i := by rw [List.length_take]; omega
  have hdl : (vs.drop (i + 1)).length = m + 1 - (i + 1) := by rw [List.length_drop]; omega
  have HT1 : Hid (∀ u ∈ vs.take i, u.oneCell' = true) := Lib.hid (fun u hu => HO.out u (List.mem_of_mem_take hu))
  have HT2 : Hid (∀ u ∈ vs.drop (i + 1), u.oneCell' = true) := Lib.hid (fun u hu => HO.out u (List.mem_of_mem_drop hu))
  have HSE := Lib.hid (splice_erase cur vs i m hcl hvl hi)
  have HC1 : Hid ((vs.take i).length = Nat.min i m) := Lib.hid (by rw [htl]; exact (Nat.min_eq_left (by omega)).symm)
  have hmi1 : m + 1 - (i + 1) = m - i := by omega
  have HC2 : Hid ((vs.drop (i + 1)).length = Nat.min (m - i) (m - i)) := Lib.hid (by rw [hdl, hmi1]; exact (Nat.min_self _).symm)
  have HF1 : Hid (0 + (vs.take i).length ≤ cur.length) := Lib.hid (by rw [htl, hcl]; omega)
  have HF2 : Hid (i + (vs.drop (i + 1)).length ≤ (splice cur 0 (vs.take i)).length) := Lib.hid (by rw [length_splice _ _ _ HF1.out, hdl, hcl]; omega)
  have HGB := Lib.hid hgb
  have hel : (ts.eraseIdx i).length = m := by rw [erase_len (by omega), hn]; omega
  have HEL := Lib.hid hel
  have HER := Lib.hid (h.rows.erase i)
  have HEV : Hid ((vs.eraseIdx i).length = m) := Lib.hid (by rw [(h.rows.erase i).1, hel])
  have HG1 := Lib.hid (show w.grownBy w.drew (some g) from ⟨rfl, rfl, rfl, Nat.le_refl _, fun _ _ _ => rfl⟩)
  have hev : ∀ t ∈ ts.eraseIdx i, VT t := fun t ht => hv t (mem_erase ht)
  have HJ := Lib.hid (fun (W : World) (hR : RdR W (some ⟨g, 0, none⟩) m (ts.eraseIdx i)) => joinedOf_gen (some ⟨g, 0, none⟩) m (ts.eraseIdx i) W hR (by omega) hev)
  rw [hel] at HJ
  have HT7 : Hid (T (jnAll (ts.eraseIdx i)) 7 = sv (ts.eraseIdx i) 7) := Lib.hid (jnAll_at (VTs.zeros hev) (by omega))
  obtain ⟨l, hl⟩ : ∃ l, l = jnAll (ts.eraseIdx i) := ⟨_, rfl⟩
  rw [← hl] at HJ HT7
  have hix : ∀ w : World, (Instr.index 96 (.agg #[.int .i64 (T l 0), .int .i64 (T l 1), .int .i64 (T l 2), .int .i64 (T l 3), .int .i64 (T l 4), .int .i64 (T l 5), .int .i64 (T l 6), .int .i64 (T l 7)]) (.int .i64 7)).run Try.prog w = .ok (.int .i64 (T l 7)) w := fun w => idx8 (T l) (k := 7) (by omega) w
  have q1 : (0 : Int) ≤ (i : Int) := by omega
  have q2 : (0 : Int) ≤ (i : Int) + 1 := by omega
  have q3 : (i : Int) + 1 ≤ (m : Int) + 1 := by omega
  have q4 : (i : Int) ≤ (m : Int) := by omega
  have q5 : (i : Int) ≤ (c : Int) := by omega
  have hwi : IntKind.i64.wrap ((i : Int) + 1) = (i : Int) + 1 := IntWalk.i64_in _ (by omega)
  have HLB : Hid (∀ W W' : World, Below W0.heap.size W0 W → W.grownBy W' (some g) → Below W0.heap.size W0 W') := Lib.hid (fun W W' h1 h2 => h1.grown h2 h1.size (fun k e => by cases e; exact HF.out))
  have hlp : Below W0.heap.size W0 w.drew := below_drewN' HB.out 1
  clear hmi1 h hcl hgb htl hdl hel hev hl hadd hn hv
  by_cases him : i = m
  · subst him
    have HC3 : Hid ((vs.drop (i + 1)).length = 0) := Lib.hid (by have h := HC2.out; rw [Nat.sub_self] at h; simpa using h)
    have HC4 : Hid ((vs.drop (i + 1)).length = Nat.min 0 0) := Lib.hid HC3.out
    unfold ag8 at HJ
    go_enter Try.func143, Try.ntmps143
    go_wp2_with fail
    go_region_held3 (fun W => W.cell? ⟨p, 0, none⟩ = some (.slice (some ⟨g, 0, none⟩) i i) ∧ W.cell? ⟨q, 0, none⟩ = some (.slice (some ⟨b, off, none⟩) (i + 1) c))
      (first | exact ⟨hpc, hqc⟩ | exact ⟨hpc1, hqc1⟩ | fail)
      (first
      | (refine step_copy_grown rfl _ _ rfl _ _ _ _ _ _ rfl rfl g 0 cur 23 HGB.out (vs.take i) HC1.out (fun _ => ⟨rfl, _, rfl, HN1.out _ hlp⟩) HF1.out HT1.out ?_; intro w1 hg1 gr1; have B1 := HLB.out _ _ hlp gr1; have hpc1 := grown_box gr1 hpc hpg; have hqc1 := grown_box gr1 hqc hqg)
      | fail)
    have hlp1 : Below W0.heap.size W0 w1.drew := below_drewN' B1 1
    go_wp2_with fail
    go_region_held3 (fun W => W.cell? ⟨p, 0, none⟩ = some (.slice (some ⟨g, 0, none⟩) i i) ∧ W.cell? ⟨q, 0, none⟩ = some (.slice (some ⟨b, off, none⟩) (i + 1) c))
      (first | exact ⟨hpc1, hqc1⟩ | exact ⟨hpc2, hqc2⟩ | fail)
      (first
      | (refine step_copy_grown rfl _ _ rfl _ _ _ _ _ _ rfl rfl g i _ 23 hg1.out (vs.drop (i + 1)) HC4.out (fun h => absurd h (by rw [HC3.out]; omega)) HF2.out HT2.out ?_; intro w2 hg2 gr2; have B2 := HLB.out _ _ hlp1 gr2; have hpc2 := grown_box gr2 hpc1 hpg; have hqc2 := grown_box gr2 hqc1 hqg)
      | fail)
    rw [HSE.out] at hg2
    have HR2 := Lib.hid (rdr_of_cells (c := i) hg2.out HER.out B2 (by rw [HEL.out]; exact Nat.le_refl _))
    go_wp2_with (go_at_call 102; refine (HJ.out _ HR2.out).mono ?_; rintro e w3 ⟨rfl, b3⟩)
    all_goals
      go_ret
      have hW2 : WoAt W0 b off c i p q g vs ts w2 := ⟨HW.out.rows, B2, HF.out, hpg, hqg, hpc2, hqc2, HW.out.cells, vs.eraseIdx i, HEV.out, hg2.out⟩
      have G2 : w.grownBy w2 (some g) := (HG1.out.trans gr1).trans ((show w1.grownBy w1.drew (some g) from ⟨rfl, rfl, rfl, Nat.le_refl _, fun _ _ _ => rfl⟩).trans gr2)
      first
        | exact ⟨by rw [← HT7.out]; rfl, G2.trans ⟨b3.os, b3.tape, b3.output, b3.size, fun i hi _ => b3.block i hi⟩, hW2.belowW b3⟩
        | (have hce : c = i + 1 := by assumption
           subst hce
           exact ⟨by rw [← HT7.out]; rfl, G2.trans ⟨b3.os, b3.tape, b3.output, b3.size, fun i hi _ => b3.block i hi⟩, hW2.belowW b3⟩)
  have hcn : ¬ c = i + 1 := by omega
  have hmi : ¬ m = i := fun e => him e.symm
  unfold ag8 at HJ
  go_enter Try.func143, Try.ntmps143
  go_wp2_with fail
  go_region_held3 (fun W => W.cell? ⟨p, 0, none⟩ = some (.slice (some ⟨g, 0, none⟩) m m) ∧ W.cell? ⟨q, 0, none⟩ = some (.slice (some ⟨b, off, none⟩) (m + 1) c))
    (first | exact ⟨hpc, hqc⟩ | exact ⟨hpc1, hqc1⟩ | fail)
    (first
    | (refine step_copy_grown rfl _ _ rfl _ _ _ _ _ _ rfl rfl g 0 cur 23 HGB.out (vs.take i) HC1.out (fun _ => ⟨rfl, _, rfl, HN1.out _ hlp⟩) HF1.out HT1.out ?_; intro w1 hg1 gr1; have B1 := HLB.out _ _ hlp gr1; have hpc1 := grown_box gr1 hpc hpg; have hqc1 := grown_box gr1 hqc hqg)
    | fail)
  have hlp1 : Below W0.heap.size W0 w1.drew := below_drewN' B1 1
  go_wp2_with fail
  go_region_held3 (fun W => W.cell? ⟨p, 0, none⟩ = some (.slice (some ⟨g, 0, none⟩) m m) ∧ W.cell? ⟨q, 0, none⟩ = some (.slice (some ⟨b, off, none⟩) (m + 1) c))
    (first | exact ⟨hpc1, hqc1⟩ | exact ⟨hpc2, hqc2⟩ | fail)
    (first
    | (refine step_copy_grown rfl _ _ rfl _ _ _ _ _ _ rfl rfl g i _ 23 hg1.out (vs.drop (i + 1)) HC2.out (fun _ => ⟨rfl, _, rfl, HN2.out _ hlp1⟩) HF2.out HT2.out ?_; intro w2 hg2 gr2; have B2 := HLB.out _ _ hlp1 gr2; have hpc2 := grown_box gr2 hpc1 hpg; have hqc2 := grown_box gr2 hqc1 hqg)
    | fail)
  rw [HSE.out] at hg2
  have HR2 := Lib.hid (rdr_of_cells (c := m) hg2.out HER.out B2 (by rw [HEL.out]; exact Nat.le_refl _))
  go_wp2_with (go_at_call 102; refine (HJ.out _ HR2.out).mono ?_; rintro e w3 ⟨rfl, b3⟩)
  go_ret
  have hW2 : WoAt W0 b off c m p q g vs ts w2 := ⟨HW.out.rows, B2, HF.out, hpg, hqg, hpc2, hqc2, HW.out.cells, vs.eraseIdx i, HEV.out, hg2.out⟩
  have G2 : w.grownBy w2 (some g) := (HG1.out.trans gr1).trans ((show w1.grownBy w1.drew (some g) from ⟨rfl, rfl, rfl, Nat.le_refl _, fun _ _ _ => rfl⟩).trans gr2)
  exact ⟨by rw [← HT7.out]; rfl, G2.trans ⟨b3.os, b3.tape, b3.output, b3.size, fun i hi _ => b3.block i hi⟩, hW2.belowW b3⟩

end Go.Proofs.Ytpildecpabeanaa
