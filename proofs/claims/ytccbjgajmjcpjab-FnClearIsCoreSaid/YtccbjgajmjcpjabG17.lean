/-
  Chapter 7, plain: loads, prices that clear, and what things take when they are missing.
-/
import Derived.Test.YtccbjgajmjcpjabG02
import Derived.Test.YtccbjgajmjcpjabG03
import Derived.Test.YtccbjgajmjcpjabG04
namespace Go.Proofs.Ytccbjgajmjcpjab

/-- The sum of all surpluses. -/
def suS : List (List Int) → List Int → Int
  | [], _ => 0
  | t :: ts, p => su t p + suS ts p
/-- The load. -/
def lo (ts : List (List Int)) (p : List Int) : Int := pr p 7 + suS ts p
theorem suS_snoc (ts : List (List Int)) (t p : List Int) : suS (ts ++ [t]) p = suS ts p + su t p := by
  induction ts with
  | nil => simp [suS]
  | cons u ts ih => simp only [List.cons_append, suS, ih]; omega
theorem suS_step {ts : List (List Int)} {k : Nat} {t : List Int} (p : List Int) (h : ts[k]? = some t) : suS (ts.take (k + 1)) p = suS (ts.take k) p + su t p := by
  rw [List.take_add_one, h, ← suS_snoc]; rfl
theorem suS_bd {ts : List (List Int)} {p : List Int} (h : ∀ t ∈ ts, VT t) (hp : VP p) : 0 ≤ suS ts p ∧ suS ts p ≤ 30 * ts.length := by
  induction ts with
  | nil => simp [suS]
  | cons t ts ih =>
    have h1 := ih (fun u hu => h u (by simp [hu]))
    have h2 := suTo_bd (h t (by simp)) hp (k := 8) (Nat.le_refl _)
    have h3 : su t p = suTo t p 8 := rfl
    simp only [suS, List.length_cons]
    omega
theorem suS_take_bd {ts : List (List Int)} {p : List Int} (h : ∀ t ∈ ts, VT t) (hp : VP p) (k : Nat) : 0 ≤ suS (ts.take k) p ∧ suS (ts.take k) p ≤ 30 * ts.length := by
  have h1 := suS_bd (ts := ts.take k) (fun t ht => h t (List.mem_of_mem_take ht)) hp
  have h2 : (ts.take k).length ≤ ts.length := by rw [List.length_take]; omega
  omega

/-- Prices of a set and of the rest. -/
theorem pr_sub {p : List Int} {X s : Nat} (hX : X < 8) (hs : s ∈ subs X) : pr p s + pr p (X - s) = pr p X := by
  have hs8 := subs_lt hs
  have ha := subs_and hs
  obtain ⟨v0, v1, v2, v3, v4, v5, v6, v7⟩ := pr_vals p
  rcases nat8 hX with rfl | rfl | rfl | rfl | rfl | rfl | rfl | rfl <;> rcases nat8 hs8 with rfl | rfl | rfl | rfl | rfl | rfl | rfl | rfl <;>
    first
    | (exfalso; revert ha; decide)
    | (simp only [Nat.sub_self, Nat.sub_zero, Nat.reduceSub]; omega)
/-- What is had is no more than what is left, and the prices. -/
theorem got_load {p : List Int} {ts : List (List Int)} (hp : VP p) : ∀ {X : Nat} {v : Int}, X < 8 → Got ts X v → v ≤ suS ts p + pr p X := by
  induction ts with
  | nil => intro X v hX h; simp [Got] at h; simp [suS, h]; exact (hp.bd hX).1
  | cons t ts ih =>
    rintro X v hX ⟨s, hs, u, hu, rfl⟩
    have h1 := ih (sub_lt hX hs) hu
    have h2 := pr_sub (p := p) hX hs
    have h3 := su_le (t := t) (p := p) (subs_lt hs)
    unfold lf at h3
    simp only [suS]
    omega
theorem sv_load {p : List Int} {ts : List (List Int)} (hz : ∀ t ∈ ts, T t 0 = 0) (hp : VP p) {X : Nat} (hX : X < 8) : sv ts X ≤ suS ts p + pr p X := got_load hp hX (got_sv hz X)
/-- Loads are at least what all is worth. -/
theorem lo_ge {p : List Int} {ts : List (List Int)} (hz : ∀ t ∈ ts, T t 0 = 0) (hp : VP p) : sv ts 7 ≤ lo ts p := by
  have := sv_load hz hp (X := 7) (by omega)
  unfold lo; omega

/-- All is sold out of X, each one what is best. -/
def Clr : List (List Int) → List Int → Nat → Prop
  | [], p, X => pr p X = 0
  | t :: ts, p, X => ∃ s, s ∈ subs X ∧ lf t p s = su t p ∧ Clr ts p (X - s)
theorem clr_iff {p : List Int} {ts : List (List Int)} (hz : ∀ t ∈ ts, T t 0 = 0) (hp : VP p) : ∀ {X : Nat}, X < 8 → (Clr ts p X ↔ sv ts X = suS ts p + pr p X) := by
  have key : ∀ (ts : List (List Int)) {X : Nat}, X < 8 → (Clr ts p X ↔ Got ts X (suS ts p + pr p X)) := by
    intro ts
    induction ts with
    | nil => intro X hX; simp only [Clr, Got, suS]; omega
    | cons t ts ih =>
      intro X hX
      constructor
      · rintro ⟨s, hs, h1, h2⟩
        have h3 := pr_sub (p := p) hX hs
        unfold lf at h1
        exact ⟨s, hs, _, (ih (sub_lt hX hs)).1 h2, by simp only [suS]; omega⟩
      · rintro ⟨s, hs, u, hu, he⟩
        have h3 := pr_sub (p := p) hX hs
        have h4 := su_le (t := t) (p := p) (subs_lt hs)
        have h5 := got_load hp (sub_lt hX hs) hu
        simp only [suS] at he
        unfold lf at h4
        have e1 : lf t p s = su t p := by unfold lf; omega
        have e2 : u = suS ts p + pr p (X - s) := by omega
        exact ⟨s, hs, e1, (ih (sub_lt hX hs)).2 (e2 ▸ hu)⟩
  intro X hX
  rw [key ts hX]
  constructor
  · intro h
    exact Int.le_antisymm (sv_load hz hp hX) (got_le h)
  · intro h
    rw [← h]
    exact got_sv hz X
/-- Prices that clear are least loads. -/
theorem clr_load {p : List Int} {ts : List (List Int)} (hz : ∀ t ∈ ts, T t 0 = 0) (hp : VP p) : Clr ts p 7 ↔ lo ts p = sv ts 7 := by
  rw [clr_iff hz hp (by omega)]
  unfold lo
  omega

/-- How much less all is worth without thing j. -/
def mpF (ts : List (List Int)) (j : Nat) : Int := sv ts 7 - sv ts (7 - 2 ^ j)
theorem pow_sub7 {j : Nat} (hj : j < 3) : 7 - 2 ^ j ∈ subs 7 ∧ 2 ^ j ≤ 4 ∧ 7 - 2 ^ j < 8 := by
  rcases nat3 hj with rfl | rfl | rfl <;> decide
theorem mp_nn {ts : List (List Int)} (hz : ∀ t ∈ ts, T t 0 = 0) {j : Nat} (hj : j < 3) : 0 ≤ mpF ts j := by
  have := sv_more hz (X := 7 - 2 ^ j) (Y := 7) (by omega) (pow_sub7 hj).1
  unfold mpF; omega
theorem mp_bd {ts : List (List Int)} (h : ∀ t ∈ ts, VT t) {j : Nat} (hj : j < 3) : 0 ≤ mpF ts j ∧ mpF ts j ≤ 30 * ts.length := by
  have h1 := mp_nn (fun t ht => (h t ht).2.1) hj
  have h2 := sv_bd h 7 (by omega)
  have h3 := sv_nonneg ts (7 - 2 ^ j)
  unfold mpF at h1 ⊢; omega
/-- The greatest worth of thing j alone. -/
def oneF : List (List Int) → Nat → Int
  | [], _ => 0
  | t :: ts, j => max (T t (2 ^ j)) (oneF ts j)
theorem sv_zero {ts : List (List Int)} (hz : ∀ t ∈ ts, T t 0 = 0) : sv ts 0 = 0 := by
  have h := got_sv hz 0
  generalize sv ts 0 = v at h
  induction ts generalizing v with
  | nil => exact h
  | cons t ts ih =>
    obtain ⟨s, hs, u, hu, rfl⟩ := h
    have e : s = 0 := by have := subs_and hs; simp at this; exact this.symm
    subst e
    rw [ih (fun u hu => hz u (by simp [hu])) u hu, hz t (by simp)]
    rfl
theorem sv_single {ts : List (List Int)} (hz : ∀ t ∈ ts, T t 0 = 0) {j : Nat} (hj : j < 3) : sv ts (2 ^ j) ≤ oneF ts j := by
  induction ts with
  | nil => simp [sv, oneF]
  | cons t ts ih =>
    have hz' : ∀ u ∈ ts, T u 0 = 0 := fun u hu => hz u (by simp [hu])
    have h1 := ih hz'
    have h2 := sv_zero hz'
    have h3 := sv_nonneg ts (2 ^ j)
    have h4 := hz t (by simp)
    have e : subs (2 ^ j) = [0, 2 ^ j] := by rcases nat3 hj with rfl | rfl | rfl <;> decide
    simp only [oneF]
    refine mx_le (by omega) (fun s hs => ?_)
    rw [e] at hs
    simp only [List.mem_cons, List.not_mem_nil, or_false] at hs
    rcases hs with rfl | rfl
    · rw [h4, Nat.sub_zero]; omega
    · rw [Nat.sub_self, h2]; omega
/-- Most prices are no more than what things are worth alone to someone, where things may be moved. -/
theorem mp_one {ts : List (List Int)} (h : ∀ t ∈ ts, VT t ∧ Mo (T t)) {j : Nat} (hj : j < 3) : mpF ts j ≤ oneF ts j := by
  have hz : ∀ t ∈ ts, T t 0 = 0 := fun t ht => (h t ht).1.2.1
  have A := sv_mo h
  have h1 := sv_single hz hj
  have a1 := A.m71
  have a2 := A.m72
  have a4 := A.m74
  unfold mpF
  rcases nat3 hj with rfl | rfl | rfl
  · simp only [Nat.reducePow, Nat.reduceSub] at h1 ⊢; omega
  · simp only [Nat.reducePow, Nat.reduceSub] at h1 ⊢; omega
  · simp only [Nat.reducePow, Nat.reduceSub] at h1 ⊢; omega

end Go.Proofs.Ytccbjgajmjcpjab

/-
  Chapter 9, plain: prices that clear are in the core.
-/
namespace Go.Proofs.Ytccbjgajmjcpjab

/-- What the sets of the first k cost. -/
def costF (_ts : List (List Int)) (os p : List Int) (i : Nat) : Int := pr p (setOf os i)
/-- The surpluses, bidder by bidder. -/
def susF (ts : List (List Int)) (p : List Int) (i : Nat) : Int := su (ts.getD i []) p
theorem suS_smF (p : List Int) : ∀ (ts : List (List Int)) (k : Nat), k ≤ ts.length → suS (ts.take k) p = smF (susF ts p) k
  | ts, 0, _ => by simp [suS, smF]
  | ts, k + 1, h => by
    have h1 : ts[k]? = some (ts.getD k []) := by rw [List.getD_eq_getElem?_getD, List.getElem?_eq_getElem (by omega)]; rfl
    rw [suS_step p h1, suS_smF p ts k (by omega)]; rfl
theorem cost_to {p : List Int} (x y z : Int) : ∀ n : Nat, smF (fun i => pr p (skn x y z (i : Int))) n + pr p (ge (n : Int) x y z) = pr p (ge 0 x y z)
  | 0 => by simp [smF]
  | n + 1 => by
    have ih := cost_to (p := p) x y z n
    obtain ⟨h1, h2⟩ := ge_step (n : Int) x y z
    have h3 := pr_sub (p := p) (ge_lt (n : Int) x y z) h1
    rw [h2] at h3
    simp only [smF]
    rw [show ((n + 1 : Nat) : Int) = (n : Int) + 1 by omega]
    omega
theorem pr_le7 {p : List Int} (hp : VP p) {x : Nat} (hx : x < 8) : pr p x ≤ pr p 7 := by
  have h := pr_sub (p := p) (X := 7) (by omega) (in7 hx)
  have := (hp.bd (sub_lt (by omega) (in7 hx))).1
  omega
theorem cost_le {ts : List (List Int)} {p : List Int} (hp : VP p) (os : List Int) (n : Nat) : smF (costF ts os p) n ≤ pr p 7 := by
  have h := cost_to (p := p) (os.getD 0 0) (os.getD 1 0) (os.getD 2 0) n
  have h1 := (hp.bd (ge_lt (n : Int) (os.getD 0 0) (os.getD 1 0) (os.getD 2 0))).1
  have h2 := pr_le7 hp (ge_lt 0 (os.getD 0 0) (os.getD 1 0) (os.getD 2 0))
  have h3 : smF (costF ts os p) n = smF (fun i => pr p (skn (os.getD 0 0) (os.getD 1 0) (os.getD 2 0) (i : Int))) n := rfl
  omega
theorem smF_add (f g : Nat → Int) : ∀ k, smF (fun i => f i + g i) k = smF f k + smF g k
  | 0 => rfl
  | k + 1 => by simp only [smF, smF_add f g k]; omega
/-- Where prices clear each has what is best, and all that costs something is sold. -/
theorem clear_says {ts : List (List Int)} {p : List Int} (hv : ∀ t ∈ ts, VT t) (hn : ts.length ≤ 4) (hp : VP p) (h : lo ts p = sv ts 7) :
    (∀ i, i < ts.length → lf (ts.getD i []) p (setOf (wayF ts) i) = su (ts.getD i []) p) ∧ smF (costF ts (wayF ts) p) ts.length = pr p 7 := by
  have h1 := ow_sum hv hn
  have h2 := suS_smF p ts ts.length (Nat.le_refl _)
  rw [List.take_length] at h2
  have h3 := cost_le (ts := ts) hp (wayF ts) ts.length
  have h4 : ∀ i, i < ts.length → ow ts i ≤ susF ts p i + costF ts (wayF ts) p i := fun i hi => by
    have := su_le (t := ts.getD i []) (p := p) (setOf_lt (wayF ts) i)
    unfold lf at this
    unfold ow susF costF
    omega
  have h5 := smF_le h4
  have e5 := smF_add (susF ts p) (costF ts (wayF ts) p) ts.length
  unfold lo at h
  refine ⟨fun i hi => ?_, by omega⟩
  have h6 := smF_eq (k := ts.length) h4 (by omega) i hi
  unfold ow susF costF at h6
  unfold lf
  omega
theorem suS_ch (p : List Int) (S : Nat) : ∀ (ts : List (List Int)) (k : Nat), k ≤ ts.length → suS (ch (ts.take k) S) p = hv (susF ts p) (fun _ => 0) S k
  | ts, 0, _ => by simp [ch, suS, hv]
  | ts, k + 1, h => by
    have h1 : ts[k]? = some (ts.getD k []) := by rw [List.getD_eq_getElem?_getD, List.getElem?_eq_getElem (by omega)]; rfl
    have ih := suS_ch p S ts k (by omega)
    rw [ch_take ts S k h1]
    simp only [hv]
    split
    · rw [suS_snoc, ih]; rfl
    · rw [ih]; omega
theorem hv_split (o p g : Nat → Int) (S : Nat) : ∀ k, (∀ i, i < k → o i = g i + p i) → hv o p S k = hv g (fun _ => 0) S k + smF p k
  | 0, _ => rfl
  | k + 1, h => by
    have h1 := h k (by omega)
    simp only [hv, smF, hv_split o p g S k (fun i hi => h i (by omega))]
    split <;> omega
/-- Prices that clear are in the core. -/
theorem clear_core {ts : List (List Int)} {p : List Int} (hv : ∀ t ∈ ts, VT t) (hn : ts.length ≤ 4) (hp : VP p) (h : lo ts p = sv ts 7) : InC ts (costF ts (wayF ts) p) := by
  obtain ⟨h1, h2⟩ := clear_says hv hn hp h
  have h3 : ∀ i, i < ts.length → ow ts i = susF ts p i + costF ts (wayF ts) p i := fun i hi => by
    have := h1 i hi
    unfold lf at this
    unfold ow susF costF
    omega
  refine ⟨fun i hi => ?_, fun S _ => ?_⟩
  · have h4 := h3 i hi
    have h5 := (suTo_bd (hv _ (getD_mem hi)) hp (k := 8) (Nat.le_refl _)).1
    have h6 : susF ts p i = suTo (ts.getD i []) p 8 := rfl
    omega
  · rw [hv_split _ _ _ S _ h3, h2]
    have h4 := sv_load (p := p) (ts := ch ts S) (fun t ht => (hv t (ch_mem ht)).2.1) hp (X := 7) (by omega)
    have h5 := suS_ch p S ts ts.length (Nat.le_refl _)
    rw [List.take_length] at h5
    unfold ww
    omega
/-- What is paid is a number that may be paid. -/
theorem cost_bd {ts : List (List Int)} {p : List Int} (hp : VP p) (os : List Int) (i : Nat) : 0 ≤ costF ts os p i := (hp.bd (setOf_lt os i)).1

end Go.Proofs.Ytccbjgajmjcpjab

/-
  The generators of the laws: the contracts of the reader.
-/
namespace Go.Proofs.Ytccbjgajmjcpjab
open Go.RowKit

/-- A reader lies in block rb; it has been asked at most k times. -/
def Rdr (w : World) (rb k : Nat) : Prop :=
  ∃ (A : Option Addr) (c p : Nat) (xs : List Int), w.heap[rb]? = some (.cells #[.slice A xs.length c, .int .i64 (p : Int)] 99 (0, 0)) ∧ p ≤ k ∧ xs.length ≤ 2000 ∧ (∀ x ∈ xs, 0 ≤ x ∧ x ≤ 255) ∧
    (xs = [] ∨ ∃ b off, A = some ⟨b, off, none⟩ ∧ b < rb ∧ ∀ j x, xs[j]? = some x → w.cell? ⟨b, off + j, none⟩ = some (.int .u8 x))

theorem Rdr.more {w : World} {rb k k' : Nat} (h : Rdr w rb k) (hk : k ≤ k') : Rdr w rb k' := by
  obtain ⟨A, c, p, xs, h1, h2, h3⟩ := h
  exact ⟨A, c, p, xs, h1, Nat.le_trans h2 hk, h3⟩
theorem Rdr.lt {w : World} {rb k : Nat} (h : Rdr w rb k) : rb < w.heap.size := by
  obtain ⟨A, c, p, xs, h1, _⟩ := h
  exact lt_of_block h1
theorem Rdr.keep {w w' : World} {rb k : Nat} (h : Rdr w rb k) (hw : ∀ g, g < w.heap.size → w'.heap[g]? = w.heap[g]?) : Rdr w' rb k := by
  have hl := h.lt
  obtain ⟨A, c, p, xs, h1, h2, h3, h4, h5⟩ := h
  refine ⟨A, c, p, xs, (hw rb hl).trans h1, h2, h3, h4, ?_⟩
  rcases h5 with h5 | ⟨b, off, hA, hb, hc⟩
  · exact .inl h5
  · exact .inr ⟨b, off, hA, hb, fun j x hx => by
      have h6 := hc j x hx
      exact (World.cell?_of_block (hw b (World.block_lt_of_cell? w _ h6))).trans h6⟩
theorem Rdr.below {w w' : World} {rb k : Nat} (h : Rdr w rb k) (hb : Below w.heap.size w w') : Rdr w' rb k := h.keep hb.block
theorem Rdr.drewN {w : World} {rb k : Nat} (h : Rdr w rb k) (n : Nat) : Rdr (w.drewN n) rb k := h

theorem xor_i64_nat (a b : Nat) (ha : a < 4294967296) (hb : b < 4294967296) : bits .xor .i64 (a : Int) (b : Int) = ((a ^^^ b : Nat) : Int) ∧ a ^^^ b < 4294967296 := by
  have hx : a ^^^ b < 2 ^ 32 := Nat.xor_lt_two_pow (by omega) (by omega)
  have h1 : (BitVec.ofInt 64 (a : Int)).toNat = a := by
    rw [BitVec.ofInt_natCast, BitVec.toNat_ofNat]; exact Nat.mod_eq_of_lt (by omega)
  have h2 : (BitVec.ofInt 64 (b : Int)).toNat = b := by
    rw [BitVec.ofInt_natCast, BitVec.toNat_ofNat]; exact Nat.mod_eq_of_lt (by omega)
  refine ⟨?_, by omega⟩
  show IntKind.i64.wrap ((BitVec.ofInt 64 (a : Int) ^^^ BitVec.ofInt 64 (b : Int)).toNat : Int) = _
  rw [BitVec.toNat_xor, h1, h2, IntKind.wrap_i64]
  omega

/-- What pick hands back. -/
def PickIs (w : World) (rb k : Nat) (n : Int) (e : Ending) (w' : World) : Prop :=
  ∃ m : Int, e = .returned (.int .i64 m) ∧ 0 ≤ m ∧ (m < n ∨ m = 0) ∧ Rdr w' rb (k + 1) ∧ w.grownBy w' (some rb)

theorem Rdr.asked {w : World} {rb p c : Nat} {A : Option Addr} {xs : List Int} {k : Nat} (h1 : w.heap[rb]? = some (.cells #[.slice A xs.length c, .int .i64 (p : Int)] 99 (0, 0))) (h2 : p ≤ k) (h3 : xs.length ≤ 2000) (h4 : ∀ x ∈ xs, 0 ≤ x ∧ x ≤ 255)
    (h5 : xs = [] ∨ ∃ b off, A = some ⟨b, off, none⟩ ∧ b < rb ∧ ∀ j x, xs[j]? = some x → w.cell? ⟨b, off + j, none⟩ = some (.int .u8 x)) :
    Rdr (w.setCell ⟨rb, 1, none⟩ (.int .i64 ((p : Int) + 1))) rb (k + 1) ∧ w.grownBy (w.setCell ⟨rb, 1, none⟩ (.int .i64 ((p : Int) + 1))) (some rb) := by
  refine ⟨⟨A, c, p + 1, xs, ?_, by omega, h3, h4, ?_⟩, ⟨rfl, rfl, rfl, by simp, fun g hg hne => ?_⟩⟩
  · have := heap_setCell_same w rb 1 _ _ (.int .i64 ((p : Int) + 1)) h1
    rw [this]; simp
  · rcases h5 with h5 | ⟨b, off, hA, hb, hc⟩
    · exact .inl h5
    · exact .inr ⟨b, off, hA, hb, fun j x hx => by
        rw [World.cell?_setCell_other w ⟨rb, 1, none⟩ ⟨b, off + j, none⟩ _ (fun e => by injection e with e1; omega)]
        exact hc j x hx⟩
  · exact heap_setCell_other w ⟨rb, 1, none⟩ g _ (fun e => hne (by simp [e]))

set_option maxRecDepth 100000 in
set_option maxHeartbeats 2000000 in
theorem pick_any (rb k : Nat) (n : Int) (w : World) (h : Rdr w rb k) (hk : k ≤ 1000000) (hn0 : -2147483648 ≤ n) (hn : n ≤ 2147483647) :
    Calls Try.prog 65 #[.pointer (some ⟨rb, 0, none⟩), .int .i64 n] w (PickIs w rb k n) := by
  obtain ⟨A, c, p, xs, h1, h2, h3, h4, h5⟩ := h
  have HD := Lib.hid (Rdr.asked h1 h2 h3 h4 h5)
  have c0 : w.cell? ⟨rb, 0, none⟩ = some (.slice A xs.length c) := by simp [World.cell?, h1]
  have c1 : w.cell? ⟨rb, 1, none⟩ = some (.int .i64 (p : Int)) := by simp [World.cell?, h1]
  have f1 : w.frozen? ⟨rb, 1, none⟩ = false := by simp [World.frozen?, h1]
  have hp : (p : Int) ≤ 1000000 := by omega
  clear h1
  by_cases hn1 : n < 1
  · go_enter Try.func65, Try.ntmps65
    go_wp2
    go_ret
    exact ⟨0, rfl, by decide, .inr rfl, HD.out.1, HD.out.2⟩
  by_cases hl : xs.length = 0
  · have hl0 : ((xs.length : Int) == 0) = true := by simp [hl]
    clear hl
    go_enter Try.func65, Try.ntmps65
    go_wp2
    go_ret
    exact ⟨0, rfl, by decide, .inr rfl, HD.out.1, HD.out.2⟩
  have hl1 : 1 ≤ xs.length := by omega
  have hl0 : ((xs.length : Int) == 0) = false := beq_eq_false_iff_ne.2 (by omega)
  obtain ⟨b, off, rfl, hbr, hcell⟩ : ∃ b off, A = some ⟨b, off, none⟩ ∧ b < rb ∧ ∀ j x, xs[j]? = some x → w.cell? ⟨b, off + j, none⟩ = some (.int .u8 x) := by
    rcases h5 with h5 | h5
    · subst h5; simp at hl1
    · exact h5
  have HC := Lib.hid hcell
  have H4 := Lib.hid h4
  have hnp : 0 < n := by omega
  clear hcell h4 h5 hl hn1
  by_cases hpl : p < xs.length
  · obtain ⟨x, hx⟩ := at_some hpl
    have hc := HC.out p x hx
    have hxb := H4.out x (List.mem_of_getElem? hx)
    have hx0 := hxb.1
    have hx1 := hxb.2
    clear hx hxb
    go_enter Try.func65, Try.ntmps65
    go_wp2
    go_ret
    exact ⟨x % n, rfl, Int.emod_nonneg _ (by omega), .inl (Int.emod_lt_of_pos _ (by omega)), HD.out.1, HD.out.2⟩
  · obtain ⟨L, hL⟩ : ∃ L, L = xs.length := ⟨_, rfl⟩
    have hL1 : 1 ≤ L := by omega
    have hL2 : L ≤ 2000 := by omega
    have hpl' : L ≤ p := by omega
    obtain ⟨i1, hi1⟩ : ∃ i1, i1 = p % L := ⟨_, rfl⟩
    obtain ⟨i2, hi2⟩ : ∃ i2, i2 = (p * 7 + 3) % L := ⟨_, rfl⟩
    obtain ⟨d, hd⟩ : ∃ d, d = p / L := ⟨_, rfl⟩
    have hi1l : i1 < L := by rw [hi1]; exact Nat.mod_lt _ (by omega)
    have hi2l : i2 < L := by rw [hi2]; exact Nat.mod_lt _ (by omega)
    have hdl : d ≤ p := by rw [hd]; exact Nat.div_le_self _ _
    obtain ⟨x1, hx1⟩ := at_some (xs := xs) (k := i1) (by omega)
    obtain ⟨x2, hx2⟩ := at_some (xs := xs) (k := i2) (by omega)
    have hb1 := H4.out x1 (List.mem_of_getElem? hx1)
    have hb2 := H4.out x2 (List.mem_of_getElem? hx2)
    have g1 : (w.setCell ⟨rb, 1, none⟩ (.int .i64 ((p : Int) + 1))).cell? ⟨b, off + i1, none⟩ = some (.int .u8 x1) := by
      rw [World.cell?_setCell_other w ⟨rb, 1, none⟩ ⟨b, off + i1, none⟩ _ (fun e => by injection e with e1; omega)]
      exact HC.out i1 x1 hx1
    have g2 : (w.setCell ⟨rb, 1, none⟩ (.int .i64 ((p : Int) + 1))).cell? ⟨b, off + i2, none⟩ = some (.int .u8 x2) := by
      rw [World.cell?_setCell_other w ⟨rb, 1, none⟩ ⟨b, off + i2, none⟩ _ (fun e => by injection e with e1; omega)]
      exact HC.out i2 x2 hx2
    clear hx1 hx2
    rw [← hL] at c0 hl0
    have hz : ¬ (L : Int) = 0 := by omega
    have z0 : (0 : Int) ≤ (p : Int) := by omega
    have z1 : (L : Int) ≤ (p : Int) := by omega
    obtain ⟨h10, h11⟩ := hb1
    obtain ⟨h20, h21⟩ := hb2
    have e1 : (p : Int).tmod (L : Int) = (i1 : Int) := by rw [Int.tmod_eq_emod_of_nonneg z0, hi1]; exact (Int.natCast_emod p L).symm
    have e2 : IntKind.i64.wrap ((p : Int) * 7) = (p : Int) * 7 := IntWalk.i64_in _ (by omega)
    have e3 : IntKind.i64.wrap ((p : Int) * 7 + 3) = (p : Int) * 7 + 3 := IntWalk.i64_in _ (by omega)
    have e4 : ((p : Int) * 7 + 3).tmod (L : Int) = (i2 : Int) := by
      rw [Int.tmod_eq_emod_of_nonneg (by omega), hi2, Int.natCast_emod]; simp
    have e5 : (p : Int).tdiv (L : Int) = (d : Int) := by rw [Int.tdiv_eq_ediv_of_nonneg z0, hd]; exact (Int.natCast_ediv p L).symm
    have e6 : IntKind.i64.wrap (x1 * 131) = x1 * 131 := IntWalk.i64_in _ (by omega)
    have e7 : IntKind.i64.wrap (x2 * 1117) = x2 * 1117 := IntWalk.i64_in _ (by omega)
    have e8 : IntKind.i64.wrap (x1 * 131 + x2 * 1117) = x1 * 131 + x2 * 1117 := IntWalk.i64_in _ (by omega)
    have e9 : IntKind.i64.wrap ((p : Int) * 29) = (p : Int) * 29 := IntWalk.i64_in _ (by omega)
    have e10 : IntKind.i64.wrap (x1 * 131 + x2 * 1117 + (p : Int) * 29) = x1 * 131 + x2 * 1117 + (p : Int) * 29 := IntWalk.i64_in _ (by omega)
    have e11 : IntKind.i64.wrap ((d : Int) * 53) = (d : Int) * 53 := IntWalk.i64_in _ (by omega)
    obtain ⟨X, hX⟩ := Int.eq_ofNat_of_zero_le (show 0 ≤ x1 * 131 + x2 * 1117 + (p : Int) * 29 + (d : Int) * 53 by omega)
    have hXl : X < 4294967296 := by omega
    have e12 : IntKind.i64.wrap (x1 * 131 + x2 * 1117 + (p : Int) * 29 + (d : Int) * 53) = (X : Int) := by rw [← hX]; exact IntWalk.i64_in _ (by omega)
    obtain ⟨Y, hY⟩ : ∃ Y : Nat, Y = X ^^^ (X / 64) := ⟨_, rfl⟩
    have hxy := xor_i64_nat X (X / 64) hXl (Nat.lt_of_le_of_lt (Nat.div_le_self _ _) hXl)
    rw [← hY] at hxy
    have e15 : bits .xor .i64 (X : Int) ((X : Int) / 64) = (Y : Int) := by rw [← hxy.1]; simp
    have hYl : Y < 4294967296 := hxy.2
    have hXi : (X : Int) ≤ 4294967296 := by omega
    have hYi : (Y : Int) ≤ 4294967296 := by omega
    have e13 : IntKind.i64.wrap x1 = x1 := IntWalk.i64_in _ (by omega)
    have e14 : IntKind.i64.wrap x2 = x2 := IntWalk.i64_in _ (by omega)
    have y1 : (i1 : Int) < (L : Int) := by omega
    have y2 : (i2 : Int) < (L : Int) := by omega
    have y3 : (0 : Int) ≤ (i1 : Int) := by omega
    have y4 : (0 : Int) ≤ (i2 : Int) := by omega
    clear hL hi1 hi2 hd hpl hl1 h3 hX hY hxy
    go_enter Try.func65, Try.ntmps65
    go_wp2
    go_quiet (fail)
    clear e1 e2 e3 e4 e5 e6 e7 e8 e9 e10 e11 e12 e13 e14
    go_wp2
    go_ret
    exact ⟨(Y : Int) % n, rfl, Int.emod_nonneg _ (by omega), .inl (Int.emod_lt_of_pos _ (by omega)), HD.out.1.drewN nq, HD.out.2.trans ⟨rfl, rfl, rfl, Nat.le_refl _, fun _ _ _ => rfl⟩⟩

end Go.Proofs.Ytccbjgajmjcpjab

/-
  The generators of the laws: the contracts of one, of, and of those of bids, kinds and reserves.
-/
namespace Go.Proofs.Ytccbjgajmjcpjab
open Go.RowKit

theorem gb_new {w w1 w2 : World} {rb g : Nat} (h : w.grownBy w1 (some rb)) (h2 : w1.grownBy w2 (some g)) (hg : w.heap.size ≤ g) : w.grownBy w2 (some rb) :=
  ⟨h2.os.trans h.os, h2.tape.trans h.tape, h2.output.trans h.output, Nat.le_trans h.size h2.size, fun k hk hne =>
    (h2.block k (Nat.lt_of_lt_of_le hk h.size) (fun e => by have := Option.some.inj e; omega)).trans (h.block k hk hne)⟩
theorem gb_alloc {w w1 : World} {rb : Nat} (h : w.grownBy w1 (some rb)) (o : Obj) : w.grownBy (w1.alloc o) (some rb) := h.trans (World.grownBy_alloc w1 o (some rb))
theorem gb_drewN {w w1 : World} {rb : Nat} (h : w.grownBy w1 (some rb)) (n : Nat) : w.grownBy (w1.drewN n) (some rb) := h.trans ⟨rfl, rfl, rfl, Nat.le_refl _, fun _ _ _ => rfl⟩
theorem gb_set {w w1 : World} {rb g i : Nat} {v : Value} (h : w.grownBy w1 (some rb)) (hg : w.heap.size ≤ g) : w.grownBy (w1.setCell ⟨g, i, none⟩ v) (some rb) :=
  gb_new (g := g) h ⟨rfl, rfl, rfl, by simp, fun k _ hk => heap_setCell_other w1 ⟨g, i, none⟩ k v (fun e => hk (by simp [e]))⟩ hg
theorem gb_below {w w1 : World} {B rb : Nat} (h : w.grownBy w1 (some rb)) (hB : B ≤ w.heap.size) (hr : B ≤ rb) : Below B w w1 :=
  (Below.refl B w).grown h hB (fun k hk => by have := Option.some.inj hk; omega)

theorem Rdr.alloc {w : World} {rb k : Nat} (h : Rdr w rb k) (o : Obj) : Rdr (w.alloc o) rb k := h.keep (fun g hg => Below.heap_alloc w o g hg)
/-- A reader stays while a block behind it is written. -/
theorem Rdr.grown {w w' : World} {rb k g : Nat} (h : Rdr w rb k) (hg : w.grownBy w' (some g)) (hlt : rb < g) : Rdr w' rb k := by
  have hl := h.lt
  obtain ⟨A, c, p, xs, h1, h2, h3, h4, h5⟩ := h
  refine ⟨A, c, p, xs, (hg.block rb hl (fun e => by have := Option.some.inj e; omega)).trans h1, h2, h3, h4, ?_⟩
  rcases h5 with h5 | ⟨b, off, hA, hb, hc⟩
  · exact .inl h5
  · exact .inr ⟨b, off, hA, hb, fun j x hx => hg.cell (hc j x hx) (fun e => by have := Option.some.inj e; simp at this; omega)⟩
theorem Rdr.set_ {w : World} {rb k g i : Nat} {v : Value} (h : Rdr w rb k) (hlt : rb < g) : Rdr (w.setCell ⟨g, i, none⟩ v) rb k :=
  h.grown (g := g) ⟨rfl, rfl, rfl, by simp, fun k _ hk => heap_setCell_other w ⟨g, i, none⟩ k v (fun e => hk (by simp [e]))⟩ hlt

/-- What one hands back: one of the numbers. -/
def OneIs (w : World) (rb k : Nat) (zs : List Int) (e : Ending) (w' : World) : Prop :=
  ∃ x, x ∈ zs ∧ e = .returned (.int .i64 x) ∧ Rdr w' rb (k + 1) ∧ w.grownBy w' (some rb)

theorem one_any (rb k g c n B : Nat) (zs : List Int) (w : World) (hn : zs.length = n) (h : Rdr w rb k) (ho : Own w B (some ⟨g, 0, none⟩) c zs) (hg : g ≠ rb) (hn1 : 1 ≤ n) (hn2 : n ≤ 1048576) (hk : k ≤ 1000000) :
    Calls Try.prog 135 #[.pointer (some ⟨rb, 0, none⟩), .slice (some ⟨g, 0, none⟩) n c] w (OneIs w rb k zs) := by
  have HN := Lib.hid hn
  clear hn
  go_enter Try.func135, Try.ntmps135
  go_wp2_with fail
  refine (pick_any rb k n w h hk (by omega) (by omega)).mono ?_
  rintro e w1 ⟨m, rfl, hm0, hm1, hr, hgr⟩
  obtain ⟨j, rfl⟩ := Int.eq_ofNat_of_zero_le hm0
  have hj : j < n := by omega
  obtain ⟨x, hx⟩ := at_some (xs := zs) (k := j) (by rw [HN.out]; exact hj)
  have ho1 := ho.kept_ (A2 := some ⟨rb, 0, none⟩) hgr (.inr (fun e => hg (Option.some.inj e)))
  have hc := ho1.cell hx
  have HX := Lib.hid (List.mem_of_getElem? hx)
  clear hx hm1 ho1
  go_wp2
  go_ret
  exact ⟨x, HX.out, rfl, hr, hgr⟩

/-- What of hands back: one of the words. -/
def OfIs (w : World) (rb k : Nat) (ss : List ByteArray) (e : Ending) (w' : World) : Prop :=
  ∃ s, s ∈ ss ∧ e = .returned (.string s) ∧ Rdr w' rb (k + 1) ∧ w.grownBy w' (some rb)

theorem of_any (rb k g c n : Nat) (ss : List ByteArray) (w : World) (hn : ss.length = n) (h : Rdr w rb k) (hc : ∀ j s, ss[j]? = some s → w.cell? ⟨g, j, none⟩ = some (.string s)) (hg : g ≠ rb) (hn1 : 1 ≤ n) (hn2 : n ≤ 1048576) (hk : k ≤ 1000000) :
    Calls Try.prog 182 #[.pointer (some ⟨rb, 0, none⟩), .slice (some ⟨g, 0, none⟩) n c] w (OfIs w rb k ss) := by
  have HN := Lib.hid hn
  have HC := Lib.hid hc
  clear hn hc
  go_enter Try.func182, Try.ntmps182
  go_wp2_with fail
  refine (pick_any rb k n w h hk (by omega) (by omega)).mono ?_
  rintro e w1 ⟨m, rfl, hm0, hm1, hr, hgr⟩
  obtain ⟨j, rfl⟩ := Int.eq_ofNat_of_zero_le hm0
  have hj : j < n := by omega
  obtain ⟨s, hs⟩ : ∃ s, ss[j]? = some s := ⟨_, List.getElem?_eq_getElem (by rw [HN.out]; exact hj)⟩
  have hcell : w1.cell? ⟨g, j, none⟩ = some (.string s) := hgr.cell (HC.out j s hs) (fun e => hg (Option.some.inj e))
  have HX := Lib.hid (List.mem_of_getElem? hs)
  clear hs hm1
  go_wp2
  go_ret
  exact ⟨s, HX.out, rfl, hr, hgr⟩

theorem newReader_any (A : Option Addr) (c : Nat) (xs : List Int) (w : World) (h : Came .u8 w A c xs) :
    Calls Try.prog 64 #[.slice A xs.length c] w fun e w' => ∃ rb, e = .returned (.pointer (some ⟨rb, 0, none⟩)) ∧ w.heap.size ≤ rb ∧ Rdr w' rb 0 ∧ Below w.heap.size w w' := by
  obtain ⟨hc1, hc2, hwf, hcell⟩ := h
  have hb : ∀ x ∈ xs, 0 ≤ x ∧ x ≤ 255 := by
    intro x hx
    have := hwf x hx
    simp only [Lit.wf, Bool.and_eq_true, decide_eq_true_eq] at this
    have h1 : IntKind.u8.min = 0 := rfl
    have h2 : IntKind.u8.max = 255 := rfl
    omega
  have hread : xs = [] ∨ ∃ b off, A = some ⟨b, off, none⟩ ∧ b < w.heap.size ∧ ∀ j x, xs[j]? = some x → w.cell? ⟨b, off + j, none⟩ = some (.int .u8 x) := by
    rcases hcell with ⟨h, _⟩ | ⟨b, off, hA, hc⟩
    · exact .inl h
    · rcases xs with _ | ⟨x0, xt⟩
      · exact .inl rfl
      · refine .inr ⟨b, off, hA, World.block_lt_of_cell? w _ (hc 0 (by simp)), fun j x hx => ?_⟩
        rw [hc j (List.getElem?_eq_some_iff.1 hx).1, hx]; rfl
  have HB := Lib.hid hb
  have HR := Lib.hid hread
  unfold maxLen at hc2
  clear hwf hcell hb hread
  have fin : ∀ (c' : Nat) (n : Nat), n ≤ 2000 → n ≤ xs.length → Rdr (w.alloc (.cells #[.slice A n c', .int .i64 0] 99)) w.heap.size 0 := by
    intro c' n hn hnx
    have hl : (xs.take n).length = n := by simp; omega
    refine ⟨A, c', 0, xs.take n, by rw [hl]; exact heap_alloc_new w _, Nat.le_refl _, by omega, fun x hx => HB.out x (List.mem_of_mem_take hx), ?_⟩
    rcases HR.out with h | ⟨b, off, hA, hbl, hc⟩
    · exact .inl (by rw [h]; simp)
    · refine .inr ⟨b, off, hA, hbl, fun j x hx => ?_⟩
      have hj : j < n := by have := (List.getElem?_eq_some_iff.1 hx).1; omega
      rw [List.getElem?_take_of_lt hj] at hx
      exact (World.cell?_alloc_lt w _ ⟨b, off + j, none⟩ hbl).trans (hc j x hx)
  have HF := Lib.hid fin
  clear fin
  by_cases hl : 2000 < xs.length
  · have hlc : 2000 ≤ c := by omega
    go_enter Try.func64, Try.ntmps64
    go_wp2
    go_ret
    exact ⟨_, rfl, Nat.le_refl _, HF.out c 2000 (by omega) (by omega), (Below.refl _ _).alloc (Nat.le_refl _) _⟩
  · go_enter Try.func64, Try.ntmps64
    go_wp2
    go_ret
    exact ⟨_, rfl, Nat.le_refl _, HF.out c xs.length (by omega) (by omega), (Below.refl _ _).alloc (Nat.le_refl _) _⟩

theorem lit_str (w : World) (ss : List ByteArray) (j : Nat) (s : ByteArray) (h : ss[j]? = some s) :
    (w.alloc (.cells (ss.map Value.string).toArray 9)).cell? ⟨w.heap.size, j, none⟩ = some (.string s) := by
  rw [cell_of_row _ w.heap.size j _ _ _ (heap_alloc_new w _)]
  simp [h]

/-- A word, a reader that has been asked, and what else was there. -/
def WordIs (w : World) (rb k : Nat) (e : Ending) (w' : World) : Prop := ∃ s : ByteArray, e = .returned (.string s) ∧ s.size ≤ 1048576 ∧ Rdr w' rb k ∧ w.grownBy w' (some rb)
def NumIs (w : World) (rb k : Nat) (e : Ending) (w' : World) : Prop := ∃ x : Int, e = .returned (.int .i64 x) ∧ -2147483648 ≤ x ∧ x ≤ 2147483647 ∧ Rdr w' rb k ∧ w.grownBy w' (some rb)
def BidsIs (w : World) (rb k N : Nat) (e : Ending) (w' : World) : Prop :=
  ∃ g c ys, e = .returned (.slice (some ⟨g, 0, none⟩) ys.length c) ∧ Own w' w.heap.size (some ⟨g, 0, none⟩) c ys ∧ ys.length ≤ N ∧ Rdr w' rb k ∧ w.grownBy w' (some rb)

def lenOf : Value → Nat
  | .slice _ n _ => n
  | _ => 0

end Go.Proofs.Ytccbjgajmjcpjab
