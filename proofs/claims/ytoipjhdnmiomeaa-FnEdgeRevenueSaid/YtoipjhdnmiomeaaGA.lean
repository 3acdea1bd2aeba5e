/-
  Words for slices of ints in memory, and the contracts of the exact laws' helpers that copy, compare, mark and hold one.
-/
import Derived.Test.YtoipjhdnmiomeaaProg
import Derived.WalkKit
import Derived.Lib.Hide
import Derived.Deep.QuietTactic
import Derived.BigQuiet
import Derived.Below
import Derived.Outline
import Derived.Deep.DeepFit
import Derived.Maps.AppendAt
import Derived.WalkLawsBesides
import Derived.WalkSpells
import Derived.Laws.AppendOwnNone
import Derived.Deep.AppendLies
import Derived.Deep.RegionLaw
import Derived.Lib.Strings
namespace Go.Proofs.Ytoipjhdnmiomeaa
open Go.RowKit

/-- The slice (A, as long as zs, c) reads as the ints zs. -/
def Rd (w : World) (A : Option Addr) (c : Nat) (zs : List Int) : Prop :=
  (zs = [] ∧ (A = none → c = 0)) ∨ ∃ b off, A = some ⟨b, off, none⟩ ∧ ∀ k, k < zs.length → w.cell? ⟨b, off + k, none⟩ = some (.int .i64 (zs[k]?.getD 0))

/-- The slice (A, as long as zs, c) lies in a block of the call's own, from block B on, and holds the ints zs. -/
def Own (w : World) (B : Nat) (A : Option Addr) (c : Nat) (zs : List Int) : Prop :=
  w.ownsRow B 3 1 (.slice A zs.length c) zs.length (zs.map (Value.int .i64))

/-- The slice (A, as long as xs), which came in with capacity c, reads as the numbers xs of kind k, each fitting it. -/
def Came (k : IntKind) (w : World) (A : Option Addr) (c : Nat) (xs : List Int) : Prop :=
  xs.length ≤ c ∧ c ≤ maxLen ∧ (∀ n ∈ xs, (Lit.int k n).wf = true) ∧
    ((xs = [] ∧ (A = none → c = 0)) ∨ ∃ b off, A = some ⟨b, off, none⟩ ∧ ∀ j, j < xs.length → w.cell? ⟨b, off + j, none⟩ = some (.int k (xs[j]?.getD 0)))

theorem Came.nil (k : IntKind) (w : World) (A : Option Addr) : Came k w A 0 [] := ⟨Nat.zero_le _, Nat.zero_le _, (fun _ h => absurd h (by simp)), .inl ⟨rfl, fun _ => rfl⟩⟩

theorem Came.of {k : IntKind} {w : World} {x : Addr} {len cap : Nat} {zs : List Int} (hl : len ≤ cap) (hm : cap ≤ maxLen) (hz : zs.length = cap)
    (hcell : ∀ i, i < zs.length → w.cell? (x.add i) = some (.int k (zs.getD i 0))) (hwz : ∀ n ∈ zs, (Lit.int k n).wf = true) :
    ∃ xs, len = xs.length ∧ Came k w (some x) cap xs := by
  refine ⟨zs.take len, by simp; omega, by simp; omega, hm, fun n hn => hwz n (List.mem_of_mem_take hn), ?_⟩
  rcases Nat.eq_zero_or_pos len with h0 | h0
  · subst h0; exact .inl ⟨by simp, (fun h => by cases h)⟩
  · obtain ⟨b, off, spot⟩ := x
    have hs : spot = none := by simpa [Addr.add] using World.cell?_spot (hcell 0 (by omega))
    subst hs
    refine .inr ⟨b, off, rfl, fun j hj => ?_⟩
    have hj2 : j < len := by simp at hj; omega
    have := hcell j (by simp at hj; omega)
    rw [show (⟨b, off, none⟩ : Addr).add j = ⟨b, off + j, none⟩ by unfold Addr.add; split <;> simp_all] at this
    rw [this]
    simp [hj2]

theorem Came.rd {w : World} {A : Option Addr} {c : Nat} {xs : List Int} (h : Came .i64 w A c xs) : Rd w A c xs := by
  rcases h.2.2.2 with h | ⟨b, off, hA, hc⟩
  · exact .inl h
  · exact .inr ⟨b, off, hA, hc⟩

theorem Rd.nil (w : World) : Rd w none 0 [] := .inl ⟨rfl, fun _ => rfl⟩

theorem Rd.at_ {w : World} {A : Option Addr} {c : Nat} {zs : List Int} (h : Rd w A c zs) {k : Nat} (hk : k < zs.length) :
    ∃ b off x, A = some ⟨b, off, none⟩ ∧ b < w.heap.size ∧ Hid (zs[k]? = some x) ∧ w.cell? ⟨b, off + k, none⟩ = some (.int .i64 x) := by
  rcases h with ⟨rfl, _⟩ | ⟨b, off, rfl, hc⟩
  · simp at hk
  · have e : zs[k]? = some (zs[k]?.getD 0) := by simp [hk]
    exact ⟨b, off, _, rfl, World.block_lt_of_cell? w _ (hc k hk), e, hc k hk⟩

theorem Rd.below {w w' : World} {A : Option Addr} {c : Nat} {zs : List Int} (h : Rd w A c zs) (hb : Below w.heap.size w w') : Rd w' A c zs := by
  rcases h with h | ⟨b, off, rfl, hc⟩
  · exact .inl h
  · exact .inr ⟨b, off, rfl, fun k hk => (hb.cell (p := ⟨b, off + k, none⟩) (World.block_lt_of_cell? w _ (hc k hk))).trans (hc k hk)⟩

theorem Rd.drewN {w : World} {A : Option Addr} {c : Nat} {zs : List Int} (h : Rd w A c zs) (n : Nat) : Rd (w.drewN n) A c zs := h

theorem below_drewN' {B : Nat} {a w : World} (h : Below B a w) (n : Nat) : Below B a (w.drewN n) := h.trans ⟨rfl, rfl, rfl, Nat.le_refl _, fun _ _ => rfl⟩

theorem own_len {w : World} {B T sz : Nat} {v : Value} {n : Nat} {xs : List Value} (h : w.ownsRow B T sz v n xs) {w' : World} (hb : Below w.heap.size w w') : w'.ownsRow B T sz v n xs := by
  refine ⟨h.1, ?_⟩
  rcases h.2 with h2 | ⟨g, cap, cur, hv, hg, hh, r⟩
  · exact .inl h2
  · exact .inr ⟨g, cap, cur, hv, hg, (hb.block g (lt_of_block hh)).trans hh, r⟩

theorem own_base {w : World} {B B' T sz : Nat} {v : Value} {n : Nat} {xs : List Value} (h : w.ownsRow B T sz v n xs) (hB : B' ≤ B) : w.ownsRow B' T sz v n xs := by
  refine ⟨h.1, ?_⟩
  rcases h.2 with h2 | ⟨g, cap, cur, hv, hg, hh, r⟩
  · exact .inl h2
  · exact .inr ⟨g, cap, cur, hv, Nat.le_trans hB hg, hh, r⟩

theorem Own.below {w w' : World} {B : Nat} {A : Option Addr} {c : Nat} {zs : List Int} (h : Own w B A c zs) (hb : Below w.heap.size w w') : Own w' B A c zs := own_len h hb
theorem Own.base {w : World} {B B' : Nat} {A : Option Addr} {c : Nat} {zs : List Int} (h : Own w B A c zs) (hB : B' ≤ B) : Own w B' A c zs := own_base h hB
theorem Own.drewN {w : World} {B : Nat} {A : Option Addr} {c : Nat} {zs : List Int} (h : Own w B A c zs) (n : Nat) : Own (w.drewN n) B A c zs := h

theorem Own.rd {w : World} {B : Nat} {A : Option Addr} {c : Nat} {zs : List Int} (h : Own w B A c zs) : Rd w A c zs := by
  unfold Own at h
  rcases h.2 with ⟨hv, hn⟩ | ⟨g, cap, cur, hv, _⟩
  · injection hv with _ _ hc
    exact .inl ⟨List.eq_nil_of_length_eq_zero hn, fun _ => hc⟩
  · injection hv with hA _ hc
    subst hA
    refine .inr ⟨g, 0, rfl, fun k hk => ?_⟩
    have := h.cellAt (g := g) (cap := c) k (by omega)
    rw [Nat.zero_add, this]
    simp [hk]

/-- What a call hands back: a slice in a block of its own that holds zs; what was there is as it was. -/
def OutIs (w : World) (zs : List Int) (e : Ending) (w' : World) : Prop :=
  ∃ g cap, e = .returned (.slice (some ⟨g, 0, none⟩) zs.length cap) ∧ Own w' w.heap.size (some ⟨g, 0, none⟩) cap zs ∧ Below w.heap.size w w'

/-- What a call hands back: a bool; the world has drawn, no more. -/
def BoolIs (w : World) (b : Bool) (e : Ending) (w' : World) : Prop := e = .returned (.bool b) ∧ ∃ n, w' = w.drewN n

def eqB (xs ys : List Int) : Bool := decide (xs = ys)

theorem int_info : (Try.prog.info? 3).map (fun i => (i.zero, i.size, i.bytes)) = some (some (.int .i64 0), 1, 8) := by kernel_rfl

/-- zs up to k, noughts behind. -/
def filled (zs : List Int) (k : Nat) : List Int := zs.take k ++ List.replicate (zs.length - k) 0
theorem filled_len (zs : List Int) (k : Nat) (hk : k ≤ zs.length) : (filled zs k).length = zs.length := by simp [filled]; omega
theorem filled_zero (zs : List Int) : filled zs 0 = List.replicate zs.length 0 := by simp [filled]
theorem filled_all (zs : List Int) : filled zs zs.length = zs := by simp [filled]
theorem filled_set (zs : List Int) (k : Nat) (x : Int) (hx : zs[k]? = some x) : (filled zs k).set k x = filled zs (k + 1) := by
  obtain ⟨hk, rfl⟩ := List.getElem?_eq_some_iff.1 hx
  apply List.ext_getElem?
  intro j
  simp only [filled, List.getElem?_set, List.getElem?_append, List.length_append, List.length_take, List.length_replicate, List.getElem?_take, List.getElem?_replicate]
  rcases Nat.lt_trichotomy j k with h | h | h
  · simp [show ¬ k = j by omega, show j < min k zs.length by omega, show j < min (k + 1) zs.length by omega, h, show j < k + 1 by omega]
  · subst h
    simp [show j < min (j + 1) zs.length by omega, show j < min j zs.length + (zs.length - j) by omega, hk]
  · simp [show ¬ k = j by omega, show ¬ j < min k zs.length by omega, show ¬ j < min (k + 1) zs.length by omega]
    have e1 : j - min k zs.length < zs.length - k ↔ j - min (k + 1) zs.length < zs.length - (k + 1) := by omega
    by_cases hh : j - min k zs.length < zs.length - k
    · rw [if_pos hh, if_pos (e1.1 hh)]
    · rw [if_neg hh, if_neg (fun x => hh (e1.2 x))]

set_option maxHeartbeats 400000 in
theorem toIntS_any (A : Option Addr) (c : Nat) (zs : List Int) (w : World) (h : Rd w A c zs) (hl : zs.length ≤ 1099511627776) :
    Calls Try.prog 43 #[.slice A zs.length c] w (OutIs w zs) := by
  obtain ⟨i0, hi, hz0, hz1, hz2⟩ := info_parts int_info
  go_enter Try.func43, Try.ntmps43
  go_wp2_with (at_make; refine wpList_make_full _ rfl _ _ 23 rfl w.heap.size 3 i0 (.int .i64 0) 1 Try.underlying23 hi hz0 hz1 _ _ _ _ zs.length rfl rfl rfl rfl ?b2 ?b3 (Nat.le_refl _) ?_)
  case b2 => rw [hz2]; omega
  case b3 => unfold maxLen; omega
  intro w0 hown0 hgrow0
  have hown1 : w0.ownsRow w.heap.size 3 1 (.slice (some ⟨w.heap.size, 0, none⟩) zs.length zs.length) zs.length ((filled zs 0).map (Value.int .i64)) := by
    rw [filled_zero]; simpa [toList_madeCells_one, Value.cells] using hown0
  have hb0 : Below w.heap.size w w0 := (Below.refl _ _).grown hgrow0 (Nat.le_refl _) (fun k h => by cases h)
  clear hown0 hgrow0
  go_wp2
  go_loopw [4] (fun i wr => ∃ k : Nat, k ≤ zs.length ∧ i = .int .i64 k ∧ wr.ownsRow w.heap.size 3 1 (.slice (some ⟨w.heap.size, 0, none⟩) zs.length zs.length) zs.length ((filled zs k).map (Value.int .i64)) ∧ Below w.heap.size w wr)
    (fun i _ => zs.length - (intOf i).toNat)
  case atStart => exact ⟨0, Nat.zero_le _, rfl, hown1, hb0⟩
  case round =>
    obtain ⟨k, hk, rfl, hown, hb⟩ := hrel
    by_cases hlt : k < zs.length
    · obtain ⟨b, off, x, rfl, hbl, hx, hc⟩ := (h.below hb).at_ hlt
      have hg1 := hown.cellAt k (by omega)
      have hg2 := hown.frozenAt k
      rw [List.getElem?_map, List.getElem?_eq_getElem (by rw [filled_len _ _ hk]; exact hlt)] at hg1
      simp only [Option.map_some] at hg1
      have hst := (hown.stored k (.int .i64 x)).1
      rw [← List.map_set, filled_set zs k x hx.out] at hst
      have HS := Lib.hid hst
      clear hst hown hown1
      go_wp2
      go_roundw
      case rel => exact ⟨k + 1, by omega, by go_num, HS.out, hb.setCell (Nat.le_refl _) _⟩
      case measure => simp [intOf]; omega
    · obtain rfl : k = zs.length := by omega
      rw [filled_all] at hown
      go_wp2
      go_ret
      exact ⟨_, _, rfl, hown, hb⟩

theorem eqB_len {xs ys : List Int} (h : xs.length ≠ ys.length) : eqB xs ys = false := by
  unfold eqB; simp; rintro rfl; exact h rfl
theorem eqB_at {xs ys : List Int} {k : Nat} {x y : Int} (hx : xs[k]? = some x) (hy : ys[k]? = some y) (h : x ≠ y) : eqB xs ys = false := by
  unfold eqB; simp; rintro rfl; rw [hx] at hy; exact h (Option.some.inj hy)
theorem eqB_all {xs ys : List Int} (hl : xs.length = ys.length) (h : xs.take xs.length = ys.take xs.length) : eqB xs ys = true := by
  unfold eqB; simp; rw [List.take_length, hl, List.take_length] at h; exact h
theorem eqB_self (xs : List Int) : eqB xs xs = true := by simp [eqB]
theorem take_step {xs ys : List Int} {k : Nat} {x : Int} (hx : xs[k]? = some x) (hy : ys[k]? = some x) (h : xs.take k = ys.take k) : xs.take (k + 1) = ys.take (k + 1) := by
  rw [List.take_add_one, List.take_add_one, hx, hy, h]

set_option maxHeartbeats 400000 in
theorem eqIntS_any (A B : Option Addr) (c d : Nat) (xs ys : List Int) (w : World) (h1 : Rd w A c xs) (h2 : Rd w B d ys) (hl : xs.length ≤ 1099511627776) :
    Calls Try.prog 45 #[.slice A xs.length c, .slice B ys.length d] w (BoolIs w (eqB xs ys)) := by
  by_cases hlen : xs.length = ys.length
  · have he : ((xs.length : Int) != (ys.length : Int)) = false := by simp [hlen]
    have HL := Lib.hid hlen
    have hle : ys.length ≤ xs.length := by omega
    have hle' : xs.length ≤ ys.length := by omega
    clear hlen
    go_enter Try.func45, Try.ntmps45
    go_wp2
    go_loopw [5] (fun i wr => ∃ k n : Nat, k ≤ xs.length ∧ i = .int .i64 k ∧ wr = w.drewN n ∧ Hid (xs.take k = ys.take k))
      (fun i _ => xs.length - (intOf i).toNat)
    case atStart => exact ⟨0, 0, Nat.zero_le _, rfl, rfl, Lib.hid rfl⟩
    case round =>
      obtain ⟨k, n, hk, rfl, rfl, HT⟩ := hrel
      by_cases hlt : k < xs.length
      · obtain ⟨b1, o1, x, rfl, _, hx, hc1⟩ := h1.at_ hlt
        have hlt2 : k < ys.length := by omega
        obtain ⟨b2, o2, y, rfl, _, hy, hc2⟩ := h2.at_ hlt2
        by_cases hxy : x = y
        · subst hxy
          have hne : (x != x) = false := by simp
          have HT' := Lib.hid (take_step hx.out hy.out HT.out)
          go_wp2
          go_quiet (fail)
          go_wp2
          go_roundw
          case rel => exact ⟨k + 1, _, by omega, by go_num, rfl, HT'⟩
          case measure => simp [intOf]; omega
        · have hne : (x != y) = true := by simpa using hxy
          have HE := Lib.hid (eqB_at hx.out hy.out hxy)
          go_wp2
          go_quiet (fail)
          go_wp2
          go_ret
          exact ⟨by rw [HE.out]; rfl, n + nq, World.drewN_drewN _ _ _⟩
      · obtain rfl : k = xs.length := by omega
        have HE := Lib.hid (eqB_all HL.out HT.out)
        go_wp2
        go_ret
        exact ⟨by rw [HE.out]; rfl, _, rfl⟩
  · have he : ((xs.length : Int) != (ys.length : Int)) = true := by simp; omega
    have HE := Lib.hid (eqB_len hlen)
    go_enter Try.func45, Try.ntmps45
    go_wp2
    go_ret
    exact ⟨by rw [HE.out]; rfl, 0, rfl⟩

/-! ### An append of ints onto a row of the call's own -/

theorem own_empty (w : World) : Own (w.alloc (.cells #[] 3)) w.heap.size (some ⟨w.heap.size, 0, none⟩) 0 [] :=
  World.ownsRow_lit w #[] 0 (Nat.le_refl _) (Nat.zero_le _) rfl
theorem own_none (w : World) (B : Nat) : Own w B none 0 [] := World.ownsRow_nil w B 3 1

theorem own_shape {w : World} {B T n : Nat} {v : Value} {zs : List Int} (h : w.ownsRow B T 1 v n (zs.map (Value.int .i64))) :
    n = zs.length ∧ ((v = .slice none 0 0 ∧ zs = []) ∨ ∃ g c, v = .slice (some ⟨g, 0, none⟩) zs.length c) := by
  have hl := h.1
  simp at hl
  rcases h.2 with ⟨hv, hn⟩ | ⟨g, cap, cur, hv, hg, _⟩
  · exact ⟨hl.symm, .inl ⟨hv, List.eq_nil_of_length_eq_zero (by omega)⟩⟩
  · exact ⟨hl.symm, .inr ⟨g, cap, by rw [hv, hl]⟩⟩

/-- The cells that a slice reads as, as an append asks them. -/
theorem Rd.news {w : World} {ad : Addr} {c : Nat} {zs : List Int} (h : Rd w (some ad) c zs) : ∀ j u, (zs.map (Value.int .i64))[j]? = some u → w.cell? (ad.add j) = some u := by
  intro j u hu
  rcases h with ⟨rfl, _⟩ | ⟨b, off, hA, hc⟩
  · simp at hu
  · have hA := Option.some.inj hA
    have hj : j < zs.length := by
      rcases Nat.lt_or_ge j zs.length with hj | hj
      · exact hj
      · rw [List.getElem?_eq_none (by simpa using hj)] at hu; cases hu
    have e : (⟨b, off, none⟩ : Addr).add j = ⟨b, off + j, none⟩ := by unfold Addr.add; split <;> simp_all
    rw [hA, e, hc j hj]
    rw [List.getElem?_map, List.getElem?_eq_getElem hj] at hu
    simpa [hj] using hu

/-- Which blocks an append onto (A, ..) may have turned: A's own and new ones. -/
def ofA (A : Option Addr) : Option Nat := A.map (·.block)

theorem run_append_ints (ty : TypeId) (w : World) (base : Nat) (A0 : Option Addr) (c0 : Nat) (xs : List Int) (hown : Own w base A0 c0 xs) (A : Option Addr) (c : Nat) (zs : List Int) (hr : Rd w A c zs)
    (hn : xs.length + zs.length ≤ 1099511627776) (hbase : base ≤ w.heap.size) :
    ∃ A' c' w', (Builtin.append_ #[23, 23] ty #[.slice A0 xs.length c0, .slice A zs.length c]).run Try.prog w = .ok (.slice A' (xs.length + zs.length) c') w' ∧
      Own w' base A' c' (xs ++ zs) ∧ w.grownBy w' (ofA A0) ∧ (A0 = none ∨ 0 < zs.length → ∃ g, A' = some ⟨g, 0, none⟩ ∨ zs = []) ∧ (A0 ≠ none → ∃ g, A' = some ⟨g, 0, none⟩) := by
  obtain ⟨i0, hi, hz0, hz1, hz2⟩ := info_parts int_info
  have hA0 : A0 ≠ none → ∃ g, A0 = some ⟨g, 0, none⟩ := by
    intro h
    rcases own_shape hown with ⟨_, ⟨hv, _⟩ | ⟨g, c', hv⟩⟩
    · injection hv with h1; exact absurd h1 h
    · injection hv with h1; exact ⟨g, h1⟩
  have hblk : (Value.slice A0 xs.length c0).ownBlock = ofA A0 := by cases A0 <;> rfl
  cases A with
  | none =>
    obtain ⟨rfl, rfl⟩ : zs = [] ∧ c = 0 := by
      rcases hr with h | ⟨b, off, h, _⟩
      · exact ⟨h.1, h.2 rfl⟩
      · cases h
    refine ⟨A0, c0, w, ?_, by simpa using hown, World.grownBy.refl _ _, fun _ => ⟨0, .inr rfl⟩, hA0⟩
    exact run_append_owned_none (P := Try.prog) (w := w) base 23 ty 3 i0 1 Try.underlying23 hi _ _ _ hown
  | some ad =>
    obtain ⟨v', w', hrun, h2, h3, h4, _⟩ := run_append_own_at (P := Try.prog) w base 23 ty 3 i0 (.int .i64 0) 1 8 Try.underlying23 hi hz0 hz1 hz2 rfl (by decide) (.slice A0 xs.length c0) xs.length (xs.map (Value.int .i64)) hown ad zs.length c (zs.map (Value.int .i64)) (by simp) hr.news (ints_oneCell _ _)
      (by unfold maxLen; omega) (by omega) hbase
    rw [← List.map_append] at h2
    obtain ⟨_, ⟨hv, hz⟩ | ⟨g, c', hv⟩⟩ := own_shape h2
    · have hx : xs = [] ∧ zs = [] := by simpa using hz
      obtain ⟨rfl, rfl⟩ := hx
      have hA := (h4.1 hv).1
      injection hA with hA
      subst hv
      exact ⟨none, 0, w', hrun, h2, hblk ▸ h3, fun _ => ⟨0, .inr rfl⟩, fun h => absurd hA h⟩
    · subst hv
      rw [List.length_append] at hrun h2
      exact ⟨_, c', w', hrun, by unfold Own; rw [List.length_append]; exact h2, hblk ▸ h3, fun _ => ⟨g, .inl rfl⟩, fun _ => ⟨g, rfl⟩⟩

theorem wp_append_ints {o : Oper} {a : Act} {w : World} {K : Act → World → Prop} {Q : Exit → Act → World → Prop} (s x : Operand)
    (ho : o.op = .call { callee := .builtin .append, args := #[s, x], argTypes := #[23, 23] })
    (base g0 : Nat) (c0 : Nat) (xs : List Int) (n : Nat) (hxn : xs.length = n) (hs : a.eval s = .slice (some ⟨g0, 0, none⟩) n c0) (hown : Own w base (some ⟨g0, 0, none⟩) c0 xs)
    (A : Option Addr) (c : Nat) (zs : List Int) (m : Nat) (hzm : zs.length = m) (hx : a.eval x = .slice A m c) (hr : Rd w A c zs)
    (hn : n + m ≤ 1099511627776) (hbase : base ≤ w.heap.size)
    (h : ∀ g c' w', Own w' base (some ⟨g, 0, none⟩) c' (xs ++ zs) → w.grownBy w' (some g0) → K (a.put o.dst (.slice (some ⟨g, 0, none⟩) (n + m) c')) w') : o.wp Try.prog a w K Q := by
  subst hxn hzm
  obtain ⟨A', c', w', hrun, h1, h2, _, h4⟩ := run_append_ints o.type w base (some ⟨g0, 0, none⟩) c0 xs hown A c zs hr hn hbase
  obtain ⟨g, rfl⟩ := h4 (by simp)
  unfold Oper.wp execOp
  simp only [ho, resolve, invoke, builtin, Sem.run_bind, Sem.run_pure, Result.andThen_ok, List.map_toArray, List.map_cons, List.map_nil, hs, hx, hrun]
  exact h g c' w' h1 h2

/-- 'append([]int{}, xs...)': a copy in a block of the call's own. -/
theorem wpList_clone {ops : Array Oper} {rest : List Oper} {o : Oper} {a : Act} {w : World} {Q : Exit → Act → World → Prop} (hgd : o.guard = none) (s x : Operand)
    (ho : o.op = .call { callee := .builtin .append, args := #[s, x], argTypes := #[23, 23] })
    (base g0 : Nat) (hs : a.eval s = .slice (some ⟨g0, 0, none⟩) 0 0) (hown : Own w base (some ⟨g0, 0, none⟩) 0 [])
    (A : Option Addr) (c : Nat) (zs : List Int) (hx : a.eval x = .slice A zs.length c) (hr : Rd w A c zs)
    (hn : zs.length ≤ 1099511627776) (hbase : base ≤ w.heap.size)
    (h : ∀ g c' w', Own w' base (some ⟨g, 0, none⟩) c' zs → Below base w w' → wpList Try.prog ops Q rest (a.put o.dst (.slice (some ⟨g, 0, none⟩) zs.length c')) w') :
    wpList Try.prog ops Q (o :: rest) a w :=
  wpList_plain hgd fun _ hK => wp_append_ints s x ho base g0 0 [] 0 rfl hs hown A c zs zs.length rfl hx hr (by simpa using hn) hbase fun g c' w' h1 h2 => by
    have hg0 : base ≤ g0 := (World.ownsRow.lt hown g0 rfl).1
    rw [Nat.zero_add]
    exact hK _ _ (h g c' w' h1 ((Below.refl base w).grown h2 hbase (fun k hk => by
      have : k = g0 := (Option.some.inj hk).symm
      omega)))

/-- The same two as steps of a region that draws its order. -/
theorem step_append_ints {ops : Array Oper} {o : Oper} {a : Act} {w : World} {K : Act → World → Prop} {Q : Exit → Act → World → Prop} {E : Prop} (hgd : o.guard = none) (s x : Operand)
    (ho : o.op = .call { callee := .builtin .append, args := #[s, x], argTypes := #[23, 23] })
    (base g0 : Nat) (c0 : Nat) (xs : List Int) (n : Nat) (hxn : xs.length = n) (hs : a.eval s = .slice (some ⟨g0, 0, none⟩) n c0) (hown : Own w base (some ⟨g0, 0, none⟩) c0 xs)
    (A : Option Addr) (c : Nat) (zs : List Int) (m : Nat) (hzm : zs.length = m) (hx : a.eval x = .slice A m c) (hr : Rd w A c zs)
    (hn : n + m ≤ 1099511627776) (hbase : base ≤ w.heap.size)
    (h : ∀ g c' w', Own w' base (some ⟨g, 0, none⟩) c' (xs ++ zs) → w.grownBy w' (some g0) → K (a.put o.dst (.slice (some ⟨g, 0, none⟩) (n + m) c')) w') :
    if Region.wanted o (yielded ops a.tmps) = true then Oper.wp Try.prog o a w K Q else E := by
  have hw : Region.wanted o (yielded ops a.tmps) = true := by simp [Region.wanted, hgd]
  rw [if_pos hw]
  exact wp_append_ints s x ho base g0 c0 xs n hxn hs hown A c zs m hzm hx hr hn hbase h

section
variable {w : World} {B g c : Nat} {zs : List Int}
theorem Own.cell (h : Own w B (some ⟨g, 0, none⟩) c zs) {i : Nat} {x : Int} (hx : zs[i]? = some x) : w.cell? ⟨g, i, none⟩ = some (.int .i64 x) := by
  have hi := (List.getElem?_eq_some_iff.1 hx).1
  have := World.ownsRow.cellAt h i (by omega)
  rw [this, List.getElem?_map, hx]; rfl
theorem Own.free (h : Own w B (some ⟨g, 0, none⟩) c zs) (i : Nat) : w.frozen? ⟨g, i, none⟩ = false := World.ownsRow.frozenAt h i
theorem Own.set_ (h : Own w B (some ⟨g, 0, none⟩) c zs) (i : Nat) (x : Int) : Own (w.setCell ⟨g, i, none⟩ (.int .i64 x)) B (some ⟨g, 0, none⟩) c (zs.set i x) := by
  have := (World.ownsRow.stored h i (.int .i64 x)).1
  unfold Own
  rw [List.length_set, List.map_set]
  exact this
theorem Own.ge (h : Own w B (some ⟨g, 0, none⟩) c zs) : B ≤ g := (World.ownsRow.lt h g rfl).1
theorem Own.lt (h : Own w B (some ⟨g, 0, none⟩) c zs) : g < w.heap.size := (World.ownsRow.lt h g rfl).2
end

theorem at_some {xs : List Int} {k : Nat} (hk : k < xs.length) : ∃ x, xs[k]? = some x := ⟨xs[k], List.getElem?_eq_getElem hk⟩
theorem getD_of {xs : List Int} {k : Nat} {x : Int} (h : xs[k]? = some x) : xs.getD k 0 = x := by rw [List.getD_eq_getElem?_getD, h]; rfl

/-- A slice that is not empty: where its cells lie. -/
theorem Rd.open_ {w : World} {A : Option Addr} {c : Nat} {zs : List Int} (h : Rd w A c zs) (hz : 1 ≤ zs.length) :
    ∃ b off, A = some ⟨b, off, none⟩ ∧ ∀ k x, zs[k]? = some x → w.cell? ⟨b, off + k, none⟩ = some (.int .i64 x) := by
  rcases h with ⟨rfl, _⟩ | ⟨b, off, rfl, hc⟩
  · simp at hz
  · refine ⟨b, off, rfl, fun k x hx => ?_⟩
    rw [hc k (List.getElem?_eq_some_iff.1 hx).1, hx]; rfl

theorem Own.cap {w : World} {B g c : Nat} {zs : List Int} (h : Own w B (some ⟨g, 0, none⟩) c zs) : zs.length ≤ c ∧ c ≤ maxLen := by
  rcases h.2 with ⟨hv, _⟩ | ⟨g', cap, cur, hv, _, _, h1, h2, _⟩
  · cases hv
  · injection hv with _ _ hc; subst hc; exact ⟨h1, h2⟩

theorem Rd.take_ {w : World} {b off c c2 : Nat} {zs : List Int} (h : Rd w (some ⟨b, off, none⟩) c zs) (m : Nat) : Rd w (some ⟨b, off, none⟩) c2 (zs.take m) := by
  rcases h with ⟨rfl, _⟩ | ⟨b', off', hA, hc⟩
  · exact .inl ⟨by simp, fun h => by cases h⟩
  · refine .inr ⟨b', off', hA, fun k hk => ?_⟩
    have hk2 : k < m ∧ k < zs.length := by simp at hk; omega
    rw [hc k hk2.2]; simp [hk2.1]

theorem Rd.drop_ {w : World} {b off c c2 : Nat} {zs : List Int} (h : Rd w (some ⟨b, off, none⟩) c zs) (m : Nat) : Rd w (some ⟨b, off + m, none⟩) c2 (zs.drop m) := by
  rcases h with ⟨rfl, _⟩ | ⟨b', off', hA, hc⟩
  · exact .inl ⟨by simp, fun h => by cases h⟩
  · injection hA with hA; injection hA with h1 h2; subst h1; subst h2
    refine .inr ⟨_, _, rfl, fun k hk => ?_⟩
    simp at hk
    have := hc (m + k) (by omega)
    rw [show off + m + k = off + (m + k) by omega, this]; simp

theorem Rd.cut_ {w : World} {b c c2 c' k : Nat} {zs : List Int} (h : Rd w (some ⟨b, 0, none⟩) c zs) (hc : zs.length ≤ c') : Rd w (if c' = k then some ⟨b, 0, none⟩ else some ⟨b, k, none⟩) c2 (zs.drop k) := by
  split
  · exact .inl ⟨List.drop_eq_nil_of_le (by omega), fun h => by cases h⟩
  · have := h.drop_ (c2 := c2) k
    rwa [Nat.zero_add] at this

/-- 'make([]int, n)': n noughts in a block of the call's own. -/
theorem wpList_make_ints {ops : Array Oper} {rest : List Oper} {o : Oper} {a : Act} {w : World} {Q : Exit → Act → World → Prop} (hg : o.guard = none) (l c : Operand)
    (hop : o.op = Op.makeSlice 23 l c) (base n : Nat) (hl : a.eval l = .int .i64 (n : Int)) (hc : a.eval c = .int .i64 (n : Int)) (hn : n ≤ 1099511627776) (hb : base ≤ w.heap.size)
    (hK : ∀ w', Own w' base (some ⟨w.heap.size, 0, none⟩) n (List.replicate n 0) → Below base w w' → wpList Try.prog ops Q rest (a.put o.dst (.slice (some ⟨w.heap.size, 0, none⟩) n n)) w') :
    wpList Try.prog ops Q (o :: rest) a w := by
  obtain ⟨i0, hi, hz0, hz1, hz2⟩ := info_parts int_info
  refine wpList_make_full w hg l c 23 hop base 3 i0 (.int .i64 0) 1 Try.underlying23 hi hz0 hz1 .i64 .i64 n n n hl hc rfl rfl (by rw [hz2]; omega) (by unfold maxLen; omega) hb ?_
  intro w' h1 h2
  refine hK w' ?_ ((Below.refl base w).grown h2 hb (fun k h => by cases h))
  unfold Own
  simpa [toList_madeCells_one, Value.cells] using h1

end Go.Proofs.Ytoipjhdnmiomeaa

/-
  Chapter 1, bids: the contracts of ValidBids, of the program and of the model, and of what they call.
-/
namespace Go.Proofs.Ytoipjhdnmiomeaa
open Go.RowKit

/-- A number in a range. -/
def inR (n lo hi : Int) : Bool := decide (lo ≤ n) && decide (n ≤ hi)
theorem inR_true {n lo hi : Int} : inR n lo hi = true ↔ lo ≤ n ∧ n ≤ hi := by simp [inR]
theorem inR_false {n lo hi : Int} : inR n lo hi = false ↔ ¬ (lo ≤ n ∧ n ≤ hi) := by simp [inR]

/-- Numbers are bids. -/
def vB (xs : List Int) : Bool := inR xs.length 1 6 && xs.all (fun x => inR x 0 30)

theorem inRange_any (n lo hi : Int) (w : World) :
    Calls Try.prog 52 #[.int .i64 n, .int .i64 lo, .int .i64 hi] w fun e w' => e = .returned (.bool (inR n lo hi)) ∧ w = w' := by
  by_cases h1 : lo ≤ n
  · by_cases h2 : n ≤ hi
    · have HE := Lib.hid (inR_true.2 ⟨h1, h2⟩)
      go_enter Try.func52, Try.ntmps52
      go_wp2
      go_ret
      exact ⟨by rw [HE.out]; rfl, rfl⟩
    · have HE := Lib.hid (inR_false.2 (fun h : lo ≤ n ∧ n ≤ hi => h2 h.2))
      go_enter Try.func52, Try.ntmps52
      go_wp2
      go_ret
      exact ⟨by rw [HE.out]; rfl, rfl⟩
  · have HE := Lib.hid (inR_false.2 (fun h : lo ≤ n ∧ n ≤ hi => h1 h.1))
    go_enter Try.func52, Try.ntmps52
    go_wp2
    go_ret
    exact ⟨by rw [HE.out]; rfl, rfl⟩

theorem isBid_any (n : Int) (w : World) :
    Calls Try.prog 88 #[.int .i64 n] w fun e w' => e = .returned (.bool (inR n 0 30)) ∧ w = w' := by
  by_cases h1 : 0 ≤ n
  · by_cases h2 : n ≤ 30
    · have HE := Lib.hid (inR_true.2 ⟨h1, h2⟩)
      go_enter Try.func88, Try.ntmps88
      go_wp2
      go_ret
      exact ⟨by rw [HE.out]; rfl, rfl⟩
    · have HE := Lib.hid (inR_false.2 (fun h : 0 ≤ n ∧ n ≤ 30 => h2 h.2))
      go_enter Try.func88, Try.ntmps88
      go_wp2
      go_ret
      exact ⟨by rw [HE.out]; rfl, rfl⟩
  · have HE := Lib.hid (inR_false.2 (fun h : 0 ≤ n ∧ n ≤ 30 => h1 h.1))
    go_enter Try.func88, Try.ntmps88
    go_wp2
    go_ret
    exact ⟨by rw [HE.out]; rfl, rfl⟩

theorem all_at {xs : List Int} {p : Int → Bool} {k : Nat} {x : Int} (hx : xs[k]? = some x) (h : p x = false) : xs.all p = false := by
  rw [List.all_eq_false]
  exact ⟨x, List.mem_of_getElem? hx, by simp [h]⟩
theorem all_step {xs : List Int} {p : Int → Bool} {k : Nat} {x : Int} (hx : xs[k]? = some x) (h : p x = true) (ht : (xs.take k).all p = true) : (xs.take (k + 1)).all p = true := by
  rw [List.take_add_one, hx]; simp at ht ⊢; exact ⟨ht, h⟩
theorem vB_bad {xs : List Int} (h : xs.all (fun x => inR x 0 30) = false) : vB xs = false := by simp only [vB, h, Bool.and_false]
theorem vB_all {xs : List Int} (h : (xs.take xs.length).all (fun x => inR x 0 30) = true) : vB xs = inR xs.length 1 6 := by
  rw [List.take_length] at h; simp only [vB, h, Bool.and_true]
theorem vB_len {xs : List Int} (h : inR xs.length 1 6 = false) : vB xs = false := by simp only [vB, h, Bool.false_and]

set_option maxHeartbeats 400000 in
theorem ValidBids_any (A : Option Addr) (c : Nat) (xs : List Int) (w : World) (h : Rd w A c xs) (hl : xs.length ≤ 1099511627776) :
    Calls Try.prog 96 #[.slice A xs.length c] w fun e w' => e = .returned (.bool (vB xs)) ∧ w = w' := by
  by_cases h1 : 1 ≤ xs.length
  · by_cases h2 : xs.length ≤ 6
    · have HR := Lib.hid (inR_true (n := (xs.length : Int)) (lo := 1) (hi := 6) |>.2 ⟨by omega, by omega⟩)
      go_enter Try.func96, Try.ntmps96
      go_wp2
      go_loop [15] (fun i => ∃ k : Nat, k ≤ xs.length ∧ i = .int .i64 k ∧ Hid ((xs.take k).all (fun x => inR x 0 30) = true)) (fun i => xs.length - (intOf i).toNat)
      case atStart => exact ⟨0, Nat.zero_le _, rfl, Lib.hid rfl⟩
      case round =>
        obtain ⟨k, hk, rfl, HT⟩ := hrel
        by_cases hlt : k < xs.length
        · obtain ⟨b, off, x, rfl, _, hx, hc⟩ := h.at_ hlt
          go_wp2_with fail
          refine (isBid_any _ _).mono ?_
          rintro e w' ⟨rfl, rfl⟩
          cases hb : inR x 0 30 with
          | true =>
            have HT' := Lib.hid (all_step hx.out hb HT.out)
            clear hb
            go_wp2
            go_round
            case rel => exact ⟨k + 1, by omega, by go_num, HT'⟩
            case measure => simp [intOf]; omega
          | false =>
            have HE := Lib.hid (vB_bad (all_at (p := fun x => inR x 0 30) hx.out hb))
            clear hb
            go_wp2
            go_ret
            exact ⟨by rw [HE.out]; rfl, rfl⟩
        · obtain rfl : k = xs.length := by omega
          have HE := Lib.hid (vB_all HT.out)
          go_wp2
          go_ret
          exact ⟨by rw [HE.out, HR.out]; rfl, rfl⟩
    · have HE := Lib.hid (vB_len (inR_false (n := (xs.length : Int)) (lo := 1) (hi := 6) |>.2 (by omega)))
      go_enter Try.func96, Try.ntmps96
      go_wp2
      go_ret
      exact ⟨by rw [HE.out]; rfl, rfl⟩
  · have HE := Lib.hid (vB_len (inR_false (n := (xs.length : Int)) (lo := 1) (hi := 6) |>.2 (by omega)))
    go_enter Try.func96, Try.ntmps96
    go_wp2
    go_ret
    exact ⟨by rw [HE.out]; rfl, rfl⟩

end Go.Proofs.Ytoipjhdnmiomeaa

/-
  Chapter 1 in plain arithmetic: who has the thing, what all pay, what is gained, by whatever kind.
-/
namespace Go.Proofs.Ytoipjhdnmiomeaa

/-- Of the first k bids the first one of the greatest. -/
def gr (xs : List Int) : Nat → Nat
  | 0 => 0
  | k + 1 => if xs.getD (gr xs k) 0 < xs.getD k 0 then k else gr xs k

theorem gr_one (xs : List Int) : gr xs 1 = 0 := by simp [gr]
theorem gr_lt (xs : List Int) : ∀ k, 1 ≤ k → gr xs k < k
  | 0, h => by omega
  | 1, _ => by simp [gr]
  | k + 2, _ => by
    have := gr_lt xs (k + 1) (by omega)
    rw [gr]; split <;> omega
theorem gr_max (xs : List Int) : ∀ k j, j < k → xs.getD j 0 ≤ xs.getD (gr xs k) 0
  | 0, j, h => by omega
  | k + 1, j, h => by
    rw [gr]
    rcases Nat.lt_or_ge j k with hj | hj
    · have := gr_max xs k j hj
      split <;> omega
    · obtain rfl : j = k := by omega
      split <;> omega
theorem gr_first (xs : List Int) : ∀ k j, j < gr xs k → xs.getD j 0 < xs.getD (gr xs k) 0
  | 0, j, h => by simp [gr] at h
  | k + 1, j, h => by
    rw [gr] at h ⊢
    split at h
    · rename_i hc
      rw [if_pos hc]
      have := gr_max xs k j h
      omega
    · rename_i hc
      rw [if_neg hc]
      exact gr_first xs k j h

/-- The greatest one of all, the next one, and so on, 0 behind the last. -/
def nthG : Nat → List Int → Int
  | _, [] => 0
  | 0, x :: xs => (x :: xs).getD (gr (x :: xs) (xs.length + 1)) 0
  | m + 1, x :: xs => nthG m ((x :: xs).eraseIdx (gr (x :: xs) (xs.length + 1)))

theorem nthG_nil (m : Nat) : nthG m [] = 0 := by cases m <;> rfl
theorem nthG_zero (xs : List Int) : nthG 0 xs = xs.getD (gr xs xs.length) 0 := by cases xs <;> rfl
theorem nthG_succ (m : Nat) (xs : List Int) : nthG (m + 1) xs = nthG m (xs.eraseIdx (gr xs xs.length)) := by
  cases xs with
  | nil => simp [nthG_nil]
  | cons x xs => rfl

/-- Ascending order. -/
def Asc (s : List Int) : Prop := s.Pairwise (· ≤ ·)

theorem asc_last {s : List Int} {M : Int} (h : Asc (s ++ [M])) : ∀ x ∈ s, x ≤ M := by
  unfold Asc at h
  rw [List.pairwise_append] at h
  exact fun x hx => h.2.2 x hx M (by simp)

theorem nth_sorted : ∀ (m : Nat) (xs s : List Int), Asc s → s.Perm xs → m < xs.length → nthG m xs = s.getD (xs.length - 1 - m) 0
  | m, xs, s, ha, hp, hm => by
    have hl := hp.length_eq
    have hg := gr_lt xs xs.length (by omega)
    have hs : s ≠ [] := by rintro rfl; simp at hl; omega
    obtain ⟨s', M, rfl⟩ : ∃ s' M, s = s' ++ [M] := ⟨s.dropLast, s.getLast hs, (List.dropLast_concat_getLast hs).symm⟩
    simp at hl
    have hx : xs.getD (gr xs xs.length) 0 = M := by
      have h1 : xs.getD (gr xs xs.length) 0 ∈ xs := by rw [List.getD_eq_getElem?_getD, List.getElem?_eq_getElem hg]; simp
      have h2 : xs.getD (gr xs xs.length) 0 ≤ M := by
        rcases List.mem_append.1 (hp.mem_iff.2 h1) with h | h
        · exact asc_last ha _ h
        · have := List.mem_singleton.1 h; omega
      have h3 : M ∈ xs := hp.mem_iff.1 (by simp)
      obtain ⟨j, hj, he⟩ := List.getElem_of_mem h3
      have h4 := gr_max xs xs.length j hj
      have h5 : xs.getD j 0 = M := by rw [List.getD_eq_getElem?_getD, List.getElem?_eq_getElem hj]; exact he
      omega
    cases m with
    | zero => rw [nthG_zero, hx, show xs.length - 1 - 0 = s'.length by omega]; simp
    | succ m =>
      have hp' : s'.Perm (xs.eraseIdx (gr xs xs.length)) := by
        have e1 : xs.Perm (M :: xs.eraseIdx (gr xs xs.length)) := by
          have hM : xs[gr xs xs.length] = M := by rw [← hx, List.getD_eq_getElem?_getD, List.getElem?_eq_getElem hg]; rfl
          have h6 : xs = xs.take (gr xs xs.length) ++ M :: xs.drop (gr xs xs.length + 1) := by rw [← hM]; simp
          rw [List.eraseIdx_eq_take_drop_succ]
          exact (List.Perm.of_eq h6).trans List.perm_middle
        have e2 : (s' ++ [M]).Perm (M :: s') := List.perm_append_comm
        exact (List.perm_cons M).1 (e2.symm.trans (hp.trans e1))
      have ha' : Asc s' := by unfold Asc at ha ⊢; rw [List.pairwise_append] at ha; exact ha.1
      have he : (xs.eraseIdx (gr xs xs.length)).length = xs.length - 1 := by rw [List.length_eraseIdx, if_pos hg]
      rw [nthG_succ, nth_sorted m _ s' ha' hp' (by omega), he]
      rw [show xs.length - 1 - 1 - m = xs.length - 1 - (m + 1) by omega, List.getD_eq_getElem?_getD, List.getD_eq_getElem?_getD, List.getElem?_append_left (by omega)]

theorem nthG_behind : ∀ (m : Nat) (xs : List Int), xs.length ≤ m → nthG m xs = 0
  | m, [], _ => nthG_nil m
  | 0, x :: xs, h => by simp at h
  | m + 1, x :: xs, h => by
    have hg := gr_lt (x :: xs) (x :: xs).length (by simp)
    rw [nthG_succ]
    refine nthG_behind m _ ?_
    rw [List.length_eraseIdx, if_pos hg]
    simp at h ⊢
    omega

/-- Who has the thing: the first one of the greatest bids, -1 if this is less than the reserve. -/
def atOf (xs : List Int) (r : Int) : Int := if xs.getD (gr xs xs.length) 0 < r then -1 else gr xs xs.length

/-- What all pay by the kind kd: 1, 2, 3: the price of that rank; 4: all pay. -/
def payOf (kd : Nat) (xs : List Int) (r : Int) : List Int :=
  if kd = 4 then xs
  else if xs.getD (gr xs xs.length) 0 < r then List.replicate xs.length 0
  else (List.replicate xs.length 0).set (gr xs xs.length) (max r (nthG (kd - 1) xs))

theorem payOf_len (kd : Nat) (xs : List Int) (r : Int) : (payOf kd xs r).length = xs.length := by
  unfold payOf; split
  · rfl
  · split <;> simp
theorem payOf_all (xs : List Int) (r : Int) : payOf 4 xs r = xs := by simp [payOf]
theorem payOf_none {kd : Nat} {xs : List Int} {r : Int} (hk : kd ≠ 4) (h : xs.getD (gr xs xs.length) 0 < r) : payOf kd xs r = List.replicate xs.length 0 := by
  rw [payOf, if_neg hk, if_pos h]
theorem payOf_some {kd : Nat} {xs : List Int} {r : Int} (hk : kd ≠ 4) (h : ¬ xs.getD (gr xs xs.length) 0 < r) : payOf kd xs r = (List.replicate xs.length 0).set (gr xs xs.length) (max r (nthG (kd - 1) xs)) := by
  rw [payOf, if_neg hk, if_neg h]
theorem payOf_first {xs : List Int} {r : Int} (h : ¬ xs.getD (gr xs xs.length) 0 < r) : payOf 1 xs r = (List.replicate xs.length 0).set (gr xs xs.length) (xs.getD (gr xs xs.length) 0) := by
  rw [payOf_some (by decide) h, nthG_zero, Int.max_eq_right (by omega)]
theorem atOf_none {xs : List Int} {r : Int} (h : xs.getD (gr xs xs.length) 0 < r) : atOf xs r = -1 := by rw [atOf, if_pos h]
theorem atOf_some {xs : List Int} {r : Int} (h : ¬ xs.getD (gr xs xs.length) 0 < r) : atOf xs r = gr xs xs.length := by rw [atOf, if_neg h]

/-- What the bidder i has of a sale. -/
def gainF (kd : Nat) (xs : List Int) (i : Nat) (v r : Int) : Int := (if atOf xs r = i then v else 0) - (payOf kd xs r).getD i 0

/-- The least one up to k by which g is the greatest, and this. -/
def bestF (g : Nat → Int) : Nat → Nat × Int
  | 0 => (0, g 0)
  | k + 1 => if (bestF g k).2 < g (k + 1) then (k + 1, g (k + 1)) else bestF g k

/-- The first one from k on, of n, of which p holds. -/
def findF (p : Nat → Bool) : Nat → Nat → Option Nat
  | 0, _ => none
  | n + 1, k => if p k then some k else findF p n (k + 1)
theorem findF_yes {p : Nat → Bool} {n k : Nat} (h : p k = true) : findF p (n + 1) k = some k := by rw [findF, if_pos h]
theorem findF_no {p : Nat → Bool} {n k : Nat} (h : p k = false) : findF p (n + 1) k = findF p n (k + 1) := by rw [findF, if_neg (by simp [h])]

/-- Whether the bidder i has the thing with the bid b. -/
def winB (xs : List Int) (i : Nat) (r : Int) (b : Nat) : Bool := decide (atOf (xs.set i b) r = i)
/-- The least bid with which the bidder i has the thing. -/
def leastF (xs : List Int) (i : Nat) (r : Int) : Option Nat := findF (winB xs i r) 31 0
def optN : Option Nat → Int
  | some b => b
  | none => 0

end Go.Proofs.Ytoipjhdnmiomeaa

/-
  Chapter 1, the model: the contracts of greatest and withBid.
-/
namespace Go.Proofs.Ytoipjhdnmiomeaa
open Go.RowKit

theorem withBid_any (A : Option Addr) (c : Nat) (xs : List Int) (i : Nat) (bid : Int) (w : World) (h : Rd w A c xs) (hi : i < xs.length) (hl : xs.length ≤ 1099511627776) :
    Calls Try.prog 92 #[.slice A xs.length c, .int .i64 i, .int .i64 bid] w (OutIs w (xs.set i bid)) := by
  have hb0 := (Below.refl w.heap.size w).alloc (Nat.le_refl _) (.cells #[] 3)
  have h1 := h.below hb0
  obtain ⟨x, hx⟩ := at_some hi
  have HX := Lib.hid hx
  clear hx
  go_enter Try.func92, Try.ntmps92
  go_wp2_with (at_builtin; refine wpList_clone rfl _ _ rfl w.heap.size w.heap.size rfl (own_empty w) A c xs rfl h1 hl hb0.size ?_; intro g c1 w1 ho hb; have hg1 := ho.cell HX.out; have hg2 := ho.free i)
  go_ret
  exact ⟨g, c1, by rw [List.length_set]; rfl, ho.set_ i bid, (hb0.trans hb).setCell ho.ge _⟩

set_option maxHeartbeats 400000 in
theorem greatest_any (A : Option Addr) (c : Nat) (xs : List Int) (w : World) (h : Rd w A c xs) (h1 : 1 ≤ xs.length) (hl : xs.length ≤ 1099511627776) :
    Calls Try.prog 90 #[.slice A xs.length c] w fun e w' => e = .returned (.int .i64 (gr xs xs.length)) ∧ ∃ n, w' = w.drewN n := by
  obtain ⟨b, off, rfl, hcell⟩ := h.open_ h1
  have HC := Lib.hid hcell
  clear hcell h
  go_enter Try.func90, Try.ntmps90
  go_wp2
  go_loopw [3, 4] (fun t i wr => ∃ k m n : Nat, 1 ≤ k ∧ k ≤ xs.length ∧ m < k ∧ i = .int .i64 k ∧ t = .int .i64 m ∧ wr = w.drewN n ∧ Hid (m = gr xs k))
    (fun _ i _ => xs.length - (intOf i).toNat)
  case atStart => exact ⟨1, 0, 0, Nat.le_refl _, h1, by omega, rfl, rfl, rfl, Lib.hid (gr_one xs).symm⟩
  case round =>
    obtain ⟨k, m, n, hk1, hk, hm, rfl, rfl, rfl, HM⟩ := hrel
    by_cases hlt : k < xs.length
    · obtain ⟨x, hx⟩ := at_some hlt
      obtain ⟨y, hy⟩ := at_some (xs := xs) (k := m) (by omega)
      have hc1 := HC.out k x hx
      have hc2 := HC.out m y hy
      have hm2 : m < xs.length := by omega
      by_cases hyx : y < x
      · have HM' : Hid (k = gr xs (k + 1)) := Lib.hid (by rw [gr, ← HM.out, getD_of hx, getD_of hy, if_pos hyx])
        clear hx hy
        go_wp2
        go_quiet (fail)
        go_wp2
        go_roundw
        case rel => exact ⟨k + 1, k, n + nq, by omega, by omega, by omega, by go_num, rfl, by simp, HM'⟩
        case measure => simp [intOf]; omega
      · have HM' : Hid (m = gr xs (k + 1)) := Lib.hid (by rw [gr, ← HM.out, getD_of hx, getD_of hy, if_neg hyx])
        clear hx hy
        go_wp2
        go_quiet (fail)
        go_wp2
        go_roundw
        case rel => exact ⟨k + 1, m, n + nq, by omega, by omega, by omega, by go_num, rfl, by simp, HM'⟩
        case measure => simp [intOf]; omega
    · obtain rfl : k = xs.length := by omega
      go_wp2
      go_ret
      exact ⟨by rw [← HM.out]; rfl, n, rfl⟩

end Go.Proofs.Ytoipjhdnmiomeaa

/-
  Chapter 1, the model: the contract of nth.
-/
namespace Go.Proofs.Ytoipjhdnmiomeaa
open Go.RowKit

theorem greatest_is {m : Nat} (A : Option Addr) (c : Nat) (xs : List Int) (w : World) (hm : m = gr xs xs.length) (h : Rd w A c xs) (h1 : 1 ≤ xs.length) (hl : xs.length ≤ 1099511627776) :
    Calls Try.prog 90 #[.slice A xs.length c] w fun e w' => e = .returned (.int .i64 m) ∧ ∃ n, w' = w.drewN n := by
  rw [hm]; exact greatest_any A c xs w h h1 hl

set_option maxHeartbeats 400000 in
theorem nth_any (A : Option Addr) (c : Nat) (xs : List Int) (n : Nat) (w : World) (h : Rd w A c xs) (hl : xs.length ≤ 1048576) (hn : n ≤ 1048576) :
    Calls Try.prog 91 #[.slice A xs.length c, .int .i64 n] w fun e w' => e = .returned (.int .i64 (nthG n xs)) ∧ Below w.heap.size w w' := by
  have hb0 := (Below.refl w.heap.size w).alloc (Nat.le_refl _) (.cells #[] 3)
  have h1 := h.below hb0
  have hl2 : xs.length ≤ 1099511627776 := by omega
  go_enter Try.func91, Try.ntmps91
  go_wp2_with (at_builtin; refine wpList_clone rfl _ _ rfl w.heap.size w.heap.size rfl (own_empty w) A c xs rfl h1 hl2 hb0.size ?_; intro g c1 w1 ho hb)
  go_loopw [5, 6] (fun v i wr => ∃ (k g c' : Nat) (ys : List Int), k ≤ n ∧ ys.length ≤ xs.length ∧ i = .int .i64 k ∧ v = .slice (some ⟨g, 0, none⟩) ys.length c' ∧ Own wr w.heap.size (some ⟨g, 0, none⟩) c' ys ∧ Below w.heap.size w wr ∧ Hid (nthG (n - k) ys = nthG n xs))
    (fun _ i _ => n + 1 - (intOf i).toNat)
  case atStart => exact ⟨0, g, c1, xs, Nat.zero_le _, Nat.le_refl _, rfl, rfl, ho, hb0.trans hb, Lib.hid rfl⟩
  case round =>
    obtain ⟨k, g, c', ys, hk, hys, rfl, rfl, hown, hbel, HE⟩ := hrel
    have hcap := hown.cap
    by_cases hlen : 1 ≤ ys.length
    · have hgt : (0 : Int) < (ys.length : Int) := by omega
      have hl3 : ys.length ≤ 1099511627776 := by omega
      have hm := gr_lt ys ys.length hlen
      obtain ⟨m, hM⟩ : ∃ m, m = gr ys ys.length := ⟨_, rfl⟩
      have hm' : m < ys.length := by omega
      obtain ⟨x, hx⟩ := at_some hm'
      have hcx := hown.cell hx
      have HX := Lib.hid hx
      have HG := Lib.hid hM
      clear hx hm hM
      by_cases hkn : k = n
      · subst hkn
        have HN : Hid (nthG k xs = x) := Lib.hid (by rw [← HE.out, Nat.sub_self, nthG_zero, ← HG.out, getD_of HX.out])
        go_wp2_with fail
        refine (greatest_is _ _ _ _ HG.out hown.rd hlen hl3).mono ?_
        rintro e w2 ⟨rfl, q, rfl⟩
        go_wp2
        go_ret
        exact ⟨by rw [HN.out]; rfl, below_drewN' hbel q⟩
      · have hne : ((k : Int) == (n : Int)) = false := by simp; omega
        have hk2 : k + 1 ≤ n := by omega
        clear hkn
        go_wp2_with fail
        refine (greatest_is _ _ _ _ HG.out hown.rd hlen hl3).mono ?_
        rintro e w2 ⟨rfl, q, rfl⟩
        have hwm : IntKind.i64.wrap ((m : Int) + 1) = (m : Int) + 1 := IntWalk.i64_in _ (by omega)
        have h01 : (0 : Int) ≤ (m : Int) := by omega
        have h02 : (m : Int) ≤ (c' : Int) := by omega
        have h03 : (0 : Int) ≤ (m : Int) + 1 := by omega
        have h04 : (m : Int) + 1 ≤ (ys.length : Int) := by omega
        have h05 : (ys.length : Int) ≤ (c' : Int) := by omega
        have h07 : m ≤ c' := by omega
        have h08 : m + 1 ≤ ys.length := by omega
        have h09 : ys.length ≤ c' := hcap.1
        have h06 : ((m : Int) + 1).toNat = m + 1 := by omega
        have HO := Lib.hid ((own_empty (wr.drewN (q + 1))).base (B' := w.heap.size) hbel.size)
        have hb1 := (Below.refl (wr.drewN (q + 1)).heap.size (wr.drewN (q + 1))).alloc (Nat.le_refl _) (.cells #[] 3)
        have HR1 := Lib.hid (((hown.rd.take_ (c2 := c') m).drewN (q + 1)).below hb1)
        have HB := Lib.hid (Nat.le_trans hbel.size hb1.size)
        have HT : Hid ((ys.take m).length = m) := Lib.hid (by simp; omega)
        have HT2 : Hid ((ys.drop (m + 1)).length = ys.length - (m + 1)) := Lib.hid (by simp)
        have HB1 : Hid (Below wr.heap.size wr ((wr.drewN (q + 1)).alloc (.cells #[] 3))) := Lib.hid (below_drewN' (Below.refl _ wr) (q + 1) |>.trans hb1)
        have hb1s := HB1.out.size
        clear hb1
        go_wp2_with fail
        go_region_law (first
          | ((refine step_append_ints (by rfl) _ _ (by rfl) w.heap.size _ 0 [] 0 rfl (by rfl) HO.out (some ⟨g, 0, none⟩) _ (ys.take m) m HT.out (by rfl) HR1.out (by omega) HB.out ?_; intro g1 c1' w3 ho3 hg3; have hb3 := HB1.out.grown hg3 hb1s (fun k hk => by cases hk; exact Nat.le_refl _)))
          | ((refine step_append_ints (by rfl) _ _ (by rfl) w.heap.size _ _ (ys.take m) m HT.out (by rfl) ho3 _ _ (ys.drop (m + 1)) (ys.length - (m + 1)) HT2.out (by rfl) ((hown.rd.below hb3).cut_ hcap.1) (by omega) (Nat.le_trans hbel.size hb3.size) ?_; intro g2 c2' w4 ho4 hg4)))
        have hE : ys.eraseIdx m = ys.take m ++ ys.drop (m + 1) := List.eraseIdx_eq_take_drop_succ ys m
        have hEl : (ys.eraseIdx m).length = m + (ys.length - (m + 1)) := by rw [hE]; simp; omega
        have HN2 : Hid (nthG (n - (k + 1)) (ys.eraseIdx m) = nthG n xs) := Lib.hid (by rw [← HE.out, show n - k = n - (k + 1) + 1 by omega, nthG_succ, ← HG.out])
        have hlast : Below w.heap.size w w4 := (hbel.trans (hb3.mono hbel.size)).grown hg4 (Nat.le_trans hbel.size hb3.size) (fun k hk => by cases hk; exact ho3.ge)
        rw [← hE] at ho4
        have HEl := Lib.hid hEl
        clear hE hEl hwm h06
        go_wp2
        go_roundw
        case rel => exact ⟨k + 1, g2, c2', ys.eraseIdx m, hk2, by rw [HEl.out]; omega, by go_num, by rw [HEl.out], ho4, hlast, HN2⟩
        case measure => simp [intOf]; omega
    · have hy : ys = [] := List.eq_nil_of_length_eq_zero (by omega)
      subst hy
      have HN : Hid (nthG n xs = 0) := Lib.hid (by rw [← HE.out, nthG_nil])
      go_wp2
      go_ret
      exact ⟨by rw [HN.out]; rfl, hbel⟩
end Go.Proofs.Ytoipjhdnmiomeaa

/-
  Chapter 1, the model: the contract of sale.
-/
namespace Go.Proofs.Ytoipjhdnmiomeaa
open Go.RowKit

/-- The word s is the kind kd. -/
def KindIs (s : ByteArray) (kd : Nat) : Prop :=
  (kd = 1 ∧ s = ⟨#[102, 105, 114, 115, 116]⟩) ∨ (kd = 2 ∧ s = ⟨#[115, 101, 99, 111, 110, 100]⟩) ∨ (kd = 3 ∧ s = ⟨#[116, 104, 105, 114, 100]⟩) ∨ (kd = 4 ∧ s = ⟨#[97, 108, 108]⟩)

/-- What a sale hands back. -/
def SaleIs (w : World) (xs : List Int) (kd : Nat) (r : Int) (e : Ending) (w' : World) : Prop :=
  ∃ g c, e = .returned (.tuple #[.int .i64 (atOf xs r), .slice (some ⟨g, 0, none⟩) xs.length c]) ∧ Own w' w.heap.size (some ⟨g, 0, none⟩) c (payOf kd xs r) ∧ Below w.heap.size w w'

theorem nth_1 (A : Option Addr) (c : Nat) (xs : List Int) (w : World) (h : Rd w A c xs) (hl : xs.length ≤ 1048576) :
    Calls Try.prog 91 #[.slice A xs.length c, .int .i64 1] w fun e w' => e = .returned (.int .i64 (nthG 1 xs)) ∧ Below w.heap.size w w' := nth_any A c xs 1 w h hl (by decide)
theorem nth_2 (A : Option Addr) (c : Nat) (xs : List Int) (w : World) (h : Rd w A c xs) (hl : xs.length ≤ 1048576) :
    Calls Try.prog 91 #[.slice A xs.length c, .int .i64 2] w fun e w' => e = .returned (.int .i64 (nthG 2 xs)) ∧ Below w.heap.size w w' := nth_any A c xs 2 w h hl (by decide)

set_option maxHeartbeats 2000000 in
theorem sale_any (s : ByteArray) (kd : Nat) (A : Option Addr) (c : Nat) (xs : List Int) (r : Int) (w : World) (hk : KindIs s kd) (h : Rd w A c xs) (h1 : 1 ≤ xs.length) (hl : xs.length ≤ 1048576) :
    Calls Try.prog 69 #[.string s, .slice A xs.length c, .int .i64 r] w (SaleIs w xs kd r) := by
  have hl2 : xs.length ≤ 1099511627776 := by omega
  obtain ⟨m, hM⟩ : ∃ m, m = gr xs xs.length := ⟨_, rfl⟩
  have hm : m < xs.length := by rw [hM]; exact gr_lt xs xs.length h1
  obtain ⟨x, hx⟩ := at_some hm
  obtain ⟨b, off, rfl, hcell⟩ := h.open_ h1
  have hcx := hcell m x hx
  have hX : xs.getD (gr xs xs.length) 0 = x := by rw [← hM, getD_of hx]
  have hbl := World.block_lt_of_cell? w _ hcx
  have HM := Lib.hid hM
  have HX := Lib.hid hX
  clear hX hM hx hcell
  rcases hk with ⟨rfl, rfl⟩ | ⟨rfl, rfl⟩ | ⟨rfl, rfl⟩ | ⟨rfl, rfl⟩
  · by_cases hlt : x < r
    · have HP : Hid (payOf 1 xs r = List.replicate xs.length 0) := Lib.hid (payOf_none (by decide) (by rw [HX.out]; exact hlt))
      have HA : Hid (atOf xs r = -1) := Lib.hid (atOf_none (by rw [HX.out]; exact hlt))
      go_enter Try.func69, Try.ntmps69
      go_wp2_with (at_make; refine wpList_make_ints rfl _ _ rfl w.heap.size xs.length rfl rfl hl2 (Nat.le_refl _) ?_; intro w0 ho hb)
      refine (greatest_is _ _ _ _ HM.out (h.below hb) h1 hl2).mono ?_
      rintro e w2 ⟨rfl, q, rfl⟩
      have hcx' : w0.cell? ⟨b, off + m, none⟩ = some (.int .i64 x) := (hb.cell (p := ⟨b, off + m, none⟩) hbl).trans hcx
      have hz : w0.cell? ⟨w.heap.size, m, none⟩ = some (.int .i64 0) := ho.cell (by simp [hm])
      have hf := ho.free m
      have HS := fun v => (ho.drewN q).set_ m v
      clear HS
      go_wp2
      go_ret2
      exact ⟨_, _, by rw [HA.out]; rfl, by rw [HP.out]; exact ho, below_drewN' hb q⟩
    · have HP : Hid (payOf 1 xs r = (List.replicate xs.length 0).set m x) := Lib.hid (by rw [payOf_first (by rw [HX.out]; exact hlt), HX.out, HM.out])
      have HA : Hid (atOf xs r = m) := Lib.hid (by rw [atOf_some (by rw [HX.out]; exact hlt), HM.out])
      go_enter Try.func69, Try.ntmps69
      go_wp2_with (at_make; refine wpList_make_ints rfl _ _ rfl w.heap.size xs.length rfl rfl hl2 (Nat.le_refl _) ?_; intro w0 ho hb)
      refine (greatest_is _ _ _ _ HM.out (h.below hb) h1 hl2).mono ?_
      rintro e w2 ⟨rfl, q, rfl⟩
      have hcx' : w0.cell? ⟨b, off + m, none⟩ = some (.int .i64 x) := (hb.cell (p := ⟨b, off + m, none⟩) hbl).trans hcx
      have hz : w0.cell? ⟨w.heap.size, m, none⟩ = some (.int .i64 0) := ho.cell (by simp [hm])
      have hf := ho.free m
      have HS := fun v => (ho.drewN q).set_ m v
      have HS' := Lib.hid (HS x)
      clear HS
      go_wp2
      go_ret2
      exact ⟨_, _, by rw [HA.out]; rfl, by rw [HP.out]; exact HS'.out, (below_drewN' hb q).setCell (Nat.le_refl _) _⟩
  · by_cases hlt : x < r
    · have HP : Hid (payOf 2 xs r = List.replicate xs.length 0) := Lib.hid (payOf_none (by decide) (by rw [HX.out]; exact hlt))
      have HA : Hid (atOf xs r = -1) := Lib.hid (atOf_none (by rw [HX.out]; exact hlt))
      go_enter Try.func69, Try.ntmps69
      go_wp2_with (at_make; refine wpList_make_ints rfl _ _ rfl w.heap.size xs.length rfl rfl hl2 (Nat.le_refl _) ?_; intro w0 ho hb)
      refine (greatest_is _ _ _ _ HM.out (h.below hb) h1 hl2).mono ?_
      rintro e w2 ⟨rfl, q, rfl⟩
      have hcx' : w0.cell? ⟨b, off + m, none⟩ = some (.int .i64 x) := (hb.cell (p := ⟨b, off + m, none⟩) hbl).trans hcx
      have hz : w0.cell? ⟨w.heap.size, m, none⟩ = some (.int .i64 0) := ho.cell (by simp [hm])
      have hf := ho.free m
      have HS := fun v => (ho.drewN q).set_ m v
      clear HS
      go_wp2
      go_ret2
      exact ⟨_, _, by rw [HA.out]; rfl, by rw [HP.out]; exact ho, below_drewN' hb q⟩
    · have HP : Hid (payOf 2 xs r = (List.replicate xs.length 0).set m (max r (nthG 1 xs))) := Lib.hid (by rw [payOf_some (by decide) (by rw [HX.out]; exact hlt), HM.out])
      have HA : Hid (atOf xs r = m) := Lib.hid (by rw [atOf_some (by rw [HX.out]; exact hlt), HM.out])
      go_enter Try.func69, Try.ntmps69
      go_wp2_with (at_make; refine wpList_make_ints rfl _ _ rfl w.heap.size xs.length rfl rfl hl2 (Nat.le_refl _) ?_; intro w0 ho hb)
      refine (greatest_is _ _ _ _ HM.out (h.below hb) h1 hl2).mono ?_
      rintro e w2 ⟨rfl, q, rfl⟩
      have hcx' : w0.cell? ⟨b, off + m, none⟩ = some (.int .i64 x) := (hb.cell (p := ⟨b, off + m, none⟩) hbl).trans hcx
      have hz : w0.cell? ⟨w.heap.size, m, none⟩ = some (.int .i64 0) := ho.cell (by simp [hm])
      have hf := ho.free m
      have HS := fun v => (ho.drewN q).set_ m v
      clear HS
      obtain ⟨y, hY⟩ : ∃ y, y = nthG 1 xs := ⟨_, rfl⟩
      have HY := Lib.hid hY
      clear hY
      go_wp2_with fail
      refine (nth_1 _ _ _ _ ((h.below hb).drewN q) hl).mono ?_
      rw [← HY.out]
      rintro e w3 ⟨rfl, hb3⟩
      have hz3 : w3.cell? ⟨w.heap.size, m, none⟩ = some (.int .i64 0) := (hb3.cell (p := ⟨w.heap.size, m, none⟩) ho.lt).trans hz
      have hf3 : w3.frozen? ⟨w.heap.size, m, none⟩ = false := (hb3.frozen (p := ⟨w.heap.size, m, none⟩) ho.lt).trans hf
      have HS' := Lib.hid (fun v => ((ho.drewN q).below hb3).set_ m v)
      go_wp2
      all_goals
        go_ret2
        exact ⟨_, _, by rw [HA.out]; rfl, by rw [HP.out, ← HY.out]; first | (rw [Int.max_eq_left (by omega)]; exact HS'.out _) | (rw [Int.max_eq_right (by omega)]; exact HS'.out _), ((below_drewN' hb q).trans (hb3.mono hb.size)).setCell (Nat.le_refl _) _⟩
  · by_cases hlt : x < r
    · have HP : Hid (payOf 3 xs r = List.replicate xs.length 0) := Lib.hid (payOf_none (by decide) (by rw [HX.out]; exact hlt))
      have HA : Hid (atOf xs r = -1) := Lib.hid (atOf_none (by rw [HX.out]; exact hlt))
      go_enter Try.func69, Try.ntmps69
      go_wp2_with (at_make; refine wpList_make_ints rfl _ _ rfl w.heap.size xs.length rfl rfl hl2 (Nat.le_refl _) ?_; intro w0 ho hb)
      refine (greatest_is _ _ _ _ HM.out (h.below hb) h1 hl2).mono ?_
      rintro e w2 ⟨rfl, q, rfl⟩
      have hcx' : w0.cell? ⟨b, off + m, none⟩ = some (.int .i64 x) := (hb.cell (p := ⟨b, off + m, none⟩) hbl).trans hcx
      have hz : w0.cell? ⟨w.heap.size, m, none⟩ = some (.int .i64 0) := ho.cell (by simp [hm])
      have hf := ho.free m
      have HS := fun v => (ho.drewN q).set_ m v
      clear HS
      go_wp2
      go_ret2
      exact ⟨_, _, by rw [HA.out]; rfl, by rw [HP.out]; exact ho, below_drewN' hb q⟩
    · have HP : Hid (payOf 3 xs r = (List.replicate xs.length 0).set m (max r (nthG 2 xs))) := Lib.hid (by rw [payOf_some (by decide) (by rw [HX.out]; exact hlt), HM.out])
      have HA : Hid (atOf xs r = m) := Lib.hid (by rw [atOf_some (by rw [HX.out]; exact hlt), HM.out])
      go_enter Try.func69, Try.ntmps69
      go_wp2_with (at_make; refine wpList_make_ints rfl _ _ rfl w.heap.size xs.length rfl rfl hl2 (Nat.le_refl _) ?_; intro w0 ho hb)
      refine (greatest_is _ _ _ _ HM.out (h.below hb) h1 hl2).mono ?_
      rintro e w2 ⟨rfl, q, rfl⟩
      have hcx' : w0.cell? ⟨b, off + m, none⟩ = some (.int .i64 x) := (hb.cell (p := ⟨b, off + m, none⟩) hbl).trans hcx
      have hz : w0.cell? ⟨w.heap.size, m, none⟩ = some (.int .i64 0) := ho.cell (by simp [hm])
      have hf := ho.free m
      have HS := fun v => (ho.drewN q).set_ m v
      clear HS
      obtain ⟨y, hY⟩ : ∃ y, y = nthG 2 xs := ⟨_, rfl⟩
      have HY := Lib.hid hY
      clear hY
      go_wp2_with fail
      refine (nth_2 _ _ _ _ ((h.below hb).drewN q) hl).mono ?_
      rw [← HY.out]
      rintro e w3 ⟨rfl, hb3⟩
      have hz3 : w3.cell? ⟨w.heap.size, m, none⟩ = some (.int .i64 0) := (hb3.cell (p := ⟨w.heap.size, m, none⟩) ho.lt).trans hz
      have hf3 : w3.frozen? ⟨w.heap.size, m, none⟩ = false := (hb3.frozen (p := ⟨w.heap.size, m, none⟩) ho.lt).trans hf
      have HS' := Lib.hid (fun v => ((ho.drewN q).below hb3).set_ m v)
      go_wp2
      all_goals
        go_ret2
        exact ⟨_, _, by rw [HA.out]; rfl, by rw [HP.out, ← HY.out]; first | (rw [Int.max_eq_left (by omega)]; exact HS'.out _) | (rw [Int.max_eq_right (by omega)]; exact HS'.out _), ((below_drewN' hb q).trans (hb3.mono hb.size)).setCell (Nat.le_refl _) _⟩
  · by_cases hlt : x < r
    · have HP : Hid (payOf 4 xs r = xs) := Lib.hid (payOf_all xs r)
      have HA : Hid (atOf xs r = -1) := Lib.hid (atOf_none (by rw [HX.out]; exact hlt))
      go_enter Try.func69, Try.ntmps69
      go_wp2_with (at_make; refine wpList_make_ints rfl _ _ rfl w.heap.size xs.length rfl rfl hl2 (Nat.le_refl _) ?_; intro w0 ho hb)
      refine (greatest_is _ _ _ _ HM.out (h.below hb) h1 hl2).mono ?_
      rintro e w2 ⟨rfl, q, rfl⟩
      have hcx' : w0.cell? ⟨b, off + m, none⟩ = some (.int .i64 x) := (hb.cell (p := ⟨b, off + m, none⟩) hbl).trans hcx
      have _hz : w0.cell? ⟨w.heap.size, m, none⟩ = some (.int .i64 0) := ho.cell (by simp [hm])
      have _hf := ho.free m
      have hb1 := (Below.refl (w0.drewN q).heap.size (w0.drewN q)).alloc (Nat.le_refl _) (.cells #[] 3)
      have h2 := ((h.below hb).drewN q).below hb1
      have hs1 : (w0.drewN q).heap.size ≤ ((w0.drewN q).alloc (.cells #[] 3)).heap.size := hb1.size
      have HO := Lib.hid (own_empty (w0.drewN q))
      have hB : Below w.heap.size w ((w0.drewN q).alloc (.cells #[] 3)) := (below_drewN' hb q).trans (hb1.mono hb.size)
      clear ho
      go_wp2_with (at_builtin; refine wpList_clone rfl _ _ rfl (w0.drewN q).heap.size (w0.drewN q).heap.size rfl HO.out _ _ xs rfl h2 hl2 hs1 ?_; intro g3 c3 w3 ho3 hb3)
      go_ret2
      exact ⟨_, _, by rw [HA.out]; rfl, by rw [HP.out]; exact ho3.base hb.size, hB.trans (hb3.mono hb.size)⟩
    · have HP : Hid (payOf 4 xs r = xs) := Lib.hid (payOf_all xs r)
      have HA : Hid (atOf xs r = m) := Lib.hid (by rw [atOf_some (by rw [HX.out]; exact hlt), HM.out])
      go_enter Try.func69, Try.ntmps69
      go_wp2_with (at_make; refine wpList_make_ints rfl _ _ rfl w.heap.size xs.length rfl rfl hl2 (Nat.le_refl _) ?_; intro w0 ho hb)
      refine (greatest_is _ _ _ _ HM.out (h.below hb) h1 hl2).mono ?_
      rintro e w2 ⟨rfl, q, rfl⟩
      have hcx' : w0.cell? ⟨b, off + m, none⟩ = some (.int .i64 x) := (hb.cell (p := ⟨b, off + m, none⟩) hbl).trans hcx
      have _hz : w0.cell? ⟨w.heap.size, m, none⟩ = some (.int .i64 0) := ho.cell (by simp [hm])
      have _hf := ho.free m
      have hb1 := (Below.refl (w0.drewN q).heap.size (w0.drewN q)).alloc (Nat.le_refl _) (.cells #[] 3)
      have h2 := ((h.below hb).drewN q).below hb1
      have hs1 : (w0.drewN q).heap.size ≤ ((w0.drewN q).alloc (.cells #[] 3)).heap.size := hb1.size
      have HO := Lib.hid (own_empty (w0.drewN q))
      have hB : Below w.heap.size w ((w0.drewN q).alloc (.cells #[] 3)) := (below_drewN' hb q).trans (hb1.mono hb.size)
      clear ho
      go_wp2_with (at_builtin; refine wpList_clone rfl _ _ rfl (w0.drewN q).heap.size (w0.drewN q).heap.size rfl HO.out _ _ xs rfl h2 hl2 hs1 ?_; intro g3 c3 w3 ho3 hb3)
      go_ret2
      exact ⟨_, _, by rw [HA.out]; rfl, by rw [HP.out]; exact ho3.base hb.size, hB.trans (hb3.mono hb.size)⟩

end Go.Proofs.Ytoipjhdnmiomeaa

/-
  Chapter 1, the model: the contracts of validKind, SaleBy, validWho, gain, LeastToWin, GainOf and BestBid.
-/
namespace Go.Proofs.Ytoipjhdnmiomeaa
open Go.RowKit

/-- The word s is no kind. -/
def NoKind (s : ByteArray) : Prop :=
  (s.toList == [102, 105, 114, 115, 116]) = false ∧ (s.toList == [115, 101, 99, 111, 110, 100]) = false ∧ (s.toList == [116, 104, 105, 114, 100]) = false ∧ (s.toList == [97, 108, 108]) = false

theorem bytes_of_list {s : ByteArray} {l : List UInt8} (h : s.toList = l) : s = ⟨l.toArray⟩ := by
  rw [Lib.toList_data] at h
  obtain ⟨d⟩ := s
  subst h
  rfl

theorem kind_cases (s : ByteArray) : (∃ kd, KindIs s kd) ∨ NoKind s := by
  by_cases h1 : s.toList = [102, 105, 114, 115, 116]
  · exact .inl ⟨1, .inl ⟨rfl, bytes_of_list h1⟩⟩
  by_cases h2 : s.toList = [115, 101, 99, 111, 110, 100]
  · exact .inl ⟨2, .inr (.inl ⟨rfl, bytes_of_list h2⟩)⟩
  by_cases h3 : s.toList = [116, 104, 105, 114, 100]
  · exact .inl ⟨3, .inr (.inr (.inl ⟨rfl, bytes_of_list h3⟩))⟩
  by_cases h4 : s.toList = [97, 108, 108]
  · exact .inl ⟨4, .inr (.inr (.inr ⟨rfl, bytes_of_list h4⟩))⟩
  exact .inr ⟨by simpa using h1, by simpa using h2, by simpa using h3, by simpa using h4⟩

/-- Among the bids xs there is a bidder i. -/
def wB (xs : List Int) (i : Int) : Bool := vB xs && inR i 0 (xs.length - 1)

theorem vB_le {xs : List Int} (h : vB xs = true) : 1 ≤ xs.length ∧ xs.length ≤ 6 := by
  simp only [vB, Bool.and_eq_true, inR_true] at h; omega

/-- What SaleBy hands back where the kind, the bids or the reserve are none. -/
def NoSale (e : Ending) : Prop := e = .returned (.tuple #[.int .i64 (-1), .slice none 0 0])

end Go.Proofs.Ytoipjhdnmiomeaa
