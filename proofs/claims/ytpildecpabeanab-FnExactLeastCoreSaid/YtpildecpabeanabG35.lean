/-
  Chapter 6: the program's JoinTables.
-/
import Derived.Test.YtpildecpabeanabJl
import Derived.Test.YtpildecpabeanabG34
import Derived.Test.YtpildecpabeanabG01
import Derived.Test.YtpildecpabeanabG28
namespace Go.Proofs.Ytpildecpabeanab
open Go.RowKit

/-- What is handed back for the joined table l. -/
def JtIs (w : World) (l : List Int) (e : Ending) (w' : World) : Prop := Below w.heap.size w w' ∧ ((vt l = true ∧ ∃ M, e = .returned (.slice (some ⟨M, 0, none⟩) 8 8) ∧ w.heap.size ≤ M ∧ Arr w' M l) ∨ (vt l = false ∧ e = .returned (.slice none 0 0)))
end Go.Proofs.Ytpildecpabeanab

/-
  Chapter 6: JoinTables: both sides at whatever arguments; a table of one's own that is marked.
-/
namespace Go.Proofs.Ytpildecpabeanab
open Go.RowKit

theorem grown_set (w : World) (M j : Nat) (v : Value) : w.grownBy (w.setCell ⟨M, j, none⟩ v) (some M) :=
  ⟨rfl, rfl, rfl, by simp [World.setCell], fun i _ hne => Below.heap_setCell w ⟨M, j, none⟩ v i (fun e => hne (by show some i = some M; rw [e]))⟩

set_option maxHeartbeats 400000 in
theorem markArr_any (M : Nat) (xs : List Int) (k : Int) (w : World) (h : Arr w M xs) (hk0 : 0 ≤ k) (hk1 : k ≤ 1099511627776) :
    Calls Try.prog 25 #[.slice (some ⟨M, 0, none⟩) xs.length 8, .int .i64 k] w fun e w' => e = .returned (.int .i64 (k + xs.length)) ∧ Arr w' M (upF k xs.length) ∧ w.grownBy w' (some M) := by
  have h8 := h.1
  go_enter Try.func25, Try.ntmps25
  go_wp2
  go_loopw [1, 5] (fun q i wr => ∃ j : Nat, j ≤ xs.length ∧ i = .int .i64 j ∧ q = .int .i64 (k + j) ∧ Hid (Arr wr M (markd k xs j) ∧ w.grownBy wr (some M)))
    (fun _ i _ => xs.length - (intOf i).toNat)
  case atStart => exact ⟨0, Nat.zero_le _, rfl, by simp, Lib.hid ⟨by rw [markd_zero]; exact h, World.grownBy.refl _ _⟩⟩
  case round =>
    obtain ⟨j, hj, rfl, rfl, HO⟩ := hrel
    by_cases hlt : j < xs.length
    · have hz := HO.out.1
      have hc := hz.cell (k := j) (by omega)
      have hf := hz.free j
      obtain ⟨x, hx⟩ : ∃ x, x = T (markd k xs j) j := ⟨_, rfl⟩
      rw [← hx] at hc
      have HS : Hid (Arr (wr.setCell ⟨M, j, none⟩ (.int .i64 (k + j))) M (markd k xs (j + 1)) ∧ w.grownBy (wr.setCell ⟨M, j, none⟩ (.int .i64 (k + j))) (some M)) := Lib.hid (by
        have h1 := hz.set_ (k := j) (k + j)
        rw [markd_set k xs j hlt] at h1
        exact ⟨h1, HO.out.2.trans (grown_set wr M j _)⟩)
      have hl8 : xs.length ≤ 8 := by omega
      clear hz hx h h8
      go_wp2
      go_roundw
      case rel => exact ⟨j + 1, by omega, by go_num, by go_num, HS⟩
      case measure => simp [intOf]; omega
    · obtain rfl : j = xs.length := by omega
      go_wp2
      go_ret
      exact ⟨rfl, by rw [← markd_all]; exact HO.out.1, HO.out.2⟩

/-- A slice of the call's own, or a table of its own that is sliced. -/
def Own2 (w : World) (B : Nat) (A : Option Addr) (c : Nat) (zs : List Int) : Prop := Own w B A c zs ∨ ∃ M, A = some ⟨M, 0, none⟩ ∧ c = 8 ∧ B ≤ M ∧ Arr w M zs
theorem Own2.rd {w : World} {B : Nat} {A : Option Addr} {c : Nat} {zs : List Int} (h : Own2 w B A c zs) : Rd w A c zs := by
  rcases h with h | ⟨M, rfl, rfl, _, h⟩
  · exact h.rd
  · exact h.rd 8
theorem Own2.below {w w' : World} {B : Nat} {A : Option Addr} {c : Nat} {zs : List Int} (h : Own2 w B A c zs) (hb : Below w.heap.size w w') : Own2 w' B A c zs := by
  rcases h with h | ⟨M, rfl, rfl, hB, h⟩
  · exact .inl (h.below hb)
  · exact .inr ⟨M, rfl, rfl, hB, h.keep (hb.block _ h.lt)⟩
theorem Own2.drewN {w : World} {B : Nat} {A : Option Addr} {c : Nat} {zs : List Int} (h : Own2 w B A c zs) (n : Nat) : Own2 (w.drewN n) B A c zs := h
theorem Own2.base {w : World} {B B' : Nat} {A : Option Addr} {c : Nat} {zs : List Int} (h : Own2 w B A c zs) (hB : B' ≤ B) : Own2 w B' A c zs := by
  rcases h with h | ⟨M, rfl, rfl, hM, h⟩
  · exact .inl (h.base hB)
  · exact .inr ⟨M, rfl, rfl, Nat.le_trans hB hM, h⟩
theorem Own2.blk {w : World} {B k : Nat} {A : Option Addr} {c : Nat} {xs : List Int} (h : Own2 w B A c xs) (hk : ofA A = some k) : B ≤ k ∧ k < w.heap.size := by
  rcases h with h | ⟨M, rfl, rfl, hM, h⟩
  · exact own_blk h hk
  · obtain rfl : M = k := by simpa [ofA] using hk
    exact ⟨hM, h.lt⟩
theorem Own2.apart {wa wb : World} {B1 B2 : Nat} {A1 A2 : Option Addr} {c1 c2 : Nat} {xs ys : List Int} (h1 : Own2 wa B1 A1 c1 xs) (h2 : Own2 wb B2 A2 c2 ys) (hlt : wa.heap.size ≤ B2) : (ofA A1 = none ∨ ofA A1 ≠ ofA A2) ∧ (ofA A2 = none ∨ ofA A2 ≠ ofA A1) := by
  have e : ∀ k, ofA A1 = some k → ofA A2 = some k → False := fun _ hk1 hk2 => by
    have l1 := (h1.blk hk1).2
    have l2 := (h2.blk hk2).1
    omega
  constructor
  · rcases hA : ofA A1 with _ | k
    · exact .inl rfl
    · exact .inr (fun hh => e k hA hh.symm)
  · rcases hA : ofA A2 with _ | k
    · exact .inl rfl
    · exact .inr (fun hh => e k hh.symm hA)
theorem Own2.kept_ {w w' : World} {B : Nat} {A A2 : Option Addr} {c : Nat} {xs : List Int} (h : Own2 w B A c xs) (hg : w.grownBy w' (ofA A2)) (hne : ofA A = none ∨ ofA A ≠ ofA A2) : Own2 w' B A c xs := by
  rcases h with h | ⟨M, rfl, rfl, hM, h⟩
  · exact .inl (Own.kept_ h hg hne)
  · exact .inr ⟨M, rfl, rfl, hM, h.keep (hg.block _ h.lt (fun e => by
      rcases hne with h1 | h1
      · cases h1
      · exact h1 e))⟩
theorem Own2.grownBelow0 {w w' wa : World} {B : Nat} {A0 : Option Addr} {c0 : Nat} {xs : List Int} (hb : Below B wa w) (ho : Own2 w B A0 c0 xs) (hs : B ≤ w.heap.size) (hg : w.grownBy w' (ofA A0)) : Below B wa w' :=
  hb.grown hg hs (fun _ hk => (ho.blk hk).1)
theorem markIntS2_any (A : Option Addr) (c : Nat) (xs : List Int) (k : Int) (B : Nat) (w : World) (h : Own2 w B A c xs) (hl : xs.length ≤ 1099511627776) (hk0 : 0 ≤ k) (hk1 : k ≤ 1099511627776) :
    Calls Try.prog 25 #[.slice A xs.length c, .int .i64 k] w fun e w' => e = .returned (.int .i64 (k + xs.length)) ∧ Own2 w' B A c (upF k xs.length) ∧ w.grownBy w' (ofA A) := by
  rcases h with h | ⟨M, rfl, rfl, hM, h⟩
  · exact (markIntS_any A c xs k B w h hl hk0 hk1).mono fun e w' ⟨h1, h2, h3⟩ => ⟨h1, .inl h2, h3⟩
  · exact (markArr_any M xs k w h hk0 hk1).mono fun e w' ⟨h1, h2, h3⟩ => ⟨h1, .inr ⟨M, rfl, rfl, hM, h2⟩, h3⟩
def Own2Is (w : World) (zs : List Int) (e : Ending) (w' : World) : Prop := ∃ A c, e = .returned (.slice A zs.length c) ∧ Own2 w' w.heap.size A c zs ∧ Below w.heap.size w w'

theorem sv_one {t : List Int} (h : VT t) {x : Nat} (hx : x < 8) : sv [t] x = T t x := by
  have a := h.all
  obtain ⟨e0, e1, e2, e3, e4, e5, e6, e7⟩ := subs_vals
  apply Int.le_antisymm
  · refine mx_le (h.bd hx).1 (fun s hs => ?_)
    simp only [sv]
    rcases nat8 hx with rfl | rfl | rfl | rfl | rfl | rfl | rfl | rfl
    · rw [e0] at hs; simp at hs; subst hs; omega
    · rw [e1] at hs; simp at hs; rcases hs with rfl | rfl <;> omega
    · rw [e2] at hs; simp at hs; rcases hs with rfl | rfl <;> omega
    · rw [e3] at hs; simp at hs; rcases hs with rfl | rfl | rfl | rfl <;> omega
    · rw [e4] at hs; simp at hs; rcases hs with rfl | rfl <;> omega
    · rw [e5] at hs; simp at hs; rcases hs with rfl | rfl | rfl | rfl <;> omega
    · rw [e6] at hs; simp at hs; rcases hs with rfl | rfl | rfl | rfl <;> omega
    · rw [e7] at hs; simp at hs; rcases hs with rfl | rfl | rfl | rfl | rfl | rfl | rfl | rfl <;> omega
  · have h1 := le_mx (f := fun s => T t s + sv [] (x - s)) (sub_self hx)
    simp only [sv] at h1 ⊢
    omega
theorem jnT_tg {a b : List Int} (_ha : VT a) (hb : VT b) : jnT a b = tg (T a) (T b) := ext8 (jnT_len a b) (tg_len _ _) (fun x hx => by
  rw [T_of (jnT_at a b hx), tg_at _ _ hx]
  exact mx_congr (fun s hs => by rw [sv_one hb (by omega)]))
/-- What JoinTables hands back. -/
noncomputable def joF (a b : List Int) : List Int := @ite _ (VT a ∧ VT b ∧ VT (jnT a b)) (Classical.propDecidable _) (jnT a b) []
theorem joF_yes {a b : List Int} (h : VT a ∧ VT b ∧ VT (jnT a b)) : joF a b = jnT a b := by unfold joF; rw [if_pos h]
theorem joF_no {a b : List Int} (h : ¬ (VT a ∧ VT b ∧ VT (jnT a b))) : joF a b = [] := by unfold joF; rw [if_neg h]
theorem joF_len (a b : List Int) : (joF a b).length ≤ 8 := by
  by_cases h : VT a ∧ VT b ∧ VT (jnT a b)
  · rw [joF_yes h, jnT_len]; omega
  · rw [joF_no h]; simp

end Go.Proofs.Ytpildecpabeanab

/-
  Chapter 6: what stays in demand, by the model: KeepsDemand.
-/
namespace Go.Proofs.Ytpildecpabeanab
open Go.RowKit

/-- All of the things of s that are in m are in y. -/
def covB (m : Nat) (s y : Int) : Bool := ((s.toNat &&& m) - (s.toNat &&& m &&& y.toNat)) == 0
def anyTo (m : Nat) (s : Int) (L : List Int) (k : Nat) : Bool := (L.take k).any (covB m s)
def allTo (m : Nat) (L O : List Int) (k : Nat) : Bool := (O.take k).all (fun s => L.any (covB m s))
theorem anyTo_zero (m : Nat) (s : Int) (L : List Int) : anyTo m s L 0 = false := by simp [anyTo]
theorem anyTo_step {m : Nat} {s y : Int} {L : List Int} {k : Nat} (h : L[k]? = some y) : anyTo m s L (k + 1) = (anyTo m s L k || covB m s y) := by
  unfold anyTo; rw [List.take_add_one, h, List.any_append]; simp
theorem anyTo_all (m : Nat) (s : Int) (L : List Int) : anyTo m s L L.length = L.any (covB m s) := by unfold anyTo; rw [List.take_length]
theorem allTo_zero (m : Nat) (L O : List Int) : allTo m L O 0 = true := by simp [allTo]
theorem allTo_step {m : Nat} {s : Int} {L O : List Int} {k : Nat} (h : O[k]? = some s) : allTo m L O (k + 1) = (allTo m L O k && L.any (covB m s)) := by
  unfold allTo; rw [List.take_add_one, h, List.all_append]; simp
theorem allTo_no {m : Nat} {s : Int} {L O : List Int} {k : Nat} (h : O[k]? = some s) (hn : L.any (covB m s) = false) : allTo m L O O.length = false := by
  unfold allTo; rw [List.take_length, List.all_eq_false]
  exact ⟨s, List.mem_of_getElem? h, by simp [hn]⟩
/-- That is what is kept. -/
theorem kd_all {t p q : List Int} : allTo (sm p q) (dm t q) (dm t p) (dm t p).length = true ↔ Kd t p q := by
  unfold allTo
  rw [List.take_length, List.all_eq_true]
  constructor
  · intro h s hs hd
    have := h (s : Int) (dm_mem.2 ⟨s, rfl, hs, hd⟩)
    rw [List.any_eq_true] at this
    obtain ⟨y, hy, hc⟩ := this
    obtain ⟨x, rfl, hx, hxd⟩ := dm_mem.1 hy
    exact ⟨x, hx, hxd, by simpa [covB] using hc⟩
  · intro h y hy
    obtain ⟨s, rfl, hs, hd⟩ := dm_mem.1 hy
    obtain ⟨x, hx, hxd, hc⟩ := h s hs hd
    rw [List.any_eq_true]
    exact ⟨(x : Int), dm_mem.2 ⟨x, rfl, hx, hxd⟩, by simp [covB, hc]⟩
theorem dm_at {t p : List Int} {k : Nat} {x : Int} (h : (dm t p)[k]? = some x) : ∃ s : Nat, x = (s : Int) ∧ s < 8 := by
  obtain ⟨s, h1, h2, _⟩ := dm_mem.1 (List.mem_of_getElem? h)
  exact ⟨s, h1, h2⟩
theorem cov_bits {s m y : Nat} (hs : s < 8) (hm : m < 8) (hy : y < 8) : bits .and .i64 (s : Int) (m : Int) = ((s &&& m : Nat) : Int) ∧ bits .andNot .i64 ((s &&& m : Nat) : Int) (y : Int) = (((s &&& m) - (s &&& m &&& y) : Nat) : Int) :=
  ⟨and_nat hs hm, andNot_nat (Nat.lt_of_le_of_lt Nat.and_le_left hs) hy⟩
theorem covB_eq (m s y : Nat) : covB m (s : Int) (y : Int) = (((((s &&& m) - (s &&& m &&& y) : Nat) : Int)) == 0) := by
  unfold covB
  simp only [Int.toNat_natCast]
  rw [Bool.eq_iff_iff]
  simp
/-- None of the first k prices is less. -/
def UpTo (p q : List Int) (k : Nat) : Prop := ∀ i, i < k → T p i ≤ T q i
theorem UpTo.zero (p q : List Int) : UpTo p q 0 := fun i h => absurd h (by omega)
theorem UpTo.next {p q : List Int} {k : Nat} (h : UpTo p q k) (hk : T p k ≤ T q k) : UpTo p q (k + 1) := fun i hi => by
  rcases Nat.lt_or_ge i k with h1 | h1
  · exact h i h1
  · rw [show i = k by omega]; exact hk
theorem smTo_yes {p q : List Int} {k : Nat} (h : T p k = T q k) : smTo p q (k + 1) = smTo p q k + 2 ^ k := by simp [smTo, h]
theorem smTo_no {p q : List Int} {k : Nat} (h : ¬ T p k = T q k) : smTo p q (k + 1) = smTo p q k := by simp [smTo, h]

end Go.Proofs.Ytpildecpabeanab
