/-
  Chapter 6: JoinTables: both sides at whatever arguments; a table of one's own that is marked.
-/
import Derived.Test.YtfjncipekjnbjaaJq
import Derived.Test.YtfjncipekjnbjaaMark
namespace Go.Proofs.Ytfjncipekjnbjaa
open Go.RowKit

theorem grown_set (w : World) (M j : Nat) (v : Value) : w.grownBy (w.setCell ⟨M, j, none⟩ v) (some M) :=
  ⟨rfl, rfl, rfl, by simp [World.setCell], fun i _ hne => Below.heap_setCell w ⟨M, j, none⟩ v i (fun e => hne (by show some i = some M; rw [e]))⟩

/-- A slice of the call's own, or a table of its own that is sliced. -/
def Own2 (w : World) (B : Nat) (A : Option Addr) (c : Nat) (zs : List Int) : Prop := Own w B A c zs ∨ ∃ M, A = some ⟨M, 0, none⟩ ∧ c = 8 ∧ B ≤ M ∧ Arr w M zs
theorem Own2.rd {w : World} {B : Nat} {A : Option Addr} {c : Nat} {zs : List Int} (h : Own2 w B A c zs) : Rd w A c zs := by
  rcases h with h | ⟨M, rfl, rfl, _, h⟩
  · exact h.rd
  · exact h.rd 8
theorem Own2.below {w w' : World} {B : Nat} {A : Option Addr} {c : Nat} {zs : List Int} (h : Own2 w B A c zs) (hb : Below w.heap.size w w') : Own2 w' B A c zs := by
  rcases h with h | ⟨M, rfl, rfl, hB, h⟩
  · exact .inl (h.below hb)
  · exact .inr ⟨M, rfl, rfl, hB, h.keep (hb.block _ h.lt)⟩
theorem Own2.drewN {w : World} {B : Nat} {A : Option Addr} {c : Nat} {zs : List Int} (h : Own2 w B A c zs) (n : Nat) : Own2 (w.drewN n) B A c zs := h
theorem Own2.base {w : World} {B B' : Nat} {A : Option Addr} {c : Nat} {zs : List Int} (h : Own2 w B A c zs) (hB : B' ≤ B) : Own2 w B' A c zs := by
  rcases h with h | ⟨M, rfl, rfl, hM, h⟩
  · exact .inl (h.base hB)
  · exact .inr ⟨M, rfl, rfl, Nat.le_trans hB hM, h⟩
theorem Own2.blk {w : World} {B k : Nat} {A : Option Addr} {c : Nat} {xs : List Int} (h : Own2 w B A c xs) (hk : ofA A = some k) : B ≤ k ∧ k < w.heap.size := by
  rcases h with h | ⟨M, rfl, rfl, hM, h⟩
  · exact own_blk h hk
  · obtain rfl : M = k := by simpa [ofA] using hk
    exact ⟨hM, h.lt⟩
theorem Own2.apart {wa wb : World} {B1 B2 : Nat} {A1 A2 : Option Addr} {c1 c2 : Nat} {xs ys : List Int} (h1 : Own2 wa B1 A1 c1 xs) (h2 : Own2 wb B2 A2 c2 ys) (hlt : wa.heap.size ≤ B2) : (ofA A1 = none ∨ ofA A1 ≠ ofA A2) ∧ (ofA A2 = none ∨ ofA A2 ≠ ofA A1) := by
  have e : ∀ k, ofA A1 = some k → ofA A2 = some k → False := fun _ hk1 hk2 => by
    have l1 := (h1.blk hk1).2
    have l2 := (h2.blk hk2).1
    omega
  constructor
  · rcases hA : ofA A1 with _ | k
    · exact .inl rfl
    · exact .inr (fun hh => e k hA hh.symm)
  · rcases hA : ofA A2 with _ | k
    · exact .inl rfl
    · exact .inr (fun hh => e k hh.symm hA)
theorem Own2.kept_ {w w' : World} {B : Nat} {A A2 : Option Addr} {c : Nat} {xs : List Int} (h : Own2 w B A c xs) (hg : w.grownBy w' (ofA A2)) (hne : ofA A = none ∨ ofA A ≠ ofA A2) : Own2 w' B A c xs := by
  rcases h with h | ⟨M, rfl, rfl, hM, h⟩
  · exact .inl (Own.kept_ h hg hne)
  · exact .inr ⟨M, rfl, rfl, hM, h.keep (hg.block _ h.lt (fun e => by
      rcases hne with h1 | h1
      · cases h1
      · exact h1 e))⟩
theorem Own2.grownBelow0 {w w' wa : World} {B : Nat} {A0 : Option Addr} {c0 : Nat} {xs : List Int} (hb : Below B wa w) (ho : Own2 w B A0 c0 xs) (hs : B ≤ w.heap.size) (hg : w.grownBy w' (ofA A0)) : Below B wa w' :=
  hb.grown hg hs (fun _ hk => (ho.blk hk).1)
def Own2Is (w : World) (zs : List Int) (e : Ending) (w' : World) : Prop := ∃ A c, e = .returned (.slice A zs.length c) ∧ Own2 w' w.heap.size A c zs ∧ Below w.heap.size w w'

theorem sv_one {t : List Int} (h : VT t) {x : Nat} (hx : x < 8) : sv [t] x = T t x := by
  have a := h.all
  obtain ⟨e0, e1, e2, e3, e4, e5, e6, e7⟩ := subs_vals
  apply Int.le_antisymm
  · refine mx_le (h.bd hx).1 (fun s hs => ?_)
    simp only [sv]
    rcases nat8 hx with rfl | rfl | rfl | rfl | rfl | rfl | rfl | rfl
    · rw [e0] at hs; simp at hs; subst hs; omega
    · rw [e1] at hs; simp at hs; rcases hs with rfl | rfl <;> omega
    · rw [e2] at hs; simp at hs; rcases hs with rfl | rfl <;> omega
    · rw [e3] at hs; simp at hs; rcases hs with rfl | rfl | rfl | rfl <;> omega
    · rw [e4] at hs; simp at hs; rcases hs with rfl | rfl <;> omega
    · rw [e5] at hs; simp at hs; rcases hs with rfl | rfl | rfl | rfl <;> omega
    · rw [e6] at hs; simp at hs; rcases hs with rfl | rfl | rfl | rfl <;> omega
    · rw [e7] at hs; simp at hs; rcases hs with rfl | rfl | rfl | rfl | rfl | rfl | rfl | rfl <;> omega
  · have h1 := le_mx (f := fun s => T t s + sv [] (x - s)) (sub_self hx)
    simp only [sv] at h1 ⊢
    omega
theorem jnT_tg {a b : List Int} (_ha : VT a) (hb : VT b) : jnT a b = tg (T a) (T b) := ext8 (jnT_len a b) (tg_len _ _) (fun x hx => by
  rw [T_of (jnT_at a b hx), tg_at _ _ hx]
  exact mx_congr (fun s hs => by rw [sv_one hb (by omega)]))
/-- What JoinTables hands back. -/
noncomputable def joF (a b : List Int) : List Int := @ite _ (VT a ∧ VT b ∧ VT (jnT a b)) (Classical.propDecidable _) (jnT a b) []
theorem joF_yes {a b : List Int} (h : VT a ∧ VT b ∧ VT (jnT a b)) : joF a b = jnT a b := by unfold joF; rw [if_pos h]
theorem joF_no {a b : List Int} (h : ¬ (VT a ∧ VT b ∧ VT (jnT a b))) : joF a b = [] := by unfold joF; rw [if_neg h]
theorem joF_len (a b : List Int) : (joF a b).length ≤ 8 := by
  by_cases h : VT a ∧ VT b ∧ VT (jnT a b)
  · rw [joF_yes h, jnT_len]; omega
  · rw [joF_no h]; simp

theorem SJoinTables_own (A B : Option Addr) (c d : Nat) (a b : List Int) (w : World) (h : Rd w A c a) (g : Rd w B d b) (hc : a.length ≤ c) (hd : b.length ≤ d) (ha : a.length ≤ 1099511627776) (hb : b.length ≤ 1099511627776) :
    Calls Try.prog 39 #[.slice A a.length c, .slice B b.length d] w (OwnIs w (joF a b)) :=
  (SJoinTables_any A B c d a b w h g hc hd ha hb).mono fun e w' ⟨hbl, hr⟩ => by
    rcases hr with ⟨h1, h2, h3, g, c, he, ho⟩ | ⟨hn, he⟩
    · rw [joF_yes ⟨h1, h2, h3⟩]
      exact ⟨_, c, by rw [jnT_len]; exact he, ho, hbl⟩
    · rw [joF_no hn]
      exact ⟨none, 0, he, own_none _ _, hbl⟩

set_option maxRecDepth 100000 in
set_option maxHeartbeats 400000 in
theorem JoinTables_any (A B : Option Addr) (c d : Nat) (a b : List Int) (w : World) (h : Rd w A c a) (g : Rd w B d b) (ha : a.length ≤ 1099511627776) (hb : b.length ≤ 1099511627776) :
    Calls Try.prog 38 #[.slice A a.length c, .slice B b.length d] w (Own2Is w (joF a b)) := by
  by_cases hva : VT a
  · by_cases hvb : VT b
    · refine (JoinTables_yes A B c d a b w h g hva hvb).mono fun e w' ⟨hbl, hr⟩ => ?_
      rw [← jnT_tg hva hvb] at hr
      rcases hr with ⟨hv, M, he, hM, hA⟩ | ⟨hv, he⟩
      · rw [joF_yes ⟨hva, hvb, vt_iff.1 hv⟩]
        exact ⟨_, 8, by rw [jnT_len]; exact he, .inr ⟨M, rfl, rfl, hM, hA⟩, hbl⟩
      · rw [joF_no (fun h => by rw [vt_true h.2.2] at hv; cases hv)]
        exact ⟨none, 0, he, .inl (own_none _ _), hbl⟩
    · have HE := Lib.hid (joF_no (a := a) (b := b) (fun h => hvb h.2.1))
      have HVA := Lib.hid (ValidTable_any A c a w h ha)
      have HVB := Lib.hid (fun w1 (g : Rd w1 B d b) => ValidTable_any B d b w1 g hb)
      rw [vt_true hva] at HVA
      rw [vt_false hvb] at HVB
      rw [HE.out]
      clear hva hvb HE
      go_enter Try.func38, Try.ntmps38
      go_wp2_with fail
      refine HVA.out.mono ?_
      rintro e w1 ⟨rfl, hb1⟩
      go_wp2_with fail
      refine (HVB.out _ (g.below hb1)).mono ?_
      rintro e w2 ⟨rfl, hb2⟩
      go_wp2
      go_ret
      exact ⟨none, 0, rfl, .inl (own_none _ _), below_then hb1 hb2⟩
  · have HE := Lib.hid (joF_no (a := a) (b := b) (fun h => hva h.1))
    have HVA := Lib.hid (ValidTable_any A c a w h ha)
    rw [vt_false hva] at HVA
    rw [HE.out]
    clear hva HE
    go_enter Try.func38, Try.ntmps38
    go_wp2_with fail
    refine HVA.out.mono ?_
    rintro e w1 ⟨rfl, hb1⟩
    go_wp2
    go_ret
    exact ⟨none, 0, rfl, .inl (own_none _ _), hb1⟩

theorem JoinTables_both (a b : List Int) (ha : a.length ≤ 1048576) (hb : b.length ≤ 1048576) : ∃ zs : List Int, zs.length ≤ 8 ∧
    (∀ A c B d w, Rd w A c a → Rd w B d b → a.length ≤ c → b.length ≤ d → Calls Try.prog 39 #[.slice A a.length c, .slice B b.length d] w (OwnIs w zs)) ∧
    (∀ A c B d w, Rd w A c a → Rd w B d b → Calls Try.prog 38 #[.slice A a.length c, .slice B b.length d] w (Own2Is w zs)) :=
  ⟨joF a b, joF_len a b, fun A c B d w h g hc hd => SJoinTables_own A B c d a b w h g hc hd (by omega) (by omega), fun A c B d w h g => JoinTables_any A B c d a b w h g (by omega) (by omega)⟩

end Go.Proofs.Ytfjncipekjnbjaa
