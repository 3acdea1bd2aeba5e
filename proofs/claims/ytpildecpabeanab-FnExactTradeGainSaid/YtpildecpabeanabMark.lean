/-
  The exact laws' helpers that mark a slice of ints, and that ask whether the marks are held.
-/
import Derived.Test.YtpildecpabeanabMem
namespace Go.Proofs.Ytpildecpabeanab
open Go.RowKit

/-- k, one more, and so on. -/
def upF (k : Int) (n : Nat) : List Int := (List.range n).map (fun i => k + (i : Nat))
theorem upF_len (k : Int) (n : Nat) : (upF k n).length = n := by simp [upF]
theorem upF_at (k : Int) (n i : Nat) (h : i < n) : (upF k n)[i]? = some (k + i) := by simp [upF, h]

/-- The first j places marked from k on, the others as they were. -/
def markd (k : Int) (xs : List Int) (j : Nat) : List Int := upF k j ++ xs.drop j
theorem markd_len (k : Int) (xs : List Int) (j : Nat) (hj : j ≤ xs.length) : (markd k xs j).length = xs.length := by simp [markd, upF_len]; omega
theorem markd_zero (k : Int) (xs : List Int) : markd k xs 0 = xs := by simp [markd, upF]
theorem markd_all (k : Int) (xs : List Int) : markd k xs xs.length = upF k xs.length := by simp [markd]
theorem markd_set (k : Int) (xs : List Int) (j : Nat) (hj : j < xs.length) : (markd k xs j).set j (k + j) = markd k xs (j + 1) := by
  unfold markd
  rw [List.set_append, if_neg (by rw [upF_len]; omega), upF_len, Nat.sub_self]
  rw [List.drop_eq_getElem_cons hj, List.set_cons_zero]
  simp [upF, List.range_succ]

set_option maxHeartbeats 400000 in
theorem markIntS_any (A : Option Addr) (c : Nat) (xs : List Int) (k : Int) (B : Nat) (w : World) (h : Own w B A c xs) (hl : xs.length ≤ 1099511627776) (hk0 : 0 ≤ k) (hk1 : k ≤ 1099511627776) :
    Calls Try.prog 25 #[.slice A xs.length c, .int .i64 k] w fun e w' => e = .returned (.int .i64 (k + xs.length)) ∧ Own w' B A c (upF k xs.length) ∧ w.grownBy w' (ofA A) := by
  go_enter Try.func25, Try.ntmps25
  go_wp2
  go_loopw [1, 5] (fun q i wr => ∃ j : Nat, j ≤ xs.length ∧ i = .int .i64 j ∧ q = .int .i64 (k + j) ∧ Hid (Own wr B A c (markd k xs j) ∧ w.grownBy wr (ofA A)))
    (fun _ i _ => xs.length - (intOf i).toNat)
  case atStart => exact ⟨0, Nat.zero_le _, rfl, by simp, Lib.hid ⟨by rw [markd_zero]; exact h, World.grownBy.refl _ _⟩⟩
  case round =>
    obtain ⟨j, hj, rfl, rfl, HO⟩ := hrel
    by_cases hlt : j < xs.length
    · obtain ⟨g, rfl⟩ : ∃ g, A = some ⟨g, 0, none⟩ := by
        rcases own_shape h with ⟨_, ⟨hv, hz⟩ | ⟨g, c', hv⟩⟩
        · subst hz; simp at hlt
        · injection hv with hA; exact ⟨g, hA⟩
      have hz := HO.out.1
      have hjm : j < (markd k xs j).length := by rw [markd_len k xs j hj]; exact hlt
      obtain ⟨x, hx⟩ := at_some hjm
      have hc := hz.cell hx
      have hf := hz.free j
      have HS : Hid (Own (wr.setCell ⟨g, j, none⟩ (.int .i64 (k + j))) B (some ⟨g, 0, none⟩) c (markd k xs (j + 1)) ∧ w.grownBy (wr.setCell ⟨g, j, none⟩ (.int .i64 (k + j))) (ofA (some ⟨g, 0, none⟩))) := Lib.hid (by
        have h1 := hz.set_ j (k + j)
        have h2 := (World.ownsRow.stored hz j (.int .i64 (k + j))).2
        rw [markd_set k xs j hlt] at h1
        exact ⟨h1, HO.out.2.trans h2⟩)
      clear hz hjm hx h
      go_wp2
      go_roundw
      case rel => exact ⟨j + 1, by omega, by go_num, by go_num, HS⟩
      case measure => simp [intOf]; omega
    · obtain rfl : j = xs.length := by omega
      go_wp2
      go_ret
      exact ⟨rfl, by rw [← markd_all]; exact HO.out.1, HO.out.2⟩

set_option maxHeartbeats 400000 in
theorem heldIntS_any (A : Option Addr) (c : Nat) (n : Nat) (k : Int) (w : World) (h : Rd w A c (upF k n)) (hl : n ≤ 1099511627776) (hk0 : 0 ≤ k) (hk1 : k ≤ 1099511627776) :
    Calls Try.prog 26 #[.slice A n c, .int .i64 k] w fun e w' => e = .returned (.int .i64 (k + n)) ∧ w = w' := by
  go_enter Try.func26, Try.ntmps26
  go_wp2
  go_loop [1, 5] (fun q i => ∃ j : Nat, j ≤ n ∧ i = .int .i64 j ∧ q = .int .i64 (k + j))
    (fun _ i => n - (intOf i).toNat)
  case atStart => exact ⟨0, Nat.zero_le _, rfl, by simp⟩
  case round =>
    obtain ⟨j, hj, rfl, rfl⟩ := hrel
    by_cases hlt : j < n
    · obtain ⟨b, off, x, rfl, _, hx, hc⟩ := h.at_ (k := j) (by rw [upF_len]; exact hlt)
      obtain rfl : x = k + j := by have := hx.out; rw [upF_at k n j hlt] at this; exact (Option.some.inj this).symm
      clear hx
      go_wp2
      go_round
      case rel => exact ⟨j + 1, by omega, by go_num, by go_num⟩
      case measure => simp [intOf]; omega
    · obtain rfl : j = n := by omega
      go_wp2
      go_ret
      exact ⟨rfl, rfl⟩

/-! ### What is owned stays owned while another row is written -/

theorem own_block (A : Option Addr) (n c : Nat) : (Value.slice A n c).ownBlock = ofA A := by cases A <;> rfl

theorem Own.kept_ {w w' : World} {B : Nat} {A A2 : Option Addr} {c : Nat} {xs : List Int} (h : Own w B A c xs) (hg : w.grownBy w' (ofA A2)) (hne : ofA A = none ∨ ofA A ≠ ofA A2) : Own w' B A c xs :=
  World.ownsRow.kept h hg (by rw [own_block]; exact hne)

theorem Own.apart {wa wb : World} {B1 B2 : Nat} {A1 A2 : Option Addr} {c1 c2 : Nat} {xs ys : List Int} (h1 : Own wa B1 A1 c1 xs) (h2 : Own wb B2 A2 c2 ys) (hlt : wa.heap.size ≤ B2) : (ofA A1 = none ∨ ofA A1 ≠ ofA A2) ∧ (ofA A2 = none ∨ ofA A2 ≠ ofA A1) := by
  have e : ∀ k, ofA A1 = some k → ofA A2 = some k → False := by
    intro k hk1 hk2
    have l1 := (World.ownsRow.lt h1 k (by rw [own_block]; exact hk1)).2
    have l2 := (World.ownsRow.lt h2 k (by rw [own_block]; exact hk2)).1
    omega
  constructor
  · rcases hA : ofA A1 with _ | k
    · exact .inl rfl
    · exact .inr (fun h => e k hA h.symm)
  · rcases hA : ofA A2 with _ | k
    · exact .inl rfl
    · exact .inr (fun h => e k h.symm hA)

theorem Own.grownBelow {w w' wa : World} {B B2 : Nat} {A2 : Option Addr} {c2 : Nat} {ys : List Int} (hb : Below B wa w) (h2 : Own w B2 A2 c2 ys) (hB : B ≤ B2) (hs : B ≤ w.heap.size) (hg : w.grownBy w' (ofA A2)) : Below B wa w' :=
  hb.grown hg hs (fun k hk => Nat.le_trans hB (World.ownsRow.lt h2 k (by rw [own_block]; exact hk)).1)

/-- The same contracts where the length is told by another letter. -/
theorem markIntS_n (A : Option Addr) (c n : Nat) (xs : List Int) (k : Int) (B : Nat) (w : World) (hn : xs.length = n) (h : Own w B A c xs) (hl : n ≤ 1099511627776) (hk0 : 0 ≤ k) (hk1 : k ≤ 1099511627776) :
    Calls Try.prog 25 #[.slice A n c, .int .i64 k] w fun e w' => e = .returned (.int .i64 (k + n)) ∧ Own w' B A c (upF k n) ∧ w.grownBy w' (ofA A) := by
  subst hn; exact markIntS_any A c xs k B w h hl hk0 hk1

end Go.Proofs.Ytpildecpabeanab
