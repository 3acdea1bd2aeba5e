/-
  Chapter 1, the model: the contracts of validKind, SaleBy, validWho, gain, LeastToWin, GainOf and BestBid.
-/
import Derived.Test.YtcbhjcbbjegmiaaSpecC
import Derived.Lib.Strings
namespace Go.Proofs.Ytcbhjcbbjegmiaa
open Go.RowKit

/-- The word s is no kind. -/
def NoKind (s : ByteArray) : Prop :=
  (s.toList == [102, 105, 114, 115, 116]) = false ∧ (s.toList == [115, 101, 99, 111, 110, 100]) = false ∧ (s.toList == [116, 104, 105, 114, 100]) = false ∧ (s.toList == [97, 108, 108]) = false

theorem bytes_of_list {s : ByteArray} {l : List UInt8} (h : s.toList = l) : s = ⟨l.toArray⟩ := by
  rw [Lib.toList_data] at h
  obtain ⟨d⟩ := s
  subst h
  rfl

theorem kind_cases (s : ByteArray) : (∃ kd, KindIs s kd) ∨ NoKind s := by
  by_cases h1 : s.toList = [102, 105, 114, 115, 116]
  · exact .inl ⟨1, .inl ⟨rfl, bytes_of_list h1⟩⟩
  by_cases h2 : s.toList = [115, 101, 99, 111, 110, 100]
  · exact .inl ⟨2, .inr (.inl ⟨rfl, bytes_of_list h2⟩)⟩
  by_cases h3 : s.toList = [116, 104, 105, 114, 100]
  · exact .inl ⟨3, .inr (.inr (.inl ⟨rfl, bytes_of_list h3⟩))⟩
  by_cases h4 : s.toList = [97, 108, 108]
  · exact .inl ⟨4, .inr (.inr (.inr ⟨rfl, bytes_of_list h4⟩))⟩
  exact .inr ⟨by simpa using h1, by simpa using h2, by simpa using h3, by simpa using h4⟩

theorem validKind_yes (s : ByteArray) (kd : Nat) (w : World) (hk : KindIs s kd) :
    Calls Try.prog 49 #[.string s] w fun e w' => e = .returned (.bool true) ∧ w = w' := by
  rcases hk with ⟨_, rfl⟩ | ⟨_, rfl⟩ | ⟨_, rfl⟩ | ⟨_, rfl⟩
  all_goals
    go_enter Try.func49, Try.ntmps49
    go_wp2
    go_ret
    exact ⟨rfl, rfl⟩

theorem validKind_no (s : ByteArray) (w : World) (hk : NoKind s) :
    Calls Try.prog 49 #[.string s] w fun e w' => e = .returned (.bool false) ∧ w = w' := by
  obtain ⟨h1, h2, h3, h4⟩ := hk
  go_enter Try.func49, Try.ntmps49
  go_wp2
  go_ret
  exact ⟨rfl, rfl⟩

/-- Among the bids xs there is a bidder i. -/
def wB (xs : List Int) (i : Int) : Bool := vB xs && inR i 0 (xs.length - 1)

theorem vB_le {xs : List Int} (h : vB xs = true) : 1 ≤ xs.length ∧ xs.length ≤ 6 := by
  simp only [vB, Bool.and_eq_true, inR_true] at h; omega

theorem validWho_any (A : Option Addr) (c : Nat) (xs : List Int) (i : Int) (w : World) (h : Rd w A c xs) (hl : xs.length ≤ 1048576) :
    Calls Try.prog 57 #[.slice A xs.length c, .int .i64 i] w fun e w' => e = .returned (.bool (wB xs i)) ∧ w = w' := by
  have hl2 : xs.length ≤ 1099511627776 := by omega
  cases hv : vB xs with
  | true =>
    have HE := Lib.hid (show wB xs i = inR i 0 (xs.length - 1) by simp only [wB, hv, Bool.true_and])
    go_enter Try.func57, Try.ntmps57
    go_wp2_with fail
    refine (validBids_any _ _ _ _ h hl2).mono ?_
    rw [hv]
    clear hv
    rintro e w1 ⟨rfl, rfl⟩
    go_wp2_with fail
    refine (inRange_any _ _ _ _).mono ?_
    rintro e w1 ⟨rfl, rfl⟩
    go_wp2
    go_ret
    exact ⟨by rw [HE.out]; rfl, rfl⟩
  | false =>
    have HE := Lib.hid (show wB xs i = false by simp only [wB, hv, Bool.false_and])
    go_enter Try.func57, Try.ntmps57
    go_wp2_with fail
    refine (validBids_any _ _ _ _ h hl2).mono ?_
    rw [hv]
    clear hv
    rintro e w1 ⟨rfl, rfl⟩
    go_wp2
    go_ret
    exact ⟨by rw [HE.out]; rfl, rfl⟩

/-- What SaleBy hands back where the kind, the bids or the reserve are none. -/
def NoSale (e : Ending) : Prop := e = .returned (.tuple #[.int .i64 (-1), .slice none 0 0])

theorem SSaleBy_yes (s : ByteArray) (kd : Nat) (A : Option Addr) (c : Nat) (xs : List Int) (r : Int) (w : World) (hk : KindIs s kd) (h : Rd w A c xs) (hv : vB xs = true) (hr : inR r 0 30 = true) :
    Calls Try.prog 17 #[.string s, .slice A xs.length c, .int .i64 r] w (SaleIs w xs kd r) := by
  have hb := vB_le hv
  have HV := Lib.hid hv
  have HR := Lib.hid hr
  have h1 : 1 ≤ xs.length := hb.1
  have hl : xs.length ≤ 1048576 := by omega
  have hl2 : xs.length ≤ 1099511627776 := by omega
  clear hv hr hb
  go_enter Try.func17, Try.ntmps17
  go_wp2_with fail
  refine (validKind_yes s kd _ hk).mono ?_
  rintro e w1 ⟨rfl, rfl⟩
  go_wp2_with fail
  refine (validBids_any _ _ _ _ h hl2).mono ?_
  rw [HV.out]
  rintro e w1 ⟨rfl, rfl⟩
  go_wp2_with fail
  refine (inRange_any _ _ _ _).mono ?_
  rw [HR.out]
  rintro e w1 ⟨rfl, rfl⟩
  go_wp2_with fail
  refine (sale_any s kd _ _ _ _ _ hk h h1 hl).mono ?_
  rintro e w1 ⟨g, c1, rfl, ho, hb⟩
  go_wp2
  go_ret2
  exact ⟨g, c1, rfl, ho, hb⟩
theorem SSaleBy_no {kb vb rb : Bool} (s : ByteArray) (A : Option Addr) (c : Nat) (xs : List Int) (r : Int) (w : World)
    (hk : Calls Try.prog 49 #[.string s] w fun e w' => e = .returned (.bool kb) ∧ w = w')
    (h : Rd w A c xs) (hl : xs.length ≤ 1099511627776) (hv : vB xs = vb) (hr : inR r 0 30 = rb) (hno : (kb && vb && rb) = false) :
    Calls Try.prog 17 #[.string s, .slice A xs.length c, .int .i64 r] w fun e w' => NoSale e ∧ w = w' := by
  have HV := Lib.hid ((validBids_any A c xs w h hl).mono (R' := fun e w' => e = .returned (.bool vb) ∧ w = w') (by rw [hv]; exact fun _ _ h => h))
  have HR := Lib.hid ((inRange_any r 0 30 w).mono (R' := fun e w' => e = .returned (.bool rb) ∧ w = w') (by rw [hr]; exact fun _ _ h => h))
  have HK := Lib.hid hk
  clear hk hv hr h
  cases kb <;> cases vb <;> cases rb <;> first
    | (exact absurd hno (by decide))
    | (clear hno
       go_enter Try.func17, Try.ntmps17
       go_wp2_with (first
         | (go_at_call 49; refine HK.out.mono ?_; rintro e w1 ⟨rfl, rfl⟩)
         | (go_at_call 50; refine HV.out.mono ?_; rintro e w1 ⟨rfl, rfl⟩)
         | (go_at_call 51; refine HR.out.mono ?_; rintro e w1 ⟨rfl, rfl⟩))
       go_ret2
       exact ⟨rfl, rfl⟩)

end Go.Proofs.Ytcbhjcbbjegmiaa
