/-
  The walk of the law of IsTrue.
-/
import Derived.Test.YtcbhjcbbjegmiaaRestF
import Derived.Test.YtcbhjcbbjegmiaaPlE
import Derived.Test.YtcbhjcbbjegmiaaDrawD
namespace Go.Proofs.Ytcbhjcbbjegmiaa
open Go.RowKit

/-- A drawn kind: one of the four, or no word. -/
def Drawn (s : ByteArray) : Prop := s = ⟨#[115, 101, 99, 111, 110, 100]⟩ ∨ s = ⟨#[102, 105, 114, 115, 116]⟩ ∨ s = ⟨#[116, 104, 105, 114, 100]⟩ ∨ s = ⟨#[97, 108, 108]⟩ ∨ s = ⟨#[]⟩

theorem someKind_drawn (rb k : Nat) (w : World) (h : Rdr w rb k) (hk : k ≤ 1000000) :
    Calls Try.prog 43 #[.pointer (some ⟨rb, 0, none⟩)] w fun e w' => ∃ s, Drawn s ∧ e = .returned (.string s) ∧ Rdr w' rb (k + 1) ∧ w.grownBy w' (some rb) := by
  have hl := h.lt
  have HC := Lib.hid (lit_str w [⟨#[115, 101, 99, 111, 110, 100]⟩, ⟨#[102, 105, 114, 115, 116]⟩, ⟨#[116, 104, 105, 114, 100]⟩, ⟨#[97, 108, 108]⟩, ⟨#[115, 101, 99, 111, 110, 100]⟩, ⟨#[102, 105, 114, 115, 116]⟩, ⟨#[]⟩])
  have HR := Lib.hid (h.alloc (.cells #[.string ⟨#[115, 101, 99, 111, 110, 100]⟩, .string ⟨#[102, 105, 114, 115, 116]⟩, .string ⟨#[116, 104, 105, 114, 100]⟩, .string ⟨#[97, 108, 108]⟩, .string ⟨#[115, 101, 99, 111, 110, 100]⟩, .string ⟨#[102, 105, 114, 115, 116]⟩, .string ⟨#[]⟩] 9))
  go_enter Try.func43, Try.ntmps43
  go_wp2_with fail
  refine (of_any rb k w.heap.size _ 7 _ _ rfl HR.out HC.out (by omega) (by decide) (by decide) hk).mono ?_
  rintro e w1 ⟨s, hs, rfl, hr, hg⟩
  have HS : Hid (Drawn s) := Lib.hid (by
    simp only [List.mem_cons, List.not_mem_nil, or_false] at hs
    unfold Drawn
    rcases hs with h | h | h | h | h | h | h <;> simp [h])
  clear hs HC HR
  go_wp2
  go_ret
  exact ⟨s, HS.out, rfl, hr, (World.grownBy_alloc w _ (some rb)).trans hg⟩

/-- What DrawIsTrue hands back. -/
def DrawnTrue (w : World) (e : Ending) (w' : World) : Prop :=
  ∃ (s : ByteArray) (n t : Int), Drawn s ∧ e = .returned (.tuple #[.string s, .int .i64 n, .int .i64 t]) ∧ Below w.heap.size w w'

set_option maxRecDepth 100000 in
set_option maxHeartbeats 1000000 in
theorem DrawIsTrue_any (A : Option Addr) (c : Nat) (xs : List Int) (w : World) (h : Came .u8 w A c xs) :
    Calls Try.prog 28 #[.slice A xs.length c] w (DrawnTrue w) := by
  go_enter Try.func28, Try.ntmps28
  go_wp2_with fail
  refine (newReader_any A c xs w h).mono ?_
  rintro e w1 ⟨rb, rfl, hrb, hr1, hb1⟩
  go_wp2_with fail
  refine (someKind_drawn rb 0 w1 hr1 (by decide)).mono ?_
  rintro e w2 ⟨s, hs, rfl, hr2, hg2⟩
  have HS := Lib.hid hs
  have B2 := hb1.trans (gb_below hg2 hb1.size hrb)
  clear hs
  go_wp2_with fail
  refine (one_new rb 1 6 [2, 3, 1, 2, 0, 4] _ w2 rfl rfl hr2 (by decide) (by decide) (by decide)).mono ?_
  rintro e w3 ⟨n, _, rfl, hr3, hg3⟩
  have B3 := B2.trans (gb_below hg3 B2.size hrb)
  go_wp2_with fail
  refine (one_new rb 2 7 [2, 1, 3, 0, 4, 5, 6] _ w3 rfl rfl hr3 (by decide) (by decide) (by decide)).mono ?_
  rintro e w4 ⟨t, _, rfl, hr4, hg4⟩
  have B4 := B3.trans (gb_below hg4 B3.size hrb)
  go_wp2
  go_ret3
  exact ⟨s, n, t, HS.out, rfl, B4⟩

set_option maxRecDepth 100000 in
set_option maxHeartbeats 4000000 in
theorem fnIsTrue_walk {A : Option Addr} {c : Nat} {xs : List Int} {w : World} (h : Came .u8 w A c xs) :
    Calls Try.prog 7 #[.slice A xs.length c] w fun e w' => e = .returned (.bool true) ∧ Below w.heap.size w w' := by
  by_cases hlen : 1048576 < xs.length
  · go_enter Try.func7, Try.ntmps7
    go_wp2
    go_ret
    exact ⟨rfl, Below.refl _ _⟩
  have hl0 : xs.length ≤ 1048576 := by omega
  clear hlen
  go_enter Try.func7, Try.ntmps7
  go_wp2_with fail
  refine (DrawIsTrue_any A c xs w h).mono ?_
  rintro e w1 ⟨s, n, t, hs, rfl, B1⟩
  clear h hl0
  obtain ⟨b, hS, hI, hV, hN, hK⟩ := IsTrue_both s n t
  have HS := Lib.hid hS
  have HI := Lib.hid hI
  have HV := Lib.hid hV
  have HN := Lib.hid hN
  have HK := Lib.hid hK
  have HD := Lib.hid hs
  have hbb : (b != b) = false := by simp
  have hbe : (b == b) = true := by simp
  clear hS hI hV hN hK hs
  go_wp2_with fail
  refine (HI.out _).mono ?_
  rintro e w2 ⟨rfl, b2⟩
  go_wp2_with fail
  refine (HS.out _).mono ?_
  rintro e w3 ⟨rfl, b3⟩
  have B3 := (B1.trans (b2.mono B1.size)).trans (b3.mono (Nat.le_trans B1.size b2.size))
  clear B1 b2 b3 HI
  by_cases h1 : n < 1
  · have d1 : decide (n < 1) = true := by simpa using h1
    go_wp2_with (go_at_call 30; refine (HS.out _).mono ?_; rintro e w4 ⟨rfl, b4⟩)
    go_ret
    exact ⟨rfl, B3.trans (b4.mono B3.size)⟩
  have d1 : decide (n < 1) = false := by simpa using h1
  by_cases h2 : 3 < n
  · have d2 : decide (3 < n) = true := by simpa using h2
    go_wp2_with (go_at_call 30; refine (HS.out _).mono ?_; rintro e w4 ⟨rfl, b4⟩)
    go_ret
    exact ⟨rfl, B3.trans (b4.mono B3.size)⟩
  have d2 : decide (3 < n) = false := by simpa using h2
  by_cases h3 : t < 0
  · have d3 : decide (t < 0) = true := by simpa using h3
    go_wp2_with (go_at_call 30; refine (HS.out _).mono ?_; rintro e w4 ⟨rfl, b4⟩)
    go_ret
    exact ⟨rfl, B3.trans (b4.mono B3.size)⟩
  have d3 : decide (t < 0) = false := by simpa using h3
  by_cases h4 : 5 < t
  · have d4 : decide (5 < t) = true := by simpa using h4
    go_wp2_with (go_at_call 30; refine (HS.out _).mono ?_; rintro e w4 ⟨rfl, b4⟩)
    go_ret
    exact ⟨rfl, B3.trans (b4.mono B3.size)⟩
  have d4 : decide (5 < t) = false := by simpa using h4
  obtain ⟨j, rfl⟩ := Int.eq_ofNat_of_zero_le (show 0 ≤ n by omega)
  obtain ⟨u, rfl⟩ := Int.eq_ofNat_of_zero_le (show 0 ≤ t by omega)
  have hn2 : inR (j : Int) 1 3 = true := by rw [inR_true]; omega
  have ht2 : inR (u : Int) 0 5 = true := by rw [inR_true]; omega
  have hV2 : ∀ kd, KindIs s kd → b = isTrueF kd j u := fun kd hk => by have := HV.out kd hk hn2 ht2; simpa using this
  have eu : ((u : Int) == 0) = decide (u = 0) := by
    rw [Bool.eq_iff_iff]; simp
  have hj1 : 1 ≤ j := by omega
  have hj3 : j ≤ 3 := by omega
  have hu5 : u ≤ 5 := by omega
  clear HV HN HK hn2 ht2 h1 h2 h3 h4
  rcases HD.out with rfl | rfl | rfl | rfl | rfl
  · have hb : b = true := by rw [hV2 2 (.inr (.inl ⟨rfl, rfl⟩)), second_true]
    subst hb
    clear hV2 eu HD
    go_wp2
    go_ret
    exact ⟨rfl, B3⟩
  · have hb : (b == ((u : Int) == 0)) = true := by rw [hV2 1 (.inl ⟨rfl, rfl⟩), firstT j u hj1 hj3 hu5, eu]; simp
    clear hV2 eu HD
    go_wp2
    go_ret
    exact ⟨by first | rfl | (rw [← hb]; rfl), B3⟩
  · by_cases h3 : j < 3
    · have d5 : decide ((j : Int) < 3) = true := by simp; omega
      clear hV2 eu HD
      go_wp2
      go_ret
      exact ⟨rfl, B3⟩
    · obtain rfl : j = 3 := by omega
      have hb : (b == ((u : Int) == 0)) = true := by rw [hV2 3 (.inr (.inr (.inl ⟨rfl, rfl⟩))), thirdT u hu5, eu]; simp
      clear hV2 eu HD
      go_wp2
      go_ret
      exact ⟨by first | rfl | (rw [← hb]; rfl), B3⟩
  · have hb : (b == ((u : Int) == 0)) = true := by rw [hV2 4 (.inr (.inr (.inr ⟨rfl, rfl⟩))), allT j u hj1 hj3 hu5, eu]; simp
    clear hV2 eu HD
    go_wp2
    go_ret
    exact ⟨by first | rfl | (rw [← hb]; rfl), B3⟩
  · clear hV2 eu HD
    go_wp2_with (go_at_call 30; refine (HS.out _).mono ?_; rintro e w4 ⟨rfl, b4⟩)
    go_ret
    exact ⟨rfl, B3.trans (b4.mono B3.size)⟩

end Go.Proofs.Ytcbhjcbbjegmiaa
