/-
  The laws of chapter 9: the walk of FnIsNested.
-/
import Derived.Test.YtccbjgajmjcpjaaGS
import Derived.Test.YtccbjgajmjcpjaaSl
import Derived.Test.YtccbjgajmjcpjaaKm
namespace Go.Proofs.Ytccbjgajmjcpjaa
open Go.RowKit Go.Lib

theorem nsB_no {rows : List (List Int)} (h : ¬ VTs rows) : nsB rows = false := by unfold nsB; rw [vtsB_false h]; rfl
theorem wwB_no {rows : List (List Int)} (x : Int) (h : ¬ VTs rows) : wwB rows x = -1 := by unfold wwB; rw [vtsB_false h]; simp
theorem wwB_zero {rows : List (List Int)} (h : VTs rows) : wwB rows 0 = 0 := by
  unfold wwB; rw [if_pos ⟨vtsB_true h, by omega, by have := (pow_len h.1.2).1; omega⟩]; exact ww_zero rows
theorem nested_says {rows : List (List Int)} (h : VTs rows) (hm : mvA rows = true) : nsB rows = true := by
  unfold nsB; rw [vtsB_true h, Bool.true_and]
  exact neB_true (nes_ww (mvA_at hm) h.1.2)

set_option maxHeartbeats 4000000 in
set_option maxRecDepth 100000 in
theorem fnIsNested_walk {A : Option Addr} {c : Nat} {xs : List Int} {w : World} (h : Came .u8 w A c xs) :
    Calls Try.prog 13 #[.slice A xs.length c] w fun e w' => e = .returned (.bool true) ∧ Below w.heap.size w w' := by
  by_cases hlen : 1048576 < xs.length
  · go_enter Try.func13, Try.ntmps13
    go_wp2
    go_ret
    exact ⟨rfl, Below.refl _ _⟩
  have hl1 : xs.length ≤ 1048576 := by omega
  have HD := Lib.hid (DrawIsNested_any A c xs w h)
  clear hlen h
  go_enter Try.func13, Try.ntmps13
  go_wp2_with fail
  refine HD.out.mono ?_
  rintro e w1 ⟨A1, c1, rows, rfl, hR, hl4, hl8, b1⟩
  have hl8' : ∀ r ∈ rows, r.length ≤ 1099511627776 := fun r hr => by have := hl8 r hr; omega
  have HI := Lib.hid (IsNested_any A1 c1 rows w1 hR hl8')
  have HS := Lib.hid (fun w' (h : RdR w' A1 c1 rows) => SIsNested_any A1 c1 rows w' h (by omega) hl8')
  have HW := Lib.hid (fun w' (h : RdR w' A1 c1 rows) => WorthWith_any A1 c1 rows 0 w' h hl8')
  have HMV := Lib.hid (fun w' (h : RdR w' A1 c1 rows) => movable_any A1 c1 rows.length rows w' rfl h hl8' (by omega))
  clear HD hl8 hl8' hl1
  by_cases hv : VTs rows
  · rw [wwB_zero hv] at HW
    have HSAY := Lib.hid (nested_says hv)
    clear hv
    obtain ⟨v, hV⟩ : ∃ v, v = nsB rows := ⟨_, rfl⟩
    rw [← hV] at HI HS HSAY
    have hvv : (v != v) = false := by simp
    clear hV
    go_wp2_with fail
    refine HI.out.mono ?_
    rintro e w2 ⟨rfl, b2⟩
    have hR2 := hR.below b2
    have B2 := below_then b1 b2
    clear b1 b2
    go_wp2_with fail
    refine (HS.out _ hR2).mono ?_
    rintro e w3 ⟨rfl, b3⟩
    have hR3 := hR2.below b3
    have B3 := below_then B2 b3
    clear B2 b3
    go_wp2_with fail
    refine (HW.out _ hR3).mono ?_
    rintro e w4 ⟨rfl, b4⟩
    have hR4 := hR3.below b4
    have B4 := below_then B3 b4
    clear B3 b4
    go_wp2_with fail
    refine (HMV.out _ hR4).mono ?_
    rintro e w5 ⟨rfl, b5⟩
    have B5 := Lib.hid (below_then B4 b5)
    clear B4 b5
    rcases hm : mvA rows with _ | _
    · clear hm
      go_wp2
      go_ret
      exact ⟨rfl, B5.out⟩
    · have hv1 := HSAY.out hm
      subst hv1
      clear hm
      go_wp2
      go_ret
      exact ⟨rfl, B5.out⟩
  · rw [wwB_no 0 hv] at HW
    rw [nsB_no hv] at HI HS
    clear hv
    go_wp2_with fail
    refine HI.out.mono ?_
    rintro e w2 ⟨rfl, b2⟩
    have hR2 := hR.below b2
    have B2 := below_then b1 b2
    clear b1 b2
    go_wp2_with fail
    refine (HS.out _ hR2).mono ?_
    rintro e w3 ⟨rfl, b3⟩
    have hR3 := hR2.below b3
    have B3 := below_then B2 b3
    clear B2 b3
    go_wp2_with fail
    refine (HW.out _ hR3).mono ?_
    rintro e w4 ⟨rfl, b4⟩
    have hR4 := hR3.below b4
    have B4 := below_then B3 b4
    clear B3 b4
    go_wp2_with fail
    refine (HS.out _ hR4).mono ?_
    rintro e w5 ⟨rfl, b5⟩
    have B5 := Lib.hid (below_then B4 b5)
    clear B4 b5
    go_wp2
    go_ret
    exact ⟨rfl, B5.out⟩

end Go.Proofs.Ytccbjgajmjcpjaa
