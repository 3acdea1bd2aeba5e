/-
  The laws of chapters 6 and 7: whether all tables may be moved.
-/
import Derived.Test.YtccbjgajmjcpjaaUc
import Derived.Test.YtccbjgajmjcpjaaJj
namespace Go.Proofs.Ytccbjgajmjcpjaa
open Go.RowKit Go.Lib

/-- The things of all tables may be moved. -/
noncomputable def mvA (rows : List (List Int)) : Bool := rows.all mvB
theorem mvA_at {rows : List (List Int)} (h : mvA rows = true) : ∀ t ∈ rows, VT t ∧ Mo (T t) := fun t ht => by
  have := mvB_iff.1 (List.all_eq_true.1 h t ht)
  exact ⟨this.1, this.2.mo this.1⟩
def MaTk (rows : List (List Int)) (k : Nat) : Prop := ∀ t ∈ rows.take k, mvB t = true
theorem MaTk.step {rows : List (List Int)} {k : Nat} {t : List Int} (h : MaTk rows k) (ht : rows[k]? = some t) (hm : mvB t = true) : MaTk rows (k + 1) := fun u hu => by
  rw [List.take_add_one, ht] at hu
  rcases List.mem_append.1 hu with hu | hu
  · exact h u hu
  · obtain rfl : u = t := by simpa using hu
    exact hm
theorem MaTk.all {rows : List (List Int)} (h : MaTk rows rows.length) : mvA rows = true := List.all_eq_true.2 (fun t ht => h t (by rw [List.take_length]; exact ht))
theorem mvA_no {rows : List (List Int)} {k : Nat} {t : List Int} (ht : rows[k]? = some t) (hm : mvB t = false) : mvA rows = false := by
  unfold mvA
  rw [List.all_eq_false]
  exact ⟨t, List.mem_of_getElem? ht, by rw [hm]; simp⟩

set_option maxHeartbeats 800000 in
theorem movable_any (A : Option Addr) (c n : Nat) (rows : List (List Int)) (w : World) (hn : rows.length = n) (h : RdR w A c rows) (hl2 : ∀ r ∈ rows, r.length ≤ 1099511627776) (hl : n ≤ 1099511627776) :
    Calls Try.prog 20 #[.slice A n c] w fun e w' => e = .returned (.bool (mvA rows)) ∧ Below w.heap.size w w' := by
  have HN := Lib.hid hn
  have H2 := Lib.hid hl2
  clear hn hl2
  go_enter Try.func20, Try.ntmps20
  go_wp2
  go_loopw [3] (fun iv wr => ∃ k : Nat, k ≤ n ∧ iv = .int .i64 (k : Int) ∧ Below w.heap.size w wr ∧ Hid (MaTk rows k)) (fun iv _ => n - (intOf iv).toNat)
  case atStart => exact ⟨0, by omega, rfl, Below.refl _ _, Lib.hid (fun t ht => by simp at ht)⟩
  case round =>
    obtain ⟨k, hk, rfl, hb, HM⟩ := hrel
    by_cases hlt : k < n
    · obtain ⟨b, off, r, A', c', rfl, hr, hc, hcap, hrd⟩ := (h.below hb).at_ (k := k) (by rw [HN.out]; exact hlt)
      have HW := Lib.hid (SwapsByMoves_any A' c' r wr hrd.out (H2.out r (List.mem_of_getElem? hr.out)))
      have hk0 : (0 : Int) ≤ (k : Int) := by omega
      have hkn : (k : Int) < (n : Int) := by omega
      have hk1 : k + 1 ≤ n := hlt
      rcases hm : mvB r with _ | _
      · have HE := Lib.hid (mvA_no hr.out hm)
        rw [hm] at HW
        clear hm hr hrd hcap hlt
        go_wp2_with fail
        refine HW.out.mono ?_
        rintro e w2 ⟨rfl, b2⟩
        go_wp2
        go_ret
        exact ⟨by rw [HE.out]; rfl, below_then hb b2⟩
      · have HM' := Lib.hid (HM.out.step hr.out hm)
        rw [hm] at HW
        clear hm hr hrd hcap hlt
        go_wp2_with fail
        refine HW.out.mono ?_
        rintro e w2 ⟨rfl, b2⟩
        go_wp2
        go_roundw
        case rel => exact ⟨k + 1, hk1, by go_num, below_then hb b2, HM'⟩
        case measure => simp [intOf]; omega
    · obtain rfl : k = n := by omega
      have HE : Hid (mvA rows = true) := Lib.hid (by have := HM.out; rw [← HN.out] at this; exact this.all)
      go_wp2
      go_ret
      exact ⟨by rw [HE.out]; rfl, hb⟩

end Go.Proofs.Ytccbjgajmjcpjaa
