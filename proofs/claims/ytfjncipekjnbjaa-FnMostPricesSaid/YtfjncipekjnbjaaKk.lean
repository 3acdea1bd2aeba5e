/-
  The laws of chapter 7: whether all tables may be moved; the draw and the walk of FnMostPrices.
-/
import Derived.Test.YtfjncipekjnbjaaQk
import Derived.Test.YtfjncipekjnbjaaQg
import Derived.Test.YtfjncipekjnbjaaJj
import Derived.Test.YtfjncipekjnbjaaLe
namespace Go.Proofs.Ytfjncipekjnbjaa
open Go.RowKit Go.Lib

set_option maxRecDepth 100000 in
theorem DrawMostPrices_any (A : Option Addr) (c : Nat) (xs : List Int) (w : World) (h : Came .u8 w A c xs) :
    Calls Try.prog 57 #[.slice A xs.length c] w (DrawnTs w) := by
  go_enter Try.func57, Try.ntmps57
  go_wp2_with fail
  refine (newReader_any A c xs w h).mono ?_
  rintro e w1 ⟨rb, rfl, hrb, hr1, hb1⟩
  go_wp2_with fail
  refine (pick_any rb 0 4 w1 hr1 (by decide) (by decide) (by decide)).mono ?_
  rintro e w2 ⟨m, rfl, hm2, _, hr2, hg2⟩
  have B2 := hb1.trans (gb_below hg2 hb1.size hrb)
  by_cases hm : m = 0
  · have hmb : (m == 0) = true := by simpa using hm
    clear hm
    go_wp2_with fail
    refine (easyTables_any rb 1 w2 hr2 (by decide)).mono ?_
    rintro e w3 ⟨v, ps, rfl, R3, hp4, hp8, hr3, hg3⟩
    have B3 := B2.trans (gb_below hg3 B2.size hrb)
    have H6 := Lib.hid (eight_map hp4 hp8)
    have HLN : Hid (ps.length = (ps.map (·.2.2)).length) := Lib.hid (by rw [List.length_map])
    obtain ⟨A2, c2, rfl, hR3⟩ := R3.rdr rfl
    clear hp8 hg3 R3 hg2 hmb
    go_wp2
    go_ret
    exact ⟨A2, c2, ps.map (·.2.2), by rw [← HLN.out]; rfl, hR3, H6.out.1, H6.out.2, B3⟩
  · have hmb : (m == 0) = false := by simpa using hm
    clear hm
    go_wp2_with fail
    refine (someTables_any rb 1 w2 hr2 (by decide)).mono ?_
    rintro e w3 ⟨v, ps, rfl, R3, hp4, hp8, hr3, hg3⟩
    have B3 := B2.trans (gb_below hg3 B2.size hrb)
    have H6 := Lib.hid (eight_map hp4 hp8)
    have HLN : Hid (ps.length = (ps.map (·.2.2)).length) := Lib.hid (by rw [List.length_map])
    obtain ⟨A2, c2, rfl, hR3⟩ := R3.rdr rfl
    clear hp8 hg3 R3 hg2 hmb
    go_wp2
    go_ret
    exact ⟨A2, c2, ps.map (·.2.2), by rw [← HLN.out]; rfl, hR3, H6.out.1, H6.out.2, B3⟩

/-- The things of all tables may be moved. -/
noncomputable def mvA (rows : List (List Int)) : Bool := rows.all mvB
theorem mvA_at {rows : List (List Int)} (h : mvA rows = true) : ∀ t ∈ rows, VT t ∧ Mo (T t) := fun t ht => by
  have := mvB_iff.1 (List.all_eq_true.1 h t ht)
  exact ⟨this.1, this.2.mo this.1⟩
def MaTk (rows : List (List Int)) (k : Nat) : Prop := ∀ t ∈ rows.take k, mvB t = true
theorem MaTk.step {rows : List (List Int)} {k : Nat} {t : List Int} (h : MaTk rows k) (ht : rows[k]? = some t) (hm : mvB t = true) : MaTk rows (k + 1) := fun u hu => by
  rw [List.take_add_one, ht] at hu
  rcases List.mem_append.1 hu with hu | hu
  · exact h u hu
  · obtain rfl : u = t := by simpa using hu
    exact hm
theorem MaTk.all {rows : List (List Int)} (h : MaTk rows rows.length) : mvA rows = true := List.all_eq_true.2 (fun t ht => h t (by rw [List.take_length]; exact ht))
theorem mvA_no {rows : List (List Int)} {k : Nat} {t : List Int} (ht : rows[k]? = some t) (hm : mvB t = false) : mvA rows = false := by
  unfold mvA
  rw [List.all_eq_false]
  exact ⟨t, List.mem_of_getElem? ht, by rw [hm]; simp⟩

set_option maxHeartbeats 800000 in
theorem movable_any (A : Option Addr) (c n : Nat) (rows : List (List Int)) (w : World) (hn : rows.length = n) (h : RdR w A c rows) (hl2 : ∀ r ∈ rows, r.length ≤ 1099511627776) (hl : n ≤ 1099511627776) :
    Calls Try.prog 18 #[.slice A n c] w fun e w' => e = .returned (.bool (mvA rows)) ∧ Below w.heap.size w w' := by
  have HN := Lib.hid hn
  have H2 := Lib.hid hl2
  clear hn hl2
  go_enter Try.func18, Try.ntmps18
  go_wp2
  go_loopw [3] (fun iv wr => ∃ k : Nat, k ≤ n ∧ iv = .int .i64 (k : Int) ∧ Below w.heap.size w wr ∧ Hid (MaTk rows k)) (fun iv _ => n - (intOf iv).toNat)
  case atStart => exact ⟨0, by omega, rfl, Below.refl _ _, Lib.hid (fun t ht => by simp at ht)⟩
  case round =>
    obtain ⟨k, hk, rfl, hb, HM⟩ := hrel
    by_cases hlt : k < n
    · obtain ⟨b, off, r, A', c', rfl, hr, hc, hcap, hrd⟩ := (h.below hb).at_ (k := k) (by rw [HN.out]; exact hlt)
      have HW := Lib.hid (SwapsByMoves_any A' c' r wr hrd.out (H2.out r (List.mem_of_getElem? hr.out)))
      have hk0 : (0 : Int) ≤ (k : Int) := by omega
      have hkn : (k : Int) < (n : Int) := by omega
      have hk1 : k + 1 ≤ n := hlt
      rcases hm : mvB r with _ | _
      · have HE := Lib.hid (mvA_no hr.out hm)
        rw [hm] at HW
        clear hm hr hrd hcap hlt
        go_wp2_with fail
        refine HW.out.mono ?_
        rintro e w2 ⟨rfl, b2⟩
        go_wp2
        go_ret
        exact ⟨by rw [HE.out]; rfl, below_then hb b2⟩
      · have HM' := Lib.hid (HM.out.step hr.out hm)
        rw [hm] at HW
        clear hm hr hrd hcap hlt
        go_wp2_with fail
        refine HW.out.mono ?_
        rintro e w2 ⟨rfl, b2⟩
        go_wp2
        go_roundw
        case rel => exact ⟨k + 1, hk1, by go_num, below_then hb b2, HM'⟩
        case measure => simp [intOf]; omega
    · obtain rfl : k = n := by omega
      have HE : Hid (mvA rows = true) := Lib.hid (by have := HM.out; rw [← HN.out] at this; exact this.all)
      go_wp2
      go_ret
      exact ⟨by rw [HE.out]; rfl, hb⟩

/-- The greatest worth of thing j alone, of the first k tables. -/
def oneTo (rows : List (List Int)) (j : Nat) : Nat → Int
  | 0 => 0
  | k + 1 => if oneTo rows j k < T (rows.getD k []) (2 ^ j) then T (rows.getD k []) (2 ^ j) else oneTo rows j k
theorem oneTo_ge (rows : List (List Int)) (j : Nat) : ∀ k, 0 ≤ oneTo rows j k ∧ ∀ i, i < k → T (rows.getD i []) (2 ^ j) ≤ oneTo rows j k
  | 0 => ⟨Int.le_refl _, fun i hi => absurd hi (by omega)⟩
  | k + 1 => by
    obtain ⟨h1, h2⟩ := oneTo_ge rows j k
    simp only [oneTo]
    refine ⟨by split <;> omega, fun i hi => ?_⟩
    rcases Nat.lt_or_ge i k with h3 | h3
    · have := h2 i h3
      split <;> omega
    · obtain rfl : i = k := by omega
      split <;> omega
theorem oneF_le {rows : List (List Int)} {j : Nat} {c : Int} (h0 : 0 ≤ c) (h : ∀ t ∈ rows, T t (2 ^ j) ≤ c) : oneF rows j ≤ c := by
  induction rows with
  | nil => exact h0
  | cons t ts ih =>
    have h1 := ih (fun u hu => h u (by simp [hu]))
    have h2 := h t (by simp)
    simp only [oneF]
    omega
theorem oneF_to (rows : List (List Int)) (j : Nat) : oneF rows j ≤ oneTo rows j rows.length := oneF_le (oneTo_ge rows j rows.length).1 (fun t ht => by
  obtain ⟨i, hi, he⟩ := List.mem_iff_getElem.1 ht
  have := (oneTo_ge rows j rows.length).2 i hi
  rw [List.getD_eq_getElem?_getD, List.getElem?_eq_getElem hi, Option.getD_some, he] at this
  exact this)
theorem oneTo_step {rows : List (List Int)} {j k : Nat} {t : List Int} (h : rows[k]? = some t) : oneTo rows j (k + 1) = if oneTo rows j k < T t (2 ^ j) then T t (2 ^ j) else oneTo rows j k := by
  simp only [oneTo]
  rw [List.getD_eq_getElem?_getD, h, Option.getD_some]
theorem mpL_some {rows : List (List Int)} (h : (mpL rows).length ≠ 0) : VTs rows ∧ mpL rows = vls (mpF rows) 3 := by
  by_cases hv : VTs rows
  · exact ⟨hv, mpL_yes hv⟩
  · rw [mpL_no (vtsB_false hv)] at h; exact absurd rfl h

end Go.Proofs.Ytfjncipekjnbjaa
