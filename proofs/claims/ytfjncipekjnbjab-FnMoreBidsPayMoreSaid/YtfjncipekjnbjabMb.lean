/-
  The laws of chapter 6: the walk of FnMoreBidsPayMore.
-/
import Derived.Test.YtfjncipekjnbjabMa
import Derived.Test.YtfjncipekjnbjabKm
import Derived.Test.YtfjncipekjnbjabQk
import Derived.Test.YtfjncipekjnbjabZh
namespace Go.Proofs.Ytfjncipekjnbjab
open Go.RowKit Go.Lib

theorem mvA_bad {rows : List (List Int)} (hl : rows.length ≤ 4) (h1 : 1 ≤ rows.length) (hv : ¬ VTs rows) : mvA rows = false := by
  rcases hb : mvA rows with _ | _
  · rfl
  · exact absurd ⟨⟨h1, hl⟩, fun t ht => (mvA_at hb t ht).1⟩ hv
theorem more_says {rows : List (List Int)} (hv : VTs rows) (h2 : 2 ≤ rows.length) (hm : mvA rows = true) : VTs (rows.take (rows.length - 1)) ∧ paidTo (rows.take (rows.length - 1)) (rows.length - 1) ≤ paidTo rows rows.length := by
  obtain ⟨ts, b, rfl⟩ : ∃ ts b, rows = ts ++ [b] := ⟨rows.dropLast, rows.getLast (by intro h; rw [h] at h2; simp at h2), (List.dropLast_concat_getLast _).symm⟩
  have hl : (ts ++ [b]).length = ts.length + 1 := by simp
  have e : (ts ++ [b]).take ((ts ++ [b]).length - 1) = ts := by rw [hl, Nat.add_sub_cancel, List.take_left']; rfl
  have h4 := hv.1.2
  rw [e]
  refine ⟨⟨⟨by omega, by omega⟩, fun t ht => hv.2 t (List.mem_append.2 (.inl ht))⟩, ?_⟩
  have := paid_more (ts := ts) (b := b) (by omega) (mvA_at hm)
  rw [hl] at this ⊢
  rw [Nat.add_sub_cancel]
  exact this

set_option maxHeartbeats 4000000 in
set_option maxRecDepth 100000 in
theorem fnMoreBidsPayMore_walk {A : Option Addr} {c : Nat} {xs : List Int} {w : World} (h : Came .u8 w A c xs) :
    Calls Try.prog 5 #[.slice A xs.length c] w fun e w' => e = .returned (.bool true) ∧ Below w.heap.size w w' := by
  by_cases hlen : 1048576 < xs.length
  · go_enter Try.func5, Try.ntmps5
    go_wp2
    go_ret
    exact ⟨rfl, Below.refl _ _⟩
  have hl1 : xs.length ≤ 1048576 := by omega
  have HD := Lib.hid (DrawBroughtIn_any A c xs w h)
  clear hlen h
  go_enter Try.func5, Try.ntmps5
  go_wp2_with fail
  refine HD.out.mono ?_
  rintro e w1 ⟨A1, c1, rows, rfl, hR, hl4, hl8, b1⟩
  have hl8' : ∀ r ∈ rows, r.length ≤ 1099511627776 := fun r hr => by have := hl8 r hr; omega
  obtain ⟨x, y, hbo⟩ := BroughtIn_both rows
  obtain ⟨hS, hI⟩ := hbo (by omega) hl8'
  have HS := Lib.hid hS
  have HI := Lib.hid hI
  have HYES := Lib.hid (fun (hv : VTs rows) w' (h : RdR w' A1 c1 rows) => BroughtIn_yes A1 c1 rows w' h hl8' hv)
  have HTAKE := Lib.hid (fun (m : Nat) (hv : VTs (rows.take m)) w' (c2 : Nat) (h : RdR w' A1 c2 (rows.take m)) => BroughtIn_yes A1 c2 (rows.take m) w' h (fun r hr => hl8' r (List.mem_of_mem_take hr)) hv)
  have hMV := fun w' (h : RdR w' A1 c1 rows) => movable_any A1 c1 rows.length rows w' rfl h hl8' (by omega)
  have p1 : (x != x) = false := by simp
  have p2 : (y != y) = false := by simp
  clear hS hI hbo HD hl8 hl8' hl1
  go_wp2_with fail
  refine (HI.out A1 c1 w1 hR).mono ?_
  rintro e w2 ⟨rfl, b2⟩
  have hR2 := hR.below b2
  have B2 := below_then b1 b2
  go_wp2_with fail
  refine (HS.out A1 c1 w2 hR2).mono ?_
  rintro e w3 ⟨rfl, b3⟩
  have hR3 := hR2.below b3
  have B3 := below_then B2 b3
  clear b1 b2 b3 hR hR2 B2 HS HI
  have ew : IntKind.i64.wrap ((rows.length : Int) - 1) = (rows.length : Int) - 1 := IntWalk.i64_in _ (by omega)
  by_cases hn : rows.length ≤ 1
  · have hn1 : (rows.length : Int) - 1 < 1 := by omega
    clear hn
    go_wp2
    go_ret
    exact ⟨rfl, B3⟩
  have hn1 : ¬ (rows.length : Int) - 1 < 1 := by omega
  rcases hm : mvA rows with _ | _
  · rw [hm] at hMV
    have HMV := Lib.hid hMV
    clear hm hMV hn
    go_wp2_with fail
    refine (HMV.out _ hR3).mono ?_
    rintro e w4 ⟨rfl, b4⟩
    go_wp2
    go_ret
    exact ⟨rfl, below_then B3 b4⟩
  · have hv : VTs rows := Classical.byContradiction (fun hv => by rw [mvA_bad hl4 (by omega) hv] at hm; cases hm)
    obtain ⟨hvt, hle⟩ := more_says hv (by omega) hm
    obtain ⟨b0, off0, rfl, _, _⟩ := hR3.open_ (by omega)
    have hcc := hR3.1
    rw [hm] at hMV
    have HMV := Lib.hid hMV
    have HY := Lib.hid (HYES.out hv)
    have HT := Lib.hid (HTAKE.out _ hvt)
    obtain ⟨m, hmm⟩ : ∃ m, rows.length = m + 1 := ⟨rows.length - 1, by omega⟩
    have hml : rows.length - 1 = m := by omega
    have htl : (rows.take m).length = m := by rw [List.length_take]; omega
    rw [hml] at HT hle
    rw [htl] at HT
    have HRT := Lib.hid (fun W (h : RdR W (some ⟨b0, off0, none⟩) c1 rows) => (h.take_ (c2 := c1) m (by omega) : RdR W (some ⟨b0, off0, none⟩) c1 (rows.take m)))
    obtain ⟨P, hP⟩ : ∃ P, P = paidTo rows rows.length := ⟨_, rfl⟩
    obtain ⟨Q, hQ⟩ : ∃ Q, Q = paidTo (rows.take m) m := ⟨_, rfl⟩
    rw [← hP] at HY hle
    rw [← hQ] at HT hle
    have e2 : (rows.length : Int) - 1 = (m : Int) := by omega
    have hle' : decide (Q ≤ P) = true := by simpa using hle
    rw [e2] at ew hn1
    rw [hmm] at HMV HY
    have hm1 : (m : Int) ≤ (m : Int) + 1 := by omega
    have hcm : (m : Int) ≤ (c1 : Int) := by omega
    clear hm hMV hv hvt hP hQ hml hn
    go_wp2_with fail
    refine (HMV.out _ hR3).mono ?_
    rintro e w4 ⟨rfl, b4⟩
    have hR4 := hR3.below b4
    have B4 := below_then B3 b4
    go_wp2_with fail
    refine (HY.out _ hR4).mono ?_
    rintro e w5 ⟨rfl, b5⟩
    have hR5 := hR4.below b5
    have B5 := below_then B4 b5
    go_wp2_with fail
    refine (HT.out _ _ (HRT.out _ hR5)).mono ?_
    rintro e w6 ⟨rfl, b6⟩
    go_wp2
    go_ret
    exact ⟨rfl, below_then B5 b6⟩

end Go.Proofs.Ytfjncipekjnbjab
