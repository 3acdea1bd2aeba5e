/-
  Chapter 7: loads by the program, and both sides of LoadAt.
-/
import Derived.Test.YtfjncipekjnbjabLb
import Derived.Test.YtfjncipekjnbjabJl
import Derived.Test.YtfjncipekjnbjabNe
import Derived.Test.YtfjncipekjnbjabWj
import Derived.Deep.RegionLaw
namespace Go.Proofs.Ytfjncipekjnbjab
open Go.RowKit

theorem Pr3.rd3 {w : World} {M : Nat} {p : List Int} (h : Pr3 w M p) (c : Nat) : Rd w (some ⟨M, 0, none⟩) c [T p 0, T p 1, T p 2] := .inr ⟨M, 0, rfl, fun k hk => by
  have hk3 : k < 3 := by simpa using hk
  rw [Nat.zero_add, h.cell hk3]
  rcases nat3 hk3 with rfl | rfl | rfl <;> rfl⟩
theorem some2_prices {p : List Int} (h : VP p) : Some2 [T p 0, T p 1, T p 2] := by
  obtain ⟨a, b, c⟩ := h.all
  intro x hx
  simp only [List.mem_cons, List.not_mem_nil, or_false] at hx
  rcases hx with rfl | rfl | rfl <;> omega

set_option maxRecDepth 100000 in
set_option maxHeartbeats 1000000 in
theorem loadOf_any (A : Option Addr) (c n : Nat) (ts : List (List Int)) (p : List Int) (w : World) (hn : ts.length = n) (h : RdR w A c ts) (hv : ∀ t ∈ ts, VT t) (h4 : n ≤ 4) (hp : VP p) :
    Calls Try.prog 106 #[.slice A n c, ag3 p] w fun e w' => e = .returned (.int .i64 (lo ts p)) ∧ Below w.heap.size w w' := by
  unfold ag3
  have HN := Lib.hid hn
  have HSB := Lib.hid (fun k => suS_take_bd hv hp k)
  have HVT := Lib.hid hv
  have HVP := Lib.hid hp
  have hpb := pr7_bd hp (k := 3) (by omega)
  have hps : [T p 0, T p 1, T p 2].sum = prTo p 7 3 := by simp [prTo]; omega
  clear hp hn hv
  have P1 := Pr3.new w p
  have B1 : Below w.heap.size w (w.alloc (.cells #[.int .i64 (T p 0), .int .i64 (T p 1), .int .i64 (T p 2)] 69)) := (Below.refl _ w).alloc (Nat.le_refl _) _
  have h1 := h.below B1
  obtain ⟨w1, hw1⟩ : ∃ w1, w1 = w.alloc (.cells #[.int .i64 (T p 0), .int .i64 (T p 1), .int .i64 (T p 2)] 69) := ⟨_, rfl⟩
  rw [← hw1] at P1 B1 h1
  have HW := Lib.hid hw1
  clear hw1 h
  go_enter Try.func106, Try.ntmps106
  go_wp2_with fail
  rw [← HW.out]
  have HSM := Lib.hid (sumU_any (some ⟨w.heap.size, 0, none⟩) 3 3 (prTo p 7 3) [T p 0, T p 1, T p 2] w1 rfl hps.symm (P1.rd3 3) (by decide) (some2_prices HVP.out))
  refine HSM.out.mono ?_
  rintro e w2 ⟨rfl, rfl⟩
  have HLO : Hid (∀ k, prTo p 7 3 + suS (ts.take k) p = pr p 7 + suS (ts.take k) p) := Lib.hid (fun _ => rfl)
  obtain ⟨P, hP⟩ : ∃ P, P = prTo p 7 3 := ⟨_, rfl⟩
  rw [← hP] at hpb HLO ⊢
  have HS0 : Hid (P = P + suS (ts.take 0) p) := Lib.hid (by simp [suS])
  have HP1 := Lib.hid P1
  clear hP hps HSM P1
  go_wp2_with fail
  go_loopw [5, 12] (fun o i wr => ∃ k : Nat, k ≤ n ∧ o = .int .i64 (P + suS (ts.take k) p) ∧ i = .int .i64 (k : Int) ∧ Below w1.heap.size w1 wr) (fun _ i _ => n - (intOf i).toNat)
  case atStart => exact ⟨0, by omega, by rw [← HS0.out], rfl, Below.refl _ _⟩
  case round =>
    obtain ⟨k, hk, rfl, rfl, hb⟩ := hrel
    by_cases hlt : k < n
    · obtain ⟨b, off, r, A', c', rfl, hr, hc, hcap, hrd⟩ := (h1.below hb).at_ (k := k) (by rw [HN.out]; exact hlt)
      have hvr := HVT.out r (List.mem_of_getElem? hr.out)
      have hst := suS_step p hr.out
      have hsb := HSB.out k
      rw [HN.out] at hsb
      have hub := suTo_bd hvr HVP.out (k := 8) (Nat.le_refl _)
      have hue : su r p = suTo r p 8 := rfl
      rw [← hue] at hub
      have HS0' := fun w1 => surplusOf_any r p w1 hvr HVP.out
      unfold ag8 ag3 at HS0'
      obtain ⟨br, ofr, rfl⟩ := hrd.out.some_ hvr.1
      have hap := arr_ptr br ofr c'
      obtain ⟨c0, c1, c2, c3, c4, c5, c6, c7⟩ := hrd.out.eight hvr.1
      have hP := HP1.out.keep (hb.block _ HP1.out.lt)
      have g0 := hP.cell (k := 0) (by omega)
      have g1 := hP.cell (k := 1) (by omega)
      have g2 := hP.cell (k := 2) (by omega)
      rw [hvr.1] at hc
      have HS := Lib.hid HS0'
      obtain ⟨u, hu⟩ : ∃ u, u = su r p := ⟨_, rfl⟩
      rw [← hu] at hub hst HS
      obtain ⟨V, hV⟩ : ∃ V, V = suS (ts.take k) p := ⟨_, rfl⟩
      rw [← hV] at hsb hst ⊢
      have HST := Lib.hid hst
      have e1 : IntKind.i64.wrap (P + V + u) = P + (V + u) := by rw [IntWalk.i64_in _ (by omega)]; omega
      have hk1 : k + 1 ≤ n := hlt
      have hkn : (k : Int) < (n : Int) := by omega
      clear hV hu hue hub hsb hr hvr hrd hcap hlt hP hst HS0'
      go_wp2_with fail
      have hbd := hb.drew
      go_region_law (first
        | (go_simp; go_at_call 112; (with_reducible refine (HS.out wr.drew).mono ?_); rintro e w2 ⟨rfl, hb2⟩; have hb3 := below_then hbd hb2)
        | fail)
      all_goals (
        go_wp2
        go_roundw
        case rel => exact ⟨k + 1, hk1, by rw [HST.out], by go_num, hb3⟩
        case measure => simp [intOf]; omega)
    · obtain rfl : k = n := by omega
      have HE : Hid (P + suS (ts.take k) p = lo ts p) := Lib.hid (by rw [HLO.out, List.take_of_length_le (by rw [HN.out]; omega)]; rfl)
      go_wp2
      go_ret
      exact ⟨by rw [HE.out]; rfl, below_then B1 hb⟩

set_option maxRecDepth 100000 in
set_option maxHeartbeats 800000 in
theorem LoadAt_any (A B : Option Addr) (c d : Nat) (ts : List (List Int)) (p : List Int) (w : World) (h : RdR w A c ts) (g : Rd w B d p) (hl2 : ∀ r ∈ ts, r.length ≤ 1099511627776) :
    Calls Try.prog 43 #[.slice A ts.length c, .slice B p.length d] w fun e w' => e = .returned (.int .i64 (loB ts p)) ∧ Below w.heap.size w w' := by
  have HV := Lib.hid (areTables_any A c ts w h hl2)
  have HQ := Lib.hid (fun w1 (g : Rd w1 B d p) => arePrices_any B d p w1 g)
  rcases hv : vtsB ts with _ | _
  · have HE := Lib.hid (loB_no (ts := ts) (p := p) (by rw [hv]; rfl))
    rw [hv] at HV
    clear hv
    go_enter Try.func43, Try.ntmps43
    go_wp2_with fail
    refine HV.out.mono ?_
    rintro e w1 ⟨rfl, b1⟩
    go_wp2
    go_ret
    exact ⟨by rw [HE.out]; rfl, b1⟩
  rcases hp : vp p with _ | _
  · have HE := Lib.hid (loB_no (ts := ts) (p := p) (by rw [hp]; simp))
    rw [hv] at HV
    rw [hp] at HQ
    clear hv hp
    go_enter Try.func43, Try.ntmps43
    go_wp2_with fail
    refine HV.out.mono ?_
    rintro e w1 ⟨rfl, b1⟩
    go_wp2_with fail
    refine (HQ.out _ (g.below b1)).mono ?_
    rintro e w2 ⟨rfl, rfl⟩
    go_wp2
    go_ret
    exact ⟨by rw [HE.out]; rfl, b1⟩
  · have HE := Lib.hid (loB_yes hv hp)
    have hvt := vtsB_iff.1 hv
    have hvp := vp_iff.1 hp
    have HL0 := fun w1 (h : RdR w1 A c ts) => loadOf_any A c ts.length ts p w1 rfl h hvt.2 hvt.1.2 hvp
    unfold ag3 at HL0
    have HL := Lib.hid HL0
    have h3 := hvp.1
    obtain ⟨b2, off2, rfl⟩ := g.some3 h3
    have hap3 := arr3_ptr b2 off2 d
    rw [hv] at HV
    rw [hp] at HQ
    rw [h3] at HQ ⊢
    clear hv hp hvt hvp HL0
    go_enter Try.func43, Try.ntmps43
    go_wp2_with fail
    refine HV.out.mono ?_
    rintro e w1 ⟨rfl, b1⟩
    go_wp2_with fail
    refine (HQ.out _ (g.below b1)).mono ?_
    rintro e w2 ⟨rfl, rfl⟩
    obtain ⟨g0, g1, g2⟩ := (g.below b1).three h3
    have h1 := h.below b1
    go_wp2_with fail
    refine (HL.out _ ?_).mono ?_
    · exact h1
    rintro e w3 ⟨rfl, b3⟩
    go_wp2
    go_ret
    exact ⟨by rw [HE.out]; rfl, below_then b1 b3⟩

theorem LoadAt_both (rows : List (List Int)) (told : List Int) : ∃ (v : Int), (rows.length ≤ 1099511627776 → (∀ r ∈ rows, r.length ≤ 1099511627776) → told.length ≤ 1099511627776 →
    (∀ A T c d w, RdR w A c rows → Rd w T d told → told.length ≤ d → Calls Try.prog 44 #[.slice A rows.length c, .slice T told.length d] w fun e w' => e = .returned (.int .i64 v) ∧ Below w.heap.size w w') ∧
    (∀ A T c d w, RdR w A c rows → Rd w T d told → told.length ≤ d → Calls Try.prog 43 #[.slice A rows.length c, .slice T told.length d] w fun e w' => e = .returned (.int .i64 v) ∧ Below w.heap.size w w')) :=
  ⟨loB rows told, fun hl hl2 hl3 => ⟨fun A T c d w h1 h2 _ => (SLoadAt_any A T c d rows told w h1 h2 hl hl2 hl3).mono fun e w' ⟨he, n, hn⟩ => ⟨he, by rw [hn]; exact below_drewN' (Below.refl _ _) n⟩,
    fun A T c d w h1 h2 _ => LoadAt_any A T c d rows told w h1 h2 hl2⟩⟩

end Go.Proofs.Ytfjncipekjnbjab
